import Derived.Test.YtknfddakpfkcfabDoorJxB
namespace Go.Proofs.YtknfddakpfkcfabDoor
open Go.RowKit
/-! What is taken is what the function of texts gives, one at a time. -/
theorem tkN_zero (P T : Nat → Int) : tkN P T 0 = [] := by unfold tkN; rw [wy_zero]; rfl
theorem tkN_kid {n : Nat} {P T D : Nat → Int} (ht : okT n P T D) {a i : Nat} {t : Int} (k : Kd n P T a t i) : tkN P T i = tkN P T a ++ [t] := by
  have hi := k.pos ht
  obtain ⟨_, e⟩ := wy_step ht hi k.1
  have ea : (P i).toNat = a := by have := k.2.1; omega
  rw [ea] at e
  have h1 := (wy_chain ht a (by have := k.gt ht; have := k.1; omega)).1
  unfold tkN
  rw [e, List.tail_append_of_ne_nil (by intro q; rw [q] at h1; simp at h1), List.map_append, List.map_cons, List.map_nil, k.2.2]
/-- what is taken so far -/
noncomputable def upT (n : Nat) (P T C : Nat → Int) (i : Nat) : List Int := (List.range i).map (fun j => C (wyF n P T C j))
theorem upT_succ (n : Nat) (P T C : Nat → Int) (i : Nat) : upT n P T C (i + 1) = upT n P T C i ++ [C (wyF n P T C i)] := by
  unfold upT
  rw [List.range_succ, List.map_append, List.map_cons, List.map_nil]
theorem upT_len (n : Nat) (P T C : Nat → Int) (i : Nat) : (upT n P T C i).length = i := by simp [upT]
theorem tk_way {n : Nat} {P T D C : Nat → Int} (ht : okT n P T D) {m : Nat} (h : WyE n P T C m) : ∀ j, j < m → tkN P T (wyF n P T C j) = upT n P T C j := by
  intro j
  induction j with
  | zero => intro _; exact tkN_zero P T
  | succ j ih =>
    intro hj
    rw [tkN_kid ht (h.kid hj), ih (by omega), upT_succ]
/-- the way's choices -/
theorem bt_way {n : Nat} {P T C : Nat → Int} {m : Nat} (h : WyE n P T C m) {i : Nat} (hi : i < m) : bt T (fun j => ((wyF n P T C j : Nat) : Int)) (C (wyF n P T C (m - 1))) m i = C (wyF n P T C i) := by
  unfold bt
  by_cases c : i + 1 < m
  · rw [if_pos c, Int.toNat_natCast]
    exact (h.kid c).2.2
  · rw [if_neg c, show m - 1 = i by omega]
/-- what kid tells of the way's node -/
theorem kid_way {n : Nat} {P T D C : Nat → Int} (ht : okT n P T D) {m : Nat} (h : WyE n P T C m) {i k : Nat} (hi : i < m) (hk : (k = 0 ∧ ∀ x, x < n → ¬ (P x = ((wyF n P T C i : Nat) : Int) ∧ T x = C (wyF n P T C i))) ∨ Kd n P T (wyF n P T C i) (C (wyF n P T C i)) k) : (k = 0 ∧ i + 1 = m) ∨ (1 ≤ k ∧ i + 1 < m ∧ k = wyF n P T C (i + 1)) := by
  rcases hk with ⟨k0, hn⟩ | hk
  · refine .inl ⟨k0, ?_⟩
    have e : wyF n P T C (i + 1) = n := nx_none hn
    rcases Nat.lt_or_ge (i + 1) m with q | q
    · have := h.lt (i + 1) q; omega
    · omega
  · have e : wyF n P T C (i + 1) = k := nx_of ht hk
    refine .inr ⟨hk.pos ht, ?_, e.symm⟩
    rcases Nat.lt_or_ge (i + 1) m with q | q
    · exact q
    · have e2 : wyF n P T C m = n := h.ends
      have : i + 1 = m := by omega
      rw [← this, e] at e2
      have := hk.1
      omega
/-- the last sentence of the law -/
theorem last_of {f : Nat → Int} {m : Nat} {most : Int} {r : Nat} {ov : Bool} (h : TkE f m most r ov) (hm : 1 ≤ most) {x : Int} (hx : x = min (((min r (m - 1) : Nat) : Int) + 1) most) :
    (r : Int) ≤ x ∧ ((r : Int) < x → f (r - 1) = 0) ∧ (ov = true ↔ (f (r - 1) = 0 ∨ (r : Int) = most)) := by
  have hp := h.pos
  have hl := h.le
  have hrm : (r : Int) ≤ most := by
    rcases Int.lt_or_le most (r : Int) with q | q
    · have := (h.no (most.toNat - 1) (by omega)).2
      omega
    · exact q
  refine ⟨by omega, fun q => ?_, ?_⟩
  · cases ov with
    | true =>
      rcases h.yes rfl with e | e
      · exact e
      · omega
    | false =>
      have := (h.ends rfl).1
      omega
  · cases ov with
    | true => exact ⟨fun _ => h.yes rfl, fun _ => rfl⟩
    | false =>
      have := h.ends rfl
      exact ⟨fun q => absurd q (by simp), fun q => absurd q (by rintro (q | q); exact this.2.1 q; exact this.2.2 q)⟩
theorem TkP.out2 {n : Nat} {P T D : Nat → Int} {l : Nat} {W : Nat → Int} {next most : Int} {w w' : World} {e : Ending} (h : TkP n P T D l W next most w e w') : ∃ v r ov er, e = .returned (.tuple #[v, .bool ov, .int .i64 er]) ∧ TkA n P T D l W next most w w' v r ov er := h
end Go.Proofs.YtknfddakpfkcfabDoor
