import Derived.Test.YtakekdbclmgeoaaTrI
namespace Go.Proofs.Ytakekdbclmgeoaa
open Go.RowKit
/-! The reference's Way and Above. -/
theorem infoI : (Try.prog.info? 3).map (fun i => (i.zero, i.size, i.bytes)) = some (some (.int .i64 0), 1, 8) := by kernel_rfl
/-- the places on the way -/
def wy (P : Nat → Int) : Nat → List Nat
  | 0 => [0]
  | i + 1 => if _h : (P (i + 1)).toNat < i + 1 then wy P (P (i + 1)).toNat ++ [i + 1] else []
termination_by i => i
theorem wy_step {n i : Nat} {P T D : Nat → Int} (h : okT n P T D) (h1 : 1 ≤ i) (h2 : i < n) : (P i).toNat < i ∧ wy P i = wy P (P i).toNat ++ [i] := by
  obtain ⟨j, rfl⟩ : ∃ j, i = j + 1 := ⟨i - 1, by omega⟩
  obtain ⟨g1, g2, _⟩ := h.2.2.2.2 (j + 1) h1 h2
  have hp : (P (j + 1)).toNat < j + 1 := by omega
  refine ⟨hp, ?_⟩
  rw [wy, dif_pos hp]
theorem wy_zero (P : Nat → Int) : wy P 0 = [0] := by rw [wy]
theorem wy_len {n : Nat} {P T D : Nat → Int} (h : okT n P T D) : ∀ i, i < n → (wy P i).length ≤ i + 1 ∧ ∀ x ∈ wy P i, x ≤ i := by
  intro i
  induction i using Nat.strongRecOn with
  | ind i ih =>
    intro hi
    by_cases h0 : i = 0
    · subst h0
      rw [wy_zero]
      simp
    · obtain ⟨hp, he⟩ := wy_step h (by omega) hi
      obtain ⟨l1, l2⟩ := ih _ hp (by omega)
      rw [he]
      refine ⟨by rw [List.length_append]; simp; omega, fun x hx => ?_⟩
      rcases List.mem_append.1 hx with hx | hx
      · have := l2 x hx; omega
      · simp at hx; omega
def qF (L : List Nat) : Nat → Value := fun j => .int .i64 ((L.getD j 0 : Nat) : Int)
theorem qF_app (L : List Nat) (x : Nat) {j : Nat} (hj : j < L.length) : qF L j = qF (L ++ [x]) j := by
  unfold qF
  rw [List.getD_eq_getElem?_getD, List.getD_eq_getElem?_getD, List.getElem?_append_left hj]
theorem qF_at (L : List Nat) (x : Nat) : qF (L ++ [x]) L.length = .int .i64 (x : Int) := by
  unfold qF
  rw [List.getD_eq_getElem?_getD, List.getElem?_append_right (Nat.le_refl _)]
  simp
theorem lit0 (w : World) : Own (w.alloc (.cells #[.int .i64 0] 3)) w.heap.size 3 1 (.slice (some ⟨w.heap.size, 0, none⟩) 1 1) 1 (qF [0]) := by
  refine ⟨by simp, .inr ⟨w.heap.size, 1, #[.int .i64 0], rfl, Nat.le_refl _, ?_, Nat.le_refl _, by simp [maxLen], by simp, by simp [qF]⟩⟩
  exact Go.Deep.blk_alloc_new _ _
set_option maxRecDepth 20000 in
set_option maxHeartbeats 1600000 in
theorem way_any {n : Nat} {P T D : Nat → Int} (hk : okT n P T D) : ∀ (i : Nat), i < n → ∀ {w : World} {ao : Option Addr} {cap : Nat}, RdA w ao 3 n cap (nds P T D) →
    Calls Try.prog 33 #[.slice ao n cap, .int .i64 i] w fun e w' => ∃ u c, e = .returned (.slice u (wy P i).length c) ∧ Own w' w.heap.size 3 1 (.slice u (wy P i).length c) (wy P i).length (qF (wy P i)) ∧ Below w.heap.size w w' := by
  intro i
  induction i using Nat.strongRecOn with
  | ind i ih =>
    intro hi w ao cap h
    by_cases h0 : i = 0
    · subst h0
      have HL := hidd (lit0 w)
      rw [wy_zero]
      go_enter Try.func33, Try.ntmps33
      go_wp2
      go_ret
      exact ⟨_, _, rfl, HL.out, fresh_alloc _ _⟩
    · have d1 : decide ((i : Int) ≤ 0) = false := decide_eq_false (by omega)
      have hle := hk.2.1
      obtain ⟨hp, he⟩ := wy_step hk (by omega) hi
      obtain ⟨g1, g2, _⟩ := hk.2.2.2.2 i (by omega) hi
      obtain ⟨q, hq⟩ : ∃ q : Nat, P i = (q : Int) := ⟨(P i).toNat, by omega⟩
      rw [hq, Int.toNat_natCast] at hp he
      have HWY := hidd (ih q hp (by omega) h)
      obtain ⟨b1, o1, rfl, hc1⟩ := h.node (by omega)
      obtain ⟨c1, _, _⟩ := hc1 i hi
      rw [hq] at c1
      have hln := (wy_len hk q (by omega)).1
      have gi : (i : Int) < (n : Int) := by omega
      obtain ⟨L, HHL⟩ : ∃ L, Hid (L = wy P q) := ⟨_, rfl⟩
      rw [he, ← HHL.out, List.length_append, List.length_cons, List.length_nil]
      rw [← HHL.out] at HWY hln
      have HHX : Hid (∀ (w1 : World) (u : Option Addr) (uc : Nat), Own w1 w.heap.size 3 1 (.slice u L.length uc) L.length (qF L) → Below w.heap.size w w1 → Hid (Own w1 w.heap.size 3 1 (.slice u L.length uc) L.length (qF (L ++ [i]))) ∧ Hid (∀ (w0 : World) (t : TypeId), (w0.alloc (.cells #[.int .i64 (i : Int)] t)).cell? ⟨w0.heap.size, 0, none⟩ = some (qF (L ++ [i]) L.length)) ∧ Hid (Below w.heap.size w w1) ∧ w.heap.size ≤ w1.heap.size) := by
        intro w1 u uc ho1 hb1
        refine ⟨ho1.congr (fun j hj => qF_app L i (by omega)), fun w0 t => ?_, hb1, hb1.size⟩
        rw [qF_at, new_cell]
      have HONE : Hid ((qF (L ++ [i]) L.length).oneCell' = true) := by show _ = _; unfold qF; rfl
      clear h ih hc1 he hq g1 g2
      go_enter Try.func33, Try.ntmps33
      go_wp2_with (first
        | (go_at_call 33; with_reducible refine HWY.out.mono ?_; rintro e w1 ⟨u, uc, rfl, ho1, hb1⟩; obtain ⟨HO1, HX, HB1, hsz⟩ := HHX.out w1 u uc ho1 hb1; clear ho1 hb1 HWY HHX)
        | (at_builtin; refine wpList_app1 _ rfl _ _ 47 rfl w.heap.size 3 (.int .i64 0) 8 Try.underlying47 infoI rfl _ L.length (qF (L ++ [i])) rfl (HO1.out.kept (fresh_alloc _ _)) _ 1 rfl (HX.out _ _) HONE.out (by omega) (by omega) (by simp; omega) ?_))
      intro v' w2 hown' happ
      have HF2 := hidd (happ.below (HB1.out.alloc hsz _) (HO1.out.kept (fresh_alloc _ _)) (Nat.le_refl _) (by simp; omega))
      obtain ⟨u2, c2, rfl, _⟩ := hown'.rd
      have HO2 := hidd hown'
      clear happ hown' HO1 HX HB1 HONE
      go_wp2
      go_ret
      exact ⟨_, _, rfl, HO2.out, HF2.out⟩
end Go.Proofs.Ytakekdbclmgeoaa
