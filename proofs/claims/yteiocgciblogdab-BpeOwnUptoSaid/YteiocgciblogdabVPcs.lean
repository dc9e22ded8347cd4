import Derived.Test.YteiocgciblogdabVCnt
import Derived.Test.YteiocgciblogdabVUnl
import Derived.Test.YteiocgciblogdabVCat
import Derived.Test.YteiocgciblogdabHeld
namespace Go.Proofs.Yteiocgciblogdab
open Go.RowKit
/-! pieces. -/
/-- a byte list of the call's own: what stands in it -/
def PieceAt (w : World) (base : Nat) (u : Value) (l : List Int) : Prop :=
  ∃ g k, u = .slice g l.length k ∧ l.length ≤ k ∧ k ≤ maxLen ∧ (0 < l.length → ∃ b, g = some ⟨b, 0, none⟩ ∧ base ≤ b ∧ b < w.heap.size ∧ ∀ j, j < l.length → w.cell? ⟨b, j, none⟩ = some (.int .u8 (l.getD j 0)))
theorem PieceAt.nil (w : World) (base : Nat) : PieceAt w base (.slice none 0 0) [] := ⟨none, 0, rfl, by simp, by simp [maxLen], fun h => absurd h (by simp)⟩
theorem PieceAt.fresh {w w' : World} {base : Nat} {u : Value} {l : List Int} (h : PieceAt w base u l) (f : Below w.heap.size w w') : PieceAt w' base u l := by
  obtain ⟨g, k, e, h1, h2, h3⟩ := h
  refine ⟨g, k, e, h1, h2, fun h0 => ?_⟩
  obtain ⟨b, e, hb, hl, hc⟩ := h3 h0
  exact ⟨b, e, hb, Nat.lt_of_lt_of_le hl f.size, fun j hj => fresh_cell f (hc j hj)⟩
theorem PieceAt.one {u : Value} {w : World} {base : Nat} {l : List Int} (h : PieceAt w base u l) : u.oneCell' = true := by
  obtain ⟨g, k, rfl, _⟩ := h; rfl
/-- .. through an append to another list -/
theorem PieceAt.app {w w' : World} {base : Nat} {u v v' : Value} {l : List Int} (h : PieceAt w base u l) (ha : App w w' v v') (ho : 0 < l.length → Off v u) : PieceAt w' base u l := by
  obtain ⟨g, k, rfl, h1, h2, h3⟩ := h
  refine ⟨g, k, rfl, h1, h2, fun h0 => ?_⟩
  obtain ⟨b, rfl, hb, hl, hc⟩ := h3 h0
  have hn : v.ownBlock ≠ some b := fun e => ho h0 b e rfl
  exact ⟨b, rfl, hb, Nat.lt_of_lt_of_le hl ha.grown.size, fun j hj => ha.cell (hc j hj) hn⟩
/-- a table of tokens' bytes, n of them -/
structure TabAt (w : World) (base : Nat) (d : VD) (v : Value) (n : Nat) (A : Nat → Value) : Prop where
  own : Own w base 22 1 v n A
  at_ : ∀ t, t < n → PieceAt w base (A t) (d.pc t)
  off : ∀ t, t < n → 0 < (d.pc t).length → Off v (A t)
def upd (A : Nat → Value) (n : Nat) (u : Value) : Nat → Value := fun i => if i = n then u else A i
theorem upd_at (A : Nat → Value) (n : Nat) (u : Value) : upd A n u n = u := if_pos rfl
theorem upd_lt (A : Nat → Value) {n i : Nat} (u : Value) (h : i < n) : upd A n u i = A i := if_neg (by omega)
/-- One token more. -/
theorem TabAt.next {w w' : World} {base : Nat} {d : VD} {v v' u : Value} {n : Nat} {A : Nat → Value} (h : TabAt w base d v n A) (hu : PieceAt w base u (d.pc n)) (hou : Off v u) (ho : Own w' base 22 1 v' (n + 1) (upd A n u)) (ha : App w w' v v') : TabAt w' base d v' (n + 1) (upd A n u) := by
  have offn : ∀ {x : Value} {l : List Int}, PieceAt w base x l → 0 < l.length → Off v x → Off v' x := fun {x l} hx hl hoff k hk hxk => by
    rcases ha.blk k hk with e | e
    · exact hoff k e hxk
    · obtain ⟨g, c, rfl, _, _, h3⟩ := hx
      obtain ⟨b, rfl, _, hlt, _⟩ := h3 hl
      simp only [Value.ownBlock, Option.some.injEq] at hxk
      omega
  refine ⟨ho, fun t ht => ?_, fun t ht h0 => ?_⟩
  · by_cases e : t = n
    · subst e; rw [upd_at]; exact hu.app ha (fun _ => hou)
    · rw [upd_lt A u (by omega)]; exact (h.at_ t (by omega)).app ha (h.off t (by omega))
  · by_cases e : t = n
    · subst e; rw [upd_at]; exact offn hu h0 hou
    · rw [upd_lt A u (by omega)]; exact offn (h.at_ t (by omega)) h0 (h.off t (by omega) h0)
theorem TabAt.fresh {w w' : World} {base : Nat} {d : VD} {v : Value} {n : Nat} {A : Nat → Value} (h : TabAt w base d v n A) (f : Below w.heap.size w w') : TabAt w' base d v n A :=
  ⟨h.own.kept f, fun t ht => (h.at_ t ht).fresh f, h.off⟩
theorem off_new {w : World} {base : Nat} {v : Value} {n : Nat} {A : Nat → Value} (h : Own w base 22 1 v n A) {b : Nat} (hb : w.heap.size ≤ b) (m k : Nat) : Off v (.slice (some ⟨b, 0, none⟩) m k) := fun j hj e => by
  have := (h.lt j hj).2
  simp only [Value.ownBlock, Option.some.injEq] at e
  omega
set_option maxHeartbeats 1000000 in
theorem pieces_cnt {w : World} {d : VD} {bo po : Option Addr} {cb cp : Nat} (hb : RdA w bo 1 d.nb cb (fun i => .int .u8 (d.B i))) (hp : RdA w po 2 d.np cp (tcs d.P d.Q)) (h : ¬ (d.cnt ∧ (∀ i, i < d.nb → d.newB i) ∧ (∀ j, j < d.np → d.newP j))) :
    Calls Try.prog 29 #[.agg #[.slice bo d.nb cb, .slice po d.np cp]] w fun e w' => e = .returned (.slice none 0 0) ∧ Below w.heap.size w w' := by
  have n1 := Nat.le_trans hb.le hb.top
  have hf0 := fresh_alloc w (.cells #[.slice bo d.nb cb, .slice po d.np cp] 25)
  have HC := hidd (show ∀ (w : World) (r : Bool), (r = true ↔ d.cnt) → Calls Try.prog 37 #[.agg #[.slice bo d.nb cb, .slice po d.np cp]] w fun e w' => e = .returned (.bool r) ∧ Below w.heap.size w w' from fun w r hr => counted_any n1 r hr)
  by_cases h1 : d.cnt
  · by_cases h2 : ∀ i, i < d.nb → d.newB i
    · have h3 : ¬ ∀ j, j < d.np → d.newP j := fun x => h ⟨h1, h2, x⟩
      have E1 := hidd h1
      have E2 := hidd h2
      have E3 := hidd h3
      clear h h1 h2 h3
      go_enter Try.func29, Try.ntmps29
      go_wp2_with fail
      refine (HC.out _ true ⟨fun _ => E1.out, fun _ => rfl⟩).mono ?_
      rintro e w2 ⟨rfl, hf2⟩
      have hf2' := fresh_trans hf0 hf2
      have k1 := fresh_cell hf2 (show (w.alloc (.cells #[.slice bo d.nb cb, .slice po d.np cp] 25)).cell? ⟨w.heap.size, 0, none⟩ = some (.slice bo d.nb cb) by simp)
      have k2 := fresh_cell hf2 (show (w.alloc (.cells #[.slice bo d.nb cb, .slice po d.np cp] 25)).cell? ⟨w.heap.size, 1, none⟩ = some (.slice po d.np cp) by simp)
      clear hf2
      go_wp2_with fail
      refine (unlikeB_any (hb.fresh hf2') true ⟨fun _ => E2.out, fun _ => rfl⟩).mono ?_
      rintro e w3 ⟨rfl, hw3⟩
      rw [hw3]
      clear hw3
      go_wp2_with fail
      refine (unlikeP_any (hp.fresh hf2') false ⟨(fun h => nomatch h), fun h => absurd h E3.out⟩).mono ?_
      rintro e w4 ⟨rfl, hf4⟩
      have hf4' := fresh_trans hf2' hf4
      clear hf4 k1 k2
      go_wp2
      go_ret
      exact ⟨rfl, hf4'⟩
    · have E1 := hidd h1
      have E2 := hidd h2
      clear h h1 h2
      go_enter Try.func29, Try.ntmps29
      go_wp2_with fail
      refine (HC.out _ true ⟨fun _ => E1.out, fun _ => rfl⟩).mono ?_
      rintro e w2 ⟨rfl, hf2⟩
      have hf2' := fresh_trans hf0 hf2
      have k1 := fresh_cell hf2 (show (w.alloc (.cells #[.slice bo d.nb cb, .slice po d.np cp] 25)).cell? ⟨w.heap.size, 0, none⟩ = some (.slice bo d.nb cb) by simp)
      have k2 := fresh_cell hf2 (show (w.alloc (.cells #[.slice bo d.nb cb, .slice po d.np cp] 25)).cell? ⟨w.heap.size, 1, none⟩ = some (.slice po d.np cp) by simp)
      clear hf2
      go_wp2_with fail
      refine (unlikeB_any (hb.fresh hf2') false ⟨(fun h => nomatch h), fun h => absurd h E2.out⟩).mono ?_
      rintro e w3 ⟨rfl, hw3⟩
      rw [hw3]
      clear hw3
      go_wp2
      go_ret
      exact ⟨rfl, hf2'⟩
  · have E1 := hidd h1
    clear h h1
    go_enter Try.func29, Try.ntmps29
    go_wp2_with fail
    refine (HC.out _ false ⟨(fun h => nomatch h), fun h => absurd h E1.out⟩).mono ?_
    rintro e w2 ⟨rfl, hf2⟩
    have hf2' := fresh_trans hf0 hf2
    clear hf2
    go_wp2
    go_ret
    exact ⟨rfl, hf2'⟩
end Go.Proofs.Yteiocgciblogdab
