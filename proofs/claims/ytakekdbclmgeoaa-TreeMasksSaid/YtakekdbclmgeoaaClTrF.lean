import Derived.Test.YtakekdbclmgeoaaClTrA
import Derived.Lib.SliceRun
namespace Go.Proofs.Ytakekdbclmgeoaa.Cl
open Go.RowKit
/-! Clone, first, Cut on both sides. -/
theorem own_emptyZ (w : World) (t : TypeId) (sz : Nat) (cs : Nat → Value) : Own (w.alloc (.cells #[] t)) w.heap.size t sz (.slice (some ⟨w.heap.size, 0, none⟩) 0 0) 0 cs := by
  refine ⟨by simp, .inr ⟨w.heap.size, 0, #[], rfl, Nat.le_refl _, ?_, Nat.le_refl _, by simp [maxLen], by simp, by simp⟩⟩
  exact Go.Deep.blk_alloc_new _ _
theorem eqNil_N (a : Addr) (n k : Nat) (w : World) : (binOp .eql 29 (.slice (some a) n k) (.slice none 0 0)).run Try.prog w = .ok (.bool false) w := by
  exact Lib.run_eql_slice_nil (P := Try.prog) w 29 54 (some a) n k 0 0 Try.underlying29
theorem Own.at_ {w : World} {base : Nat} {e : TypeId} {sz n c : Nat} {u : Option Addr} {cs : Nat → Value} (h : Own w base e sz (.slice u n c) n cs) (hn : 0 < n) : ∃ g, u = some ⟨g, 0, none⟩ ∧ base ≤ g ∧ g < w.heap.size ∧ (∀ j, j < n * sz → w.cell? ⟨g, j, none⟩ = some (cs j)) ∧ (∀ j, w.frozen? ⟨g, j, none⟩ = false) := by
  obtain ⟨ao, cap, e1, hr⟩ := h.rd
  injection e1 with e2 _ e3
  subst e2 e3
  obtain ⟨b, off, rfl, hc⟩ := hr.at_ hn
  rcases h.2 with ⟨e4, _⟩ | ⟨g, cap', cur, e4, hb, hgg, _⟩
  · cases e4
  · injection e4 with e5 _ e6
    injection e5 with e5
    injection e5 with e7 e8
    subst e7 e8
    refine ⟨_, rfl, hb, (Array.getElem?_eq_some_iff.1 hgg).1, fun j hj => by simpa using hc j hj, fun j => by simp [World.frozen?, hgg]⟩
set_option maxRecDepth 20000 in
set_option maxHeartbeats 1600000 in
theorem cloneN_any {w : World} {b n cap : Nat} {P T D : Nat → Int} (h : RdA w (some ⟨b, 0, none⟩) 3 n cap (nds P T D)) (h0 : 0 < n) (hn : n * 24 ≤ 140737488351232) :
    Calls Try.prog 36 #[.slice (some ⟨b, 0, none⟩) n cap] w fun e w' => ∃ u c, e = .returned (.slice u n c) ∧ Own w' w.heap.size 54 3 (.slice u n c) n (nds P T D) ∧ Below w.heap.size w w' := by
  obtain ⟨b', o', e', hc⟩ := h.at_ h0
  cases e'
  have HO := hidd (own_emptyZ w 54 3 (nds P T D))
  have HC : Hid (∀ j, j < n * 3 → (w.alloc (.cells #[] 54)).cell? ⟨b, j, none⟩ = some (nds P T D (0 * 3 + j))) := fun j hj => by
    have := hc j hj
    rw [Nat.zero_add] at this
    rw [fresh_cell (fresh_alloc _ _) this, Nat.zero_mul, Nat.zero_add]
  have hq := eqNil_N ⟨b, 0, none⟩ n cap
  clear h hc
  go_enter Try.func36, Try.ntmps36
  go_wp2_with (at_builtin; refine wpList_app _ rfl _ _ 29 rfl w.heap.size 54 (.agg #[.int .i64 0, .int .i64 0, .int .i64 0]) 3 24 Try.underlying29 infoN rfl (by decide) _ 0 (nds P T D) rfl HO.out b n cap rfl HC.out (fun j _ => nds_one _ _ _ _) h0 (by unfold maxLen; omega) (by omega) (by simp) ?_)
  intro v' w6 hown' happ
  have hf6 := happ.below (fresh_alloc w _) HO.out (Nat.le_refl _) (by simp)
  obtain ⟨u, c, rfl, _⟩ := hown'.rd
  have HP := hidd hown'
  have HF := hidd hf6
  clear happ hown' hf6 HO HC
  go_wp2
  go_ret
  exact ⟨_, _, rfl, HP.out, HF.out⟩
theorem min2' {a b m : Int} (h : m = min a b) (ats : Array TypeId) (ty : TypeId) (w : World) : (Builtin.min_ ats ty #[.int .i64 a, .int .i64 b]).run Try.prog w = .ok (.int .i64 m) w := by
  have : (Builtin.min_ ats ty #[.int .i64 a, .int .i64 b]).run Try.prog w = .ok (.int .i64 (if b < a then b else a)) w := by simp [Builtin.min_, Builtin.min2]
  rw [this]
  congr 2
  rw [h]
  split <;> omega
set_option maxRecDepth 20000 in
set_option maxHeartbeats 1600000 in
theorem first_any {w : World} {b n cap : Nat} {P T D : Nat → Int} (h : RdA w (some ⟨b, 0, none⟩) 3 n cap (nds P T D)) (h0 : 0 < n) (hn : n * 24 ≤ 140737488351232) (most : Int) (hm : 1 ≤ most) {m : Nat} (hmm : (m : Int) = min most (n : Int)) :
    Calls Try.prog 31 #[.slice (some ⟨b, 0, none⟩) n cap, .int .i64 most] w fun e w' => ∃ u c, e = .returned (.slice u m c) ∧ Own w' w.heap.size 54 3 (.slice u m c) m (nds P T D) ∧ Below w.heap.size w w' := by
  have hle := h.le
  have HCL := hidd (cloneN_any (h.firsts (m := m) (by omega)) (by omega) (by omega))
  have hmin := min2' (a := most) (b := (n : Int)) (m := (m : Int)) hmm
  have e1 : (m : Int) ≤ (cap : Int) := by omega
  clear h hmm
  go_enter Try.func31, Try.ntmps31
  go_wp2_with (go_at_call 36; with_reducible refine HCL.out.mono ?_; rintro e w2 ⟨u, c, rfl, ho, hb⟩; have HO := hidd ho; have HB := hidd hb; clear ho hb)
  go_ret
  exact ⟨_, _, rfl, HO.out, HB.out⟩
end Go.Proofs.Ytakekdbclmgeoaa.Cl
