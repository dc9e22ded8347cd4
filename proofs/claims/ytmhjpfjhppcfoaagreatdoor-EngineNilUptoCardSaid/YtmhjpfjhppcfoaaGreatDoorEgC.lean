import Derived.Test.YtmhjpfjhppcfoaaGreatDoorEgB
import Derived.Test.YtmhjpfjhppcfoaaGreatDoorMM
import Derived.Test.YtmhjpfjhppcfoaaGreatDoorMO
import Derived.Test.YtmhjpfjhppcfoaaGreatDoorMR
import Derived.Test.YtmhjpfjhppcfoaaGreatDoorMS
import Derived.Test.YtmhjpfjhppcfoaaGreatDoorScA
import Derived.Test.YtmhjpfjhppcfoaaGreatDoorCpA
namespace Go.Proofs.YtmhjpfjhppcfoaaGreatDoor
open Go.RowKit
/-! engine.New. -/
theorem eqNilVP (u : Option Addr) (n k : Nat) (w : World) : (binOp .eql 33 (.slice u n k) (.slice none 0 0)).run Tryz.prog w = .ok (.bool u.isNone) w := by
  cases u with
  | none => exact Lib.run_eql_slice_nil (P := Tryz.prog) w 33 88 none n k 0 0 Tryz.underlying33
  | some a => exact Lib.run_eql_slice_nil (P := Tryz.prog) w 33 88 (some a) n k 0 0 Tryz.underlying33
set_option maxHeartbeats 2000000 in
theorem cloneVP_any {w : World} {u : Option Addr} {n c : Nat} {cs : Nat → Value} (h : RdA w u 2 n c cs) (h1 : ∀ j, j < n * 2 → (cs j).oneCell' = true) (hn : n ≤ 1048576) :
    Calls Tryz.prog 58 #[.slice u n c] w fun e w' => ∃ u' c', e = .returned (.slice u' n c') ∧ Own w' w.heap.size 88 2 (.slice u' n c') n cs ∧ Below w.heap.size w w' := by
  by_cases h0 : 0 < n
  · obtain ⟨b, off, rfl, hc⟩ := h.at_ h0
    have HO := hidd (own_emptyZ w 88 2 cs)
    have HC : Hid (∀ j, j < n * 2 → (w.alloc (.cells #[] 88)).cell? ⟨b, off + j, none⟩ = some (cs (0 * 2 + j))) := fun j hj => by
      rw [fresh_cell (fresh_alloc _ _) (hc j hj), Nat.zero_mul, Nat.zero_add]
    have H1 : Hid (∀ j, j < n * 2 → (cs (0 * 2 + j)).oneCell' = true) := fun j hj => by rw [Nat.zero_mul, Nat.zero_add]; exact h1 j hj
    clear h hc h1
    have hq : ∀ w, (binOp .eql 33 (.slice (some ⟨b, off, none⟩) n c) (.slice none 0 0)).run Tryz.prog w = .ok (.bool false) w := eqNilVP (some ⟨b, off, none⟩) n c
    go_enter Tryz.func58, Tryz.ntmps58
    go_wp2_with (at_builtin; refine wpList_appO _ rfl _ _ 33 rfl w.heap.size 88 (.agg #[.int .i64 0, .int .i64 0]) 2 16 Tryz.underlying33 infoP rfl (by decide) _ 0 cs rfl HO.out b off n c rfl HC.out H1.out h0 (by unfold maxLen; omega) (by omega) (by simp) ?_)
    intro v' w6 hown' happ
    have hf6 := happ.below (fresh_alloc w _) HO.out (Nat.le_refl _) (by simp)
    have HP := hidd hown'
    obtain ⟨u', c', rfl, _⟩ := hown'.rd
    clear happ hown'
    go_wp2
    go_ret
    exact ⟨u', c', rfl, HP.out, hf6⟩
  · obtain rfl : n = 0 := by omega
    obtain ⟨i0, hi0, _, _, _⟩ := info_parts infoP
    cases u with
    | none =>
      have hq : ∀ w, (binOp .eql 33 (.slice none 0 c) (.slice none 0 0)).run Tryz.prog w = .ok (.bool true) w := eqNilVP none 0 c
      go_enter Tryz.func58, Tryz.ntmps58
      go_wp2
      go_ret
      exact ⟨none, 0, rfl, own_nil _ _ _ _ _, Below.refl _ _⟩
    | some a =>
      have hq : ∀ w, (binOp .eql 33 (.slice (some a) 0 c) (.slice none 0 0)).run Tryz.prog w = .ok (.bool false) w := eqNilVP (some a) 0 c
      go_enter Tryz.func58, Tryz.ntmps58
      go_wp2_with (at_builtin; refine Lib.wpList_append_run _ rfl _ _ _ _ rfl _ _ rfl rfl _ _ (run_append_zero _ 33 _ 88 Tryz.underlying33 hi0 _ (some a) 0 0 c (Nat.le_refl _)) ?_)
      all_goals (go_ret; exact ⟨_, _, rfl, own_emptyZ _ _ _ _, fresh_alloc _ _⟩)
theorem eqNilVB (u : Option Addr) (n k : Nat) (w : World) : (binOp .eql 32 (.slice u n k) (.slice none 0 0)).run Tryz.prog w = .ok (.bool u.isNone) w := by
  cases u with
  | none => exact Lib.run_eql_slice_nil (P := Tryz.prog) w 32 5 none n k 0 0 Tryz.underlying32
  | some a => exact Lib.run_eql_slice_nil (P := Tryz.prog) w 32 5 (some a) n k 0 0 Tryz.underlying32
set_option maxHeartbeats 2000000 in
theorem cloneVB_any {w : World} {u : Option Addr} {n c : Nat} {cs : Nat → Value} (h : RdA w u 1 n c cs) (h1 : ∀ j, j < n * 1 → (cs j).oneCell' = true) (hn : n ≤ 1048576) :
    Calls Tryz.prog 57 #[.slice u n c] w fun e w' => ∃ u' c', e = .returned (.slice u' n c') ∧ Own w' w.heap.size 5 1 (.slice u' n c') n cs ∧ Below w.heap.size w w' := by
  by_cases h0 : 0 < n
  · obtain ⟨b, off, rfl, hc⟩ := h.at_ h0
    have HO := hidd (own_emptyZ w 5 1 cs)
    have HC : Hid (∀ j, j < n * 1 → (w.alloc (.cells #[] 5)).cell? ⟨b, off + j, none⟩ = some (cs (0 * 1 + j))) := fun j hj => by
      rw [fresh_cell (fresh_alloc _ _) (hc j hj), Nat.zero_mul, Nat.zero_add]
    have H1 : Hid (∀ j, j < n * 1 → (cs (0 * 1 + j)).oneCell' = true) := fun j hj => by rw [Nat.zero_mul, Nat.zero_add]; exact h1 j hj
    clear h hc h1
    have hq : ∀ w, (binOp .eql 32 (.slice (some ⟨b, off, none⟩) n c) (.slice none 0 0)).run Tryz.prog w = .ok (.bool false) w := eqNilVB (some ⟨b, off, none⟩) n c
    go_enter Tryz.func57, Tryz.ntmps57
    go_wp2_with (at_builtin; refine wpList_appO _ rfl _ _ 32 rfl w.heap.size 5 (.int .u8 0) 1 1 Tryz.underlying32 infoB rfl (by decide) _ 0 cs rfl HO.out b off n c rfl HC.out H1.out h0 (by unfold maxLen; omega) (by omega) (by simp) ?_)
    intro v' w6 hown' happ
    have hf6 := happ.below (fresh_alloc w _) HO.out (Nat.le_refl _) (by simp)
    have HP := hidd hown'
    obtain ⟨u', c', rfl, _⟩ := hown'.rd
    clear happ hown'
    go_wp2
    go_ret
    exact ⟨u', c', rfl, HP.out, hf6⟩
  · obtain rfl : n = 0 := by omega
    obtain ⟨i0, hi0, _, _, _⟩ := info_parts infoB
    cases u with
    | none =>
      have hq : ∀ w, (binOp .eql 32 (.slice none 0 c) (.slice none 0 0)).run Tryz.prog w = .ok (.bool true) w := eqNilVB none 0 c
      go_enter Tryz.func57, Tryz.ntmps57
      go_wp2
      go_ret
      exact ⟨none, 0, rfl, own_nil _ _ _ _ _, Below.refl _ _⟩
    | some a =>
      have hq : ∀ w, (binOp .eql 32 (.slice (some a) 0 c) (.slice none 0 0)).run Tryz.prog w = .ok (.bool false) w := eqNilVB (some a) 0 c
      go_enter Tryz.func57, Tryz.ntmps57
      go_wp2_with (at_builtin; refine Lib.wpList_append_run _ rfl _ _ _ _ rfl _ _ rfl rfl _ _ (run_append_zero _ 32 _ 5 Tryz.underlying32 hi0 _ (some a) 0 0 c (Nat.le_refl _)) ?_)
      all_goals (go_ret; exact ⟨_, _, rfl, own_emptyZ _ _ _ _, fresh_alloc _ _⟩)
/-- New's error over a model that there is -/
def EnE (x : WtD) (sz : Int) (c : Me) (er : Int) : Prop := (¬ sz = x.V ∧ er = 50) ∨ (sz = x.V ∧ ¬ okM c x.N ∧ er = 200) ∨ (sz = x.V ∧ okM c x.N ∧ er = 0)
def EnP (w : World) (er : Int) (e : Ending) (w' : World) : Prop := Below w.heap.size w w' ∧ ∃ p, e = .returned (.tuple #[.pointer p, .int .i64 er]) ∧ (er ≠ 0 → p = none) ∧ (er = 0 → ∃ E, p = some ⟨E, 0, none⟩ ∧ w.heap.size ≤ E ∧ w'.cell? ⟨E, 10, none⟩ = some (.slice none 0 0))
theorem kv_pos {W H K : Int} (h1 : 1 ≤ H) (h2 : 1 ≤ K) (h3 : K ≤ H) (h4 : 2 ≤ W) (h5 : W ≤ 32) (h6 : W % (2 * H) = 0) : ∃ q n : Nat, W / H = (q : Int) ∧ K * (q : Int) = (n : Int) ∧ 1 ≤ n ∧ n ≤ 32 := by
  have hq := Int.ediv_nonneg (show 0 ≤ W by omega) (show 0 ≤ H by omega)
  have hm := Int.mul_ediv_self_le (x := W) (k := H) (by omega)
  have hd : (2 * H) ∣ W := Int.dvd_of_emod_eq_zero h6
  have hle : 2 * H ≤ W := Int.le_of_dvd (by omega) hd
  have hq1 : 1 ≤ W / H := by
    have : H * 1 ≤ W := by omega
    exact (Int.le_ediv_iff_mul_le (by omega)).2 (by omega)
  have h7 : K * (W / H) ≤ H * (W / H) := Int.mul_le_mul_of_nonneg_right h3 hq
  have h8 : 1 * 1 ≤ K * (W / H) := Int.mul_le_mul h2 hq1 (by omega) (by omega)
  refine ⟨(W / H).toNat, (K * (W / H)).toNat, by omega, by rw [show (((W / H).toNat : Nat) : Int) = W / H by omega]; omega, by omega, by omega⟩
set_option maxRecDepth 100000 in
set_option maxHeartbeats 4000000 in
theorem enew_nil (w : World) (v u a b c d e : Value) : Calls Tryz.prog 19 #[.pointer none, .agg #[v, u], .agg #[a, b, c, d, e]] w fun e w' => e = .returned (.tuple #[.pointer none, .int .i64 1]) ∧ Below w.heap.size w w' := by
  go_enter Tryz.func19, Tryz.ntmps19
  go_wp2
  go_ret2
  exact ⟨rfl, (fresh_alloc w _).alloc (by simp) _⟩
end Go.Proofs.YtmhjpfjhppcfoaaGreatDoor
