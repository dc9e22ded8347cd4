import Derived.Test.YtemmghneohnigaaDoorWqD
import Derived.Deep.DeepCutAuto
namespace Go.Proofs.YtemmghneohnigaaDoor
open Go.RowKit
/-! WireQuotes. -/
set_option maxHeartbeats 1000000 in
theorem copyB_any {w : World} {ao : Option Addr} {n ca : Nat} {f : Nat → Int} (ha : RdA w ao 1 n ca (fun i => .int .u8 (f i))) (hn : n ≤ 140737488351232) :
    Calls Tryd.prog 21 #[.slice ao n ca] w fun e w' => ∃ v, e = .returned v ∧ Own w' w.heap.size 5 1 v n (fun j => .int .u8 (f j)) ∧ Below w.heap.size w w' := by
  go_enter Tryd.func21, Tryd.ntmps21
  go_wp2
  go_loopw [3, 4] (fun v i wr => ∃ k : Nat, k ≤ n ∧ i = .int .i64 k ∧ Own wr w.heap.size 5 1 v k (fun j => .int .u8 (f j)) ∧ Below w.heap.size w wr) (fun _ i _ => n - (intOf i).toNat)
  case atStart => exact ⟨0, by omega, rfl, own_nil _ _ _ _ _, Below.refl _ _⟩
  case round =>
    obtain ⟨k, hk, rfl, hown, hf1⟩ := hrel
    have hsz := hf1.size
    by_cases hlt : k < n
    · obtain ⟨b1, o1, rfl, h1⟩ := (ha.fresh hf1).one (by omega)
      have c1 := h1 k hlt
      clear h1
      go_wp2_with (at_builtin; refine wpList_app1 _ rfl _ _ 22 rfl _ 5 (.int .u8 0) 1 Tryd.underlying22 infoB rfl _ k _ rfl (hown.kept (fresh_alloc _ _)) _ 1 rfl (new_cell _ _ _) rfl (by omega) (by omega) (by simp; omega) ?_)
      intro v' w6 hown' happ
      have hf6 := happ.below (hf1.alloc hsz _) (hown.kept (fresh_alloc _ _)) (Nat.le_refl _) (by simp; omega)
      clear happ hown hf1 c1
      go_wp2
      go_roundw
      case rel => exact ⟨k + 1, by omega, by go_num, hown', hf6⟩
      case measure => simp [intOf]; omega
    · obtain rfl : k = n := by omega
      go_wp2
      go_ret
      exact ⟨_, rfl, hown, hf1⟩
set_option maxHeartbeats 1000000 in
theorem eqBytes_same {w : World} {ao bo : Option Addr} {n ca cb : Nat} {f g : Nat → Int} (ha : RdA w ao 1 n ca (fun i => .int .u8 (f i))) (hb : RdA w bo 1 n cb (fun i => .int .u8 (g i))) (hfg : ∀ i, i < n → f i = g i) :
    Calls Tryd.prog 11 #[.slice ao n ca, .slice bo n cb] w fun e w' => e = .returned (.bool true) ∧ Below w.heap.size w w' := by
  have hn : n ≤ 9223372036854775807 := by have := ha.le; have := ha.top; unfold maxLen at this; omega
  go_enter Tryd.func11, Tryd.ntmps11
  go_wp2
  go_loopw [5] (fun i wr => ∃ k : Nat, k ≤ n ∧ i = .int .i64 k ∧ Below w.heap.size w wr) (fun i _ => n - (intOf i).toNat)
  case atStart => exact ⟨0, by omega, rfl, Below.refl _ _⟩
  case round =>
    obtain ⟨k, hk, rfl, hf⟩ := hrel
    by_cases hlt : k < n
    · obtain ⟨b1, o1, rfl, h1⟩ := (ha.fresh hf).one (by omega)
      obtain ⟨b2, o2, rfl, h2⟩ := (hb.fresh hf).one (by omega)
      have c1 := h1 k hlt
      have c2 := h2 k hlt
      have e := hfg k hlt
      rw [← e] at c2
      clear h1 h2 e
      go_wp2
      go_quiet (fail)
      go_wp2
      go_roundw
      case rel => exact ⟨k + 1, by omega, by go_num, below_drewN hf _⟩
      case measure => simp [intOf]; omega
    · go_wp2
      go_ret
      exact ⟨rfl, hf⟩
/-- a list of one's own, cut to its first elements, is read -/
theorem Own.short {w : World} {base : Nat} {e : TypeId} {g c n m : Nat} {cs : Nat → Value} (h : Own w base e 1 (.slice (some ⟨g, 0, none⟩) n c) n cs) (hm : m ≤ n) : RdA w (some ⟨g, 0, none⟩) 1 m c cs := by
  obtain ⟨ao, cap, ev, hr⟩ := h.rd
  cases ev
  refine ⟨Nat.le_trans hm hr.le, hr.top, fun h0 => ?_⟩
  obtain ⟨b, off, e1, hc⟩ := hr.at_ (by omega)
  cases e1
  exact ⟨g, 0, rfl, fun j hj => hc j (by omega)⟩
/-- the copy with its marks -/
def mkB (l : List Int) (j : Nat) : Value := .int .u8 (if j < l.length then l.getD j 0 else 77)
end Go.Proofs.YtemmghneohnigaaDoor
