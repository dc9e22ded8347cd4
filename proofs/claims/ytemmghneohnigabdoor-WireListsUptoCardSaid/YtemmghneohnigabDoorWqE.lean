import Derived.Test.YtemmghneohnigabDoorWqD
import Derived.Deep.DeepCutAuto
namespace Go.Proofs.YtemmghneohnigabDoor
open Go.RowKit
/-! WireQuotes. -/
set_option maxHeartbeats 1000000 in
theorem eqBytes_same {w : World} {ao bo : Option Addr} {n ca cb : Nat} {f g : Nat → Int} (ha : RdA w ao 1 n ca (fun i => .int .u8 (f i))) (hb : RdA w bo 1 n cb (fun i => .int .u8 (g i))) (hfg : ∀ i, i < n → f i = g i) :
    Calls Tryd.prog 11 #[.slice ao n ca, .slice bo n cb] w fun e w' => e = .returned (.bool true) ∧ Below w.heap.size w w' := by
  have hn : n ≤ 9223372036854775807 := by have := ha.le; have := ha.top; unfold maxLen at this; omega
  go_enter Tryd.func11, Tryd.ntmps11
  go_wp2
  go_loopw [5] (fun i wr => ∃ k : Nat, k ≤ n ∧ i = .int .i64 k ∧ Below w.heap.size w wr) (fun i _ => n - (intOf i).toNat)
  case atStart => exact ⟨0, by omega, rfl, Below.refl _ _⟩
  case round =>
    obtain ⟨k, hk, rfl, hf⟩ := hrel
    by_cases hlt : k < n
    · obtain ⟨b1, o1, rfl, h1⟩ := (ha.fresh hf).one (by omega)
      obtain ⟨b2, o2, rfl, h2⟩ := (hb.fresh hf).one (by omega)
      have c1 := h1 k hlt
      have c2 := h2 k hlt
      have e := hfg k hlt
      rw [← e] at c2
      clear h1 h2 e
      go_wp2
      go_quiet (fail)
      go_wp2
      go_roundw
      case rel => exact ⟨k + 1, by omega, by go_num, below_drewN hf _⟩
      case measure => simp [intOf]; omega
    · go_wp2
      go_ret
      exact ⟨rfl, hf⟩
/-- a list of one's own, cut to its first elements, is read -/
theorem Own.short {w : World} {base : Nat} {e : TypeId} {g c n m : Nat} {cs : Nat → Value} (h : Own w base e 1 (.slice (some ⟨g, 0, none⟩) n c) n cs) (hm : m ≤ n) : RdA w (some ⟨g, 0, none⟩) 1 m c cs := by
  obtain ⟨ao, cap, ev, hr⟩ := h.rd
  cases ev
  refine ⟨Nat.le_trans hm hr.le, hr.top, fun h0 => ?_⟩
  obtain ⟨b, off, e1, hc⟩ := hr.at_ (by omega)
  cases e1
  exact ⟨g, 0, rfl, fun j hj => hc j (by omega)⟩
/-- the copy with its marks -/
def mkB (l : List Int) (j : Nat) : Value := .int .u8 (if j < l.length then l.getD j 0 else 77)
end Go.Proofs.YtemmghneohnigabDoor
