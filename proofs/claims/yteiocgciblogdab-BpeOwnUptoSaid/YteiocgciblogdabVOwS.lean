import Derived.Test.YteiocgciblogdabVOwA
import Derived.Test.YteiocgciblogdabVInt
namespace Go.Proofs.Yteiocgciblogdab
open Go.RowKit
/-! The first half of a list. -/
theorem size_int (w : World) : (Go.sizeOf 3).run Try.prog w = .ok 1 w := by
  simp [Go.sizeOf, go_sem]
  rfl
theorem size_byte (w : World) : (Go.sizeOf 5).run Try.prog w = .ok 1 w := by
  simp [Go.sizeOf, go_sem]
  rfl
theorem add_nought (a : Addr) : a.add 0 = a := by
  obtain ⟨b, o, f⟩ := a
  unfold Addr.add
  split <;> simp_all
theorem map_add0 (a : Option Addr) : a.map (fun x => x.add 0) = a := by
  cases a <;> simp [add_nought]
theorem half_wrap {n h : Nat} (e : h = n / 2) (hn : n ≤ 1048576) : IntKind.i64.wrap ((n : Int) / 2) = (h : Int) ∧ (n : Int).tdiv 2 = (h : Int) ∧ (n : Int) / 2 = (h : Int) ∧ IntKind.i64.wrap (h : Int) = (h : Int) := by
  have e2 : (n : Int) / 2 = (h : Int) := by rw [e]; omega
  refine ⟨?_, ?_, e2, Go.IntWalk.i64_in _ (by omega)⟩
  · rw [e2]; exact Go.IntWalk.i64_in _ (by omega)
  · rw [Int.tdiv_eq_ediv_of_nonneg (by omega), e2]
theorem half_le {n h c : Nat} (e : h = n / 2) (hc : n ≤ c) : (0 : Int) ≤ (h : Int) ∧ (h : Int) ≤ (c : Int) := by omega
theorem tx_own {w : World} {base n : Nat} {v : Value} {X : Nat → Int} (h : OwnB w base v ((List.range n).map X)) : Own w base 5 1 v n (fun j => .int .u8 (X j)) := by
  have h2 : Own w base 5 1 v ((List.range n).map X).length (fun j => .int .u8 (((List.range n).map X).getD j 0)) := h
  have e : ((List.range n).map X).length = n := by simp
  rw [e] at h2
  exact h2.congr (fun j hj => by simp [List.getD_eq_getElem?_getD, show j < n by omega])
/-- a post that no panic may come to: so that a region that draws its order can be walked in a body whose deferred marks are kept -/
def calmM (Q : Exit → Act → World → Prop) : Exit → Act → World → Prop
  | .normal, a, w => Q .normal a w
  | .ret, a, w => Q .ret a w
  | .outgrown, a, w => Q .outgrown a w
  | _, _, _ => False
theorem calmM_le (Q : Exit → Act → World → Prop) : ∀ e a w, calmM Q e a w → Q e a w := by
  intro e a w h
  cases e <;> first | exact h | exact h.elim
end Go.Proofs.Yteiocgciblogdab
