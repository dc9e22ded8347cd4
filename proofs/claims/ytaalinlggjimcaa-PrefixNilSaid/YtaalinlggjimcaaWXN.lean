import Derived.Test.YtaalinlggjimcaaXX
namespace Go.Proofs.Ytaalinlggjimcaa
open Go.ChangeShapes Go.WideShapes Go.ChangeAt Go.RowKit
/-! The law PrefixNil, from what came in. -/
set_option maxRecDepth 20000 in
set_option maxHeartbeats 1600000 in
theorem nil_law (ao bo : Option Addr) (n k m j : Nat) (a : Int) (w : World) :
    Calls Try.prog 3 #[.slice ao n k, .slice bo m j, .int .i64 a] w fun e w' => e = .returned (.bool true) ∧ Below w.heap.size w w' := by
  have H1 := hidd (works_any w)
  go_enter Try.func3, Try.ntmps3
  go_wp2_with (first
    | (go_at_call 9; refine H1.out.mono ?_; rintro e w1 ⟨rfl, f1⟩)
    | (go_at_call 10; refine (pnew_nil _).mono ?_; rintro e w9 ⟨rfl, h9⟩; rw [h9]; clear h9)
    | (go_at_call 11; refine (find_nil _ _ _ _).mono ?_; rintro e w9 ⟨rfl, h9⟩; rw [h9]; clear h9)
    | (go_at_call 12; refine (keep_nil _ _ _ _ _ _ _).mono ?_; rintro e w9 ⟨rfl, h9⟩; rw [h9]; clear h9)
    | (go_at_call 13; refine (shrink_nil _ _).mono ?_; rintro e w9 ⟨rfl, h9⟩; rw [h9]; clear h9)
    | (go_at_call 14; refine (len_nil _).mono ?_; rintro e w9 ⟨rfl, h9⟩; rw [h9]; clear h9))
  go_ret
  exact ⟨rfl, f1⟩
set_option maxRecDepth 100000 in
theorem prefixNil_walk {H : Type} {enc : TypeId × Value → H} {base : Nat} {sp : Nat → Bool} {held : Bool} {r : Reach} {b0 : Nat} {v0 v1 : Value} {d0 d1 : DataW H} {ps0 ps1 : List MemPlace} (a2 : Int) (W : World)
    (hval0 : Value.okWide Try.prog W r b0 22 v0) (_ : DataW.Trod enc Try.prog W base sp held 22 v0 d0 ps0) (hval1 : Value.okWide Try.prog W r b0 22 v1) (_ : DataW.Trod enc Try.prog W base sp held 22 v1 d1 ps1) (_ : -9223372036854775808 ≤ a2) (_ : a2 ≤ 9223372036854775807) :
    Calls Try.prog 3 #[v0, v1, .int .i64 a2] W fun e w' => e = .returned (.bool true) ∧ Below W.heap.size W w' := by
  obtain ⟨ao, n, k, rfl⟩ := okWide_slice Try.underlying22 hval0
  obtain ⟨bo, m, j, rfl⟩ := okWide_slice Try.underlying22 hval1
  exact nil_law ao bo n k m j a2 W
end Go.Proofs.Ytaalinlggjimcaa
