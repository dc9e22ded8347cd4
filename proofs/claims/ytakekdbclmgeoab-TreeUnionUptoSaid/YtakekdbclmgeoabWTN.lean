import Derived.Test.YtakekdbclmgeoabCqM
import Derived.Test.YtakekdbclmgeoabTjOt
namespace Go.Proofs.Ytakekdbclmgeoab
open Go.ChangeShapes Go.WideShapes Go.ChangeAt Go.RowKit
/-! The law TreeUnion, from what came in. -/
theorem treeUnion_walk {H : Type} {enc : TypeId × Value → H} {base : Nat} {sp : Nat → Bool} {held : Bool} {r : Reach} {b0 : Nat} {v0 : Value} {d0 : DataW H} {ps0 : List MemPlace} (vocab most : Int) (W : World)
    (hval0 : Value.okWide Try.prog W r b0 42 v0) (h0 : DataW.Trod enc Try.prog W base sp held 42 v0 d0 ps0)
    (h1 : -9223372036854775808 ≤ vocab) (h2 : vocab ≤ 9223372036854775807)
    (_ : -9223372036854775808 ≤ most) (_ : most ≤ 9223372036854775807)
    (hb : Rows.uptoBulkAll [d0, .lit (.int .i64 vocab), .lit (.int .i64 most)] ≤ 1048576) :
    Calls Try.prog 5 #[v0, .int .i64 vocab, .int .i64 most] W fun e w' => e = .returned (.bool true) ∧ Below W.heap.size W w' := by
  obtain ⟨ao, m, cap, X, A, C, rfl, h, k1, k2, k3⟩ := open_raws hval0 h0
  simp only [Rows.uptoBulkAll] at hb
  exact union_law h (by omega) (by omega) k3 ⟨h1, h2⟩
end Go.Proofs.Ytakekdbclmgeoab
