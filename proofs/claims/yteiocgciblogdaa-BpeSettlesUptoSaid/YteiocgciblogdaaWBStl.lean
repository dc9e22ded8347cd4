import Derived.Test.YteiocgciblogdaaLBStl
namespace Go.Proofs.Yteiocgciblogdaa
open Go.ChangeShapes Go.WideShapes Go.ChangeAt Go.RowKit
/-! The law BpeSettles, from what came in. -/
theorem bpeSettles_walk {H : Type} {enc : TypeId × Value → H} {base : Nat} {sp : Nat → Bool} {held : Bool} {r : Reach} {b0 : Nat} {v0 v1 : Value} {d0 d1 : DataW H} {ps0 ps1 : List MemPlace} (keep : Int) (W : World)
    (hval0 : Value.okWide Try.prog W r b0 25 v0) (h0 : DataW.Trod enc Try.prog W base sp held 25 v0 d0 ps0)
    (hval1 : Value.okWide Try.prog W r b0 22 v1) (h1 : DataW.Trod enc Try.prog W base sp held 22 v1 d1 ps1)
    (_ : -9223372036854775808 ≤ keep) (_ : keep ≤ 9223372036854775807) (hb : Rows.uptoBulkAll [d0, d1, .lit (.int .i64 keep)] ≤ 1048576) :
    Calls Try.prog 6 #[v0, v1, .int .i64 keep] W fun e w' => e = .returned (.bool true) ∧ Below W.heap.size W w' := by
  obtain ⟨d, bo, po, cb, cp, x0, x1, rfl, rb, rp, hB, rfl, s0, s1⟩ := open_voc hval0 h0
  obtain ⟨ko, n, ck, X, rfl, rk, hX, s2⟩ := open_bytes hval1 h1
  obtain ⟨n1, n2⟩ := voc_bulk hb (by simp) s0 s1
  have n3 := row_bulk hb (by simp) s2
  exact settles_walk rb rp hB rk hX keep n3 n1 n2
end Go.Proofs.Yteiocgciblogdaa
