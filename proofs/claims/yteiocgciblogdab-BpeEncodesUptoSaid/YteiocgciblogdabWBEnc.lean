import Derived.Test.YteiocgciblogdabLBEnc
import Derived.Test.YteiocgciblogdabVBulk
namespace Go.Proofs.Yteiocgciblogdab
open Go.ChangeShapes Go.WideShapes Go.ChangeAt Go.RowKit
/-! The law BpeEncodes, from what came in. -/
theorem bpeEncodes_walk {H : Type} {enc : TypeId × Value → H} {base : Nat} {sp : Nat → Bool} {held : Bool} {r : Reach} {b0 : Nat} {v0 v1 : Value} {d0 d1 : DataW H} {ps0 ps1 : List MemPlace} (W : World)
    (hval0 : Value.okWide Try.prog W r b0 25 v0) (h0 : DataW.Trod enc Try.prog W base sp held 25 v0 d0 ps0)
    (hval1 : Value.okWide Try.prog W r b0 22 v1) (h1 : DataW.Trod enc Try.prog W base sp held 22 v1 d1 ps1)
    (hb : Rows.uptoBulkAll [d0, d1] ≤ 1048576) :
    Calls Try.prog 3 #[v0, v1] W fun e w' => e = .returned (.bool true) ∧ Below W.heap.size W w' := by
  obtain ⟨d, bo, po, cb, cp, x0, x1, rfl, rb, rp, hB, rfl, s0, s1⟩ := open_voc hval0 h0
  obtain ⟨ko, n, ck, X, rfl, rk, hX, s2⟩ := open_bytes hval1 h1
  obtain ⟨n1, n2⟩ := voc_bulk hb (by simp) s0 s1
  have n3 := row_bulk hb (by simp) s2
  exact encodes_walk rb rp hB rk hX (by omega) (by omega) n3
end Go.Proofs.Yteiocgciblogdab
