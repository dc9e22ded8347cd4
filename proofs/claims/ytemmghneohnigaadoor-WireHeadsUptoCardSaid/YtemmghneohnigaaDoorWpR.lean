import Derived.Test.YtemmghneohnigaaDoorWpP
import Derived.Test.YtemmghneohnigaaDoorWpQ
namespace Go.Proofs.YtemmghneohnigaaDoor
open Go.ChangeShapes Go.WideShapes Go.ChangeAt Go.RowKit
/-! The law WireHeads, from what came in. -/
set_option maxRecDepth 20000 in
theorem wireHeads_walk {H : Type} {enc : TypeId × Value → H} {base : Nat} {sp : Nat → Bool} {held : Bool} {r r1 : Reach} {b0 b1 : Nat} {v0 v1 : Value} {d0 d1 : DataW H} {ps0 ps1 : List MemPlace} (c : Int) (W : World) (hE : Env W)
    (hval0 : Value.okWide Tryd.prog W r b0 22 v0) (h0 : DataW.Trod enc Tryd.prog W base sp held 22 v0 d0 ps0)
    (hval1 : Value.okWide Tryd.prog W r1 b1 9 v1) (h1 : DataW.Trod enc Tryd.prog W base sp held 9 v1 d1 ps1)
    (_ : -9223372036854775808 ≤ c) (_ : c ≤ 9223372036854775807)
    (hb : Rows.uptoBulkAll [d0, d1, .lit (.int .i64 c)] ≤ 1048576) :
    Calls Tryd.prog 3 #[v0, v1, .int .i64 c] W fun e w' => e = .returned (.bool true) ∧ Below W.heap.size W w' := by
  obtain ⟨s, rfl, rfl, rfl, _⟩ := Go.ChangeMaps.open_string Tryd.underlying9 hval1 h1
  obtain ⟨ao, l, cap, rfl, h, hB, hs⟩ := open_bytes hval0 h0
  have hl := row_bulk hb (by simp) hs
  have hz : s.size ≤ 1048576 := by
    simp only [Rows.uptoBulkAll, Rows.uptoBulk, Array.length_toList] at hb
    have : s.data.size = s.size := rfl
    omega
  have := heads_law (c := c) h hB (by omega) (bys_byt s) (by rw [bys_len]; omega) hE
  rw [bys_str] at this
  exact this
end Go.Proofs.YtemmghneohnigaaDoor
