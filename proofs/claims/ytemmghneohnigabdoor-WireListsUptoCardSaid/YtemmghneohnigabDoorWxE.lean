import Derived.Test.YtemmghneohnigabDoorWxC
namespace Go.Proofs.YtemmghneohnigabDoor
open Go.ChangeShapes Go.WideShapes Go.ChangeAt Go.RowKit
/-! WireLists, from what comes in. -/
set_option maxRecDepth 20000 in
theorem wireLists_walk {H : Type} {enc : TypeId × Value → H} {base : Nat} {sp : Nat → Bool} {held : Bool} {r : Reach} {b0 : Nat} {v0 : Value} {d0 : DataW H} {ps0 : List MemPlace} (W : World) (hE : Env W)
    (hval0 : Value.okWide Tryd.prog W r b0 9 v0) (h0 : DataW.Trod enc Tryd.prog W base sp held 9 v0 d0 ps0)
    (hb : Rows.uptoBulkAll [d0] ≤ 1048576) :
    Calls Tryd.prog 4 #[v0] W fun e w' => e = .returned (.bool true) ∧ Below W.heap.size W w' := by
  obtain ⟨s, rfl, rfl, rfl, _⟩ := Go.ChangeMaps.open_string Tryd.underlying9 hval0 h0
  have hz : s.size ≤ 1048576 := by
    simp only [Rows.uptoBulkAll, Rows.uptoBulk, Array.length_toList] at hb
    have : s.data.size = s.size := rfl
    omega
  have := lists_law (bys_byt s) (by rw [bys_len]; omega) hE
  rw [bys_str] at this
  exact this
end Go.Proofs.YtemmghneohnigabDoor
