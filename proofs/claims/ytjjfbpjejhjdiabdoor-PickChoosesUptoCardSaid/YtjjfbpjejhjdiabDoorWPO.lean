import Derived.Test.YtjjfbpjejhjdiabDoorPkT
import Derived.Test.YtjjfbpjejhjdiabDoorPrm
import Derived.Test.YtjjfbpjejhjdiabDoorRkH
namespace Go.Proofs.YtjjfbpjejhjdiabDoor
open Go.ChangeShapes Go.WideShapes Go.ChangeAt Go.RowKit Go.Deep
/-! A law, from what came in. -/
set_option maxRecDepth 100000 in
theorem pickChooses_walk {H : Type} {enc : TypeId × Value → H} {base : Nat} {held : Bool} {r : Reach} {b1 b2 b4 : Nat} {v1 v2 v4 : Value} {d1 d2 d4 : DataW H} {ps1 ps2 ps4 : List MemPlace} (a0 a1 a2 a3 : Int) (a4 : Nat) (y3 : Int) (W : World) (hH : Holds W ∧ Dw.Holds W)
    (_ : -9223372036854775808 ≤ a0) (_ : a0 ≤ 9223372036854775807) (_ : -9223372036854775808 ≤ a1) (_ : a1 ≤ 9223372036854775807) (_ : -9223372036854775808 ≤ a2) (_ : a2 ≤ 9223372036854775807) (_ : -9223372036854775808 ≤ a3) (_ : a3 ≤ 9223372036854775807) (_ : a4 < 18446744073709551616)
    (hval1 : Value.okWide Tryd.prog W r b1 25 v1) (h1 : DataW.Trod enc Tryd.prog W base (fun _ => true) held 25 v1 d1 ps1)
    (hval2 : Value.okWide Tryd.prog W r b2 26 v2) (h2 : DataW.Trod enc Tryd.prog W base (fun _ => true) held 26 v2 d2 ps2)
    (_ : -9223372036854775808 ≤ y3) (_ : y3 ≤ 9223372036854775807)
    (hval4 : Value.okWide Tryd.prog W r b4 27 v4) (h4 : DataW.Trod enc Tryd.prog W base (fun _ => true) held 27 v4 d4 ps4)
    (hb : Rows.uptoBulkAll [.agg [.lit (.int .i64 a0), .lit (.int .i64 a1), .lit (.int .i64 a2), .lit (.int .i64 a3), .lit (.int .u64 (a4 : Int))], d1, d2, .lit (.int .i64 y3), d4] ≤ 1048576) :
    Calls Tryd.prog 6 #[.agg #[.int .i64 a0, .int .i64 a1, .int .i64 a2, .int .i64 a3, .int .u64 (a4 : Int)], v1, v2, .int .i64 y3, v4] W fun e w' => e = .returned (.bool true) ∧ Below W.heap.size W w' := by
  simp only [Rows.uptoBulkAll] at hb
  obtain ⟨ao, n, ca, f, rfl, hr1, hf, hn⟩ := open_wide hval1 h1 (by omega)
  obtain ⟨so, m, cb, s, rfl, hr2, hm⟩ := open_intl hval2 h2 (by omega)
  obtain ⟨bo, l, cl, b, rfl, hr3, hl⟩ := open_booll hval4 h4 (by omega)
  exact lchooses_law ⟨a0, a1, a2, a3, a4⟩ ⟨hr1, hr2, hr3, hf, hn, by omega, hH.1⟩ hH.2 y3 (by omega)
end Go.Proofs.YtjjfbpjejhjdiabDoor
