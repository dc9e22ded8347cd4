import Derived.Test.YtokedgilehcdlaaGgI
import Derived.Test.YtokedgilehcdlaaGgJ
import Derived.Test.YtokedgilehcdlaaGauge
import Derived.Test.YtokedgilehcdlaaMdO
namespace Go.Proofs.Ytokedgilehcdlaa
open Go.ChangeShapes Go.WideShapes Go.ChangeAt Go.RowKit
/-! The laws GaugeFalls and GaugeGrows, from what came in. -/
theorem gaugeFalls_walk {H : Type} {enc : TypeId × Value → H} {base : Nat} {sp : Nat → Bool} {held : Bool} {rr : Reach} {b0 : Nat} {v : Value} {d : DataW H} {ps : List MemPlace} (s m r : Int) (W : World) (_ : -9223372036854775808 ≤ s) (_ : s ≤ 9223372036854775807) (_ : -9223372036854775808 ≤ m) (_ : m ≤ 9223372036854775807) (_ : -9223372036854775808 ≤ r) (_ : r ≤ 9223372036854775807)
    (hval : Value.okWide Try.prog W rr b0 30 v) (hd : DataW.Trod enc Try.prog W base sp held 30 v d ps) :
    Calls Try.prog 5 #[.agg #[.int .i64 s, .int .i64 m, .int .i64 r], v] W fun e w' => e = .returned (.bool true) ∧ Below W.heap.size W w' := by
  obtain ⟨ao, n, cap, f, rfl, h, _⟩ := open_list hval hd
  by_cases c : okG s m r
  · exact falls_ok h c
  · exact falls_bad c
theorem gaugeGrows_walk {H : Type} {enc : TypeId × Value → H} {base : Nat} {sp : Nat → Bool} {held : Bool} {rr : Reach} {b0 : Nat} {v : Value} {d : DataW H} {ps : List MemPlace} (s m r : Int) (W : World) (_ : -9223372036854775808 ≤ s) (_ : s ≤ 9223372036854775807) (_ : -9223372036854775808 ≤ m) (_ : m ≤ 9223372036854775807) (_ : -9223372036854775808 ≤ r) (_ : r ≤ 9223372036854775807)
    (hval : Value.okWide Try.prog W rr b0 30 v) (hd : DataW.Trod enc Try.prog W base sp held 30 v d ps) :
    Calls Try.prog 6 #[.agg #[.int .i64 s, .int .i64 m, .int .i64 r], v] W fun e w' => e = .returned (.bool true) ∧ Below W.heap.size W w' := by
  obtain ⟨ao, n, cap, f, rfl, h, _⟩ := open_list hval hd
  by_cases c : okG s m r
  · exact grows_ok h c
  · exact grows_bad c
end Go.Proofs.Ytokedgilehcdlaa
