import Derived.Test.YtdceahebkohbjabScLl
import Derived.Test.YtdceahebkohbjabWSS
import Derived.Test.YtdceahebkohbjabServe
namespace Go.Proofs.Ytdceahebkohbjab
open Go.ChangeShapes Go.WideShapes Go.ChangeAt Go.RowKit
/-! The law, from what came in. -/
set_option maxRecDepth 100000 in
theorem schedLists_walk {H : Type} {enc : TypeId × Value → H} {base : Nat} {sp : Nat → Bool} {held : Bool} {rr : Reach} {b0 : Nat} {v1 v2 : Value} {d0 d1 d2 : DataW H} {ps1 ps2 : List MemPlace} (a b c d e : Int) (W : World) (_ : -9223372036854775808 ≤ a) (_ : a ≤ 9223372036854775807) (_ : -9223372036854775808 ≤ b) (_ : b ≤ 9223372036854775807) (_ : -9223372036854775808 ≤ c) (_ : c ≤ 9223372036854775807) (_ : -9223372036854775808 ≤ d) (_ : d ≤ 9223372036854775807) (_ : -9223372036854775808 ≤ e) (_ : e ≤ 9223372036854775807)
    (hval1 : Value.okWide Try.prog W rr b0 24 v1) (h1 : DataW.Trod enc Try.prog W base sp held 24 v1 d1 ps1)
    (hval2 : Value.okWide Try.prog W rr b0 25 v2) (h2 : DataW.Trod enc Try.prog W base sp held 25 v2 d2 ps2)
    (hsz : (DataW.weightsEach Try.prog [23, 24, 25] [d0, d1, d2]).all (· ≤ reachBytes) = true) :
    Calls Try.prog 4 #[.agg #[.int .i64 a, .int .i64 b, .int .i64 c, .int .i64 d, .int .i64 e], v1, v2] W fun e w' => e = .returned (.bool true) ∧ Below W.heap.size W w' := by
  obtain ⟨ao, n, cap, S, rfl, hS, hn, hh⟩ := open_seats hval1 h1 hsz
  obtain ⟨po, m, cp, P, rfl, hP, hs⟩ := open_picks hval2 h2
  exact lists_law ⟨a, b, c, d, e⟩ hS hn hh hP (picks_size hsz hs)
end Go.Proofs.Ytdceahebkohbjab
