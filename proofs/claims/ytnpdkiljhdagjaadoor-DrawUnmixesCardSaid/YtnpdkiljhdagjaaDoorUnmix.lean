import Derived.Test.YtnpdkiljhdagjaaDoorNums
namespace Go.Proofs.YtnpdkiljhdagjaaDoor
open Go.RowKit
/-! The way back. -/
set_option maxHeartbeats 1000000 in
theorem unmix_any (x : Nat) (w : World) (hx : x < 18446744073709551616) :
    Calls Tryd.prog 9 #[.int .u64 (x : Int)] w fun e w' => e = .returned (.int .u64 ((unmix x : Nat) : Int)) ∧ w' = w := by
  go_enter Tryd.func9, Tryd.ntmps9
  go_wp2
  simp only [xor31 x hx, xorr31 x hx, nmul3, xor27 _ (mod_lt64 _), xorr27 _ (mod_lt64 _), nmul4, xor30 _ (mod_lt64 _), xorr30 _ (mod_lt64 _)]
  go_ret
  exact ⟨rfl, rfl⟩
end Go.Proofs.YtnpdkiljhdagjaaDoor
