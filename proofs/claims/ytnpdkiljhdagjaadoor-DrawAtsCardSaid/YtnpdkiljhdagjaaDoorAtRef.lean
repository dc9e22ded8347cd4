import Derived.Test.YtnpdkiljhdagjaaDoorAt
import Derived.Test.YtnpdkiljhdagjaaDoorMixRef
namespace Go.Proofs.YtnpdkiljhdagjaaDoor
open Go.RowKit
/-! The document's At. -/
set_option maxHeartbeats 1000000 in
theorem at_ref (s : Nat) (p l : Int) (w : World) :
    Calls Tryd.prog 11 #[.int .u64 (s : Int), .int .i64 p, .int .i64 l] w fun e w' => e = .returned (.int .u64 ((atN s (num p) (num l) : Nat) : Int)) ∧ w' = w := by
  go_enter Tryd.func11, Tryd.ntmps11
  go_wp2_with fail
  rw [seed_in]
  refine (mix_ref _ _ (mod_lt64 _)).mono ?_; rintro e w' ⟨rfl, rfl⟩
  obtain ⟨a, ea⟩ : ∃ a, a = mix ((s + 11400714819323198485) % 18446744073709551616) := ⟨_, rfl⟩
  rw [← ea]
  have EA := hidd ea
  clear ea
  go_wp2_with fail
  rw [place_in]
  refine (mix_ref _ _ (mod_lt64 _)).mono ?_; rintro e w' ⟨rfl, rfl⟩
  obtain ⟨b, eb⟩ : ∃ b, b = mix ((a + 11400714819323198485 * num p % 18446744073709551616) % 18446744073709551616) := ⟨_, rfl⟩
  rw [← eb]
  have EB := hidd eb
  clear eb
  go_wp2_with fail
  rw [place_in]
  refine (mix_ref _ _ (mod_lt64 _)).mono ?_; rintro e w' ⟨rfl, rfl⟩
  go_wp2
  go_ret
  exact ⟨ret_int (by unfold atN; rw [← EA.out, ← EB.out, Nat.add_mod_mod]), rfl⟩
end Go.Proofs.YtnpdkiljhdagjaaDoor
