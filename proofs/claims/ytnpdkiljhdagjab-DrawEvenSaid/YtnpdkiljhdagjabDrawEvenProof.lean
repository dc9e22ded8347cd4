/-
  The proof of Rows.DrawEvenSaid: the walk, and the row.
-/
import Derived.Test.YtnpdkiljhdagjabRows
import Derived.Test.YtnpdkiljhdagjabEven
import Derived.Test.YtnpdkiljhdagjabEvens
import Derived.WalkKit
import Derived.ProofKit
import Derived.OpenShut
namespace Go.Proofs.Ytnpdkiljhdagjab.drawEven
open Go.ChangeShapes Go.WideShapes Go.ChangeAt Go.RowKit
theorem own : ownKnob Try.prog.godebug = none := by kernel_rfl
set_option maxRecDepth 100000 in
theorem lifted (os : Os) (started : os.Started) (H : Type) (enc : TypeId × Value → H) :
    ReturnsInHanded {} Try.checked os 3 .any (Rows.drawEvenSpec.pre6 enc Try.prog Try.f3 Rows.drawEvenRow.domain false) (Rows.drawEvenSpec.post enc Try.prog Try.f3 false true false false) := by
  refine returnsInHanded_of_change (C := Try.checked) own started (by kernel_rfl) Try.func3
    (ChangeSpec.witness6 (enc := enc) (C := Try.checked) false ⟨#[], #[.agg #[.int .u64 0, .int .u64 0, .int .u64 0, .int .u64 0]], []⟩ 8 (by kernel_rfl) (by kernel_rfl) (by kernel_rfl) (by kernel_rfl)) ?_
  intro W base args ds gs before hval0 hW hcnd _
  have hval : ∀ (j : Nat) t v, Try.f3.params[j]? = some t → args[j]? = some v → Value.okWide Try.prog W .any base t v := hval0
  have hW' := hW
  obtain ⟨p, q, hA0, hV, rfl, hfz, hnd⟩ := hW
  have hA : DataW.TrodAll enc Try.prog W 0 (fun _ => true) true Try.f3.params.toList args.toList ds p := hA0
  rw [Try.params3] at hA hval
  obtain ⟨v0, vs0, d0, ds0, p0, q0, hargs, rfl, rfl, h0, r0⟩ := trodAll_cons hA
  obtain ⟨rfl, rfl, rfl⟩ := trodAll_nil r0
  obtain rfl : args = #[v0] := by cases args; simp_all
  obtain ⟨rfl, rfl⟩ := trodVars_none hV
  obtain ⟨a0_0, a0_1, a0_2, a0_3, rfl, rfl, rfl, w0_0, w0_1, w0_2, w0_3⟩ := open_evens (hval 0 24 v0 rfl rfl) h0
  clear hA0 hval0
  simp only [List.append_nil] at hW'
  have b0_0 := bounds_u64 w0_0
  obtain ⟨A0_0, rfl⟩ := Int.eq_ofNat_of_zero_le b0_0.1
  have b0_1 := bounds_u64 w0_1
  obtain ⟨A0_1, rfl⟩ := Int.eq_ofNat_of_zero_le b0_1.1
  have b0_2 := bounds_u64 w0_2
  obtain ⟨A0_2, rfl⟩ := Int.eq_ofNat_of_zero_le b0_2.1
  have b0_3 := bounds_u64 w0_3
  obtain ⟨A0_3, rfl⟩ := Int.eq_ofNat_of_zero_le b0_3.1
  refine (even_walk A0_0 A0_1 A0_2 A0_3 W (by omega) (by omega) (by omega) (by omega)).mono fun e W' ⟨he, hw⟩ => ?_
  subst he
  have hg : Grown W W' := hw.grown
  exact ⟨_, rfl, post_of_same (pa := []) (pv := []) hW' (fun _ _ _ => trodAll_cons_mk (shut_bool Try.underlying4 _) trodAll_mk0) (fun _ _ => (trodAll_cons_mk (shut_evens w0_0 w0_1 w0_2 w0_3) trodAll_mk0)) (fun _ _ => rfl) rfl
    (hg.frame _) hg.2.1 (ok_one (by kernel_rfl) rfl (okWide_bool_mk Try.underlying4 _))⟩
theorem over : Rows.drawEvenRow.holds Try.pinned (OpenSpec.ofChange Rows.drawEvenSpec) :=
  OpenClaim.holds_of_wide 3 Try.f3 rfl rfl rfl rfl rfl rfl rfl ⟨rfl, rfl, rfl, rfl, rfl⟩ rfl rfl rfl rfl rfl (by kernel_rfl) Try.func3 (by kernel_rfl)
    (of_decide_eq_true (by kernel_rfl)) (by unfold Func.isWrapper; first | (rw [if_pos (by decide +kernel)]; kernel_rfl) | (rw [if_neg (by decide +kernel)]; exact ⟨rfl, rfl⟩))
    (fun os started H enc _ => lifted os started H enc)
theorem proved : Rows.DrawEvenSaid := over
end Go.Proofs.Ytnpdkiljhdagjab.drawEven
namespace Go.Proofs.Ytnpdkiljhdagjab
/-- THE STATEMENT -/
theorem drawEven_holds : Rows.DrawEvenSaid := drawEven.proved
#print axioms drawEven_holds
end Go.Proofs.Ytnpdkiljhdagjab
