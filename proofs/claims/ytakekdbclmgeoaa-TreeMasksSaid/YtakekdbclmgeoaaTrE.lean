import Derived.Test.YtakekdbclmgeoaaTrD
namespace Go.Proofs.Ytakekdbclmgeoaa
open Go.RowKit
/-! TreeChecks. -/
set_option maxRecDepth 20000 in
set_option maxHeartbeats 1600000 in
theorem checks_law {w : World} {ao : Option Addr} {n cap : Nat} {P T D : Nat → Int} (h : RdA w ao 3 n cap (nds P T D)) (hn : n * 24 ≤ 140737488351232) :
    Calls Try.prog 4 #[.slice ao n cap] w fun e w' => e = .returned (.bool true) ∧ Below w.heap.size w w' := by
  have HH := hidd h
  have HSP := hidd (spareN_any h hn)
  clear h
  go_enter Try.func4, Try.ntmps4
  go_wp2_with (go_at_call 14; with_reducible refine HSP.out.mono ?_; rintro e w1 ⟨u, uc, rfl, hm⟩)
  have HM := hidd hm
  have HCK := hidd (check_any hm.rd)
  obtain ⟨er, HER⟩ : ∃ er, Hid (er = erT n P T D) := ⟨_, rfl⟩
  rw [← HER.out] at HCK
  clear hm HSP
  go_wp2_with (go_at_call 15; with_reducible refine HCK.out.mono ?_; rintro e w2 ⟨rfl, hb2⟩)
  have HB2 := hidd (HM.out.low.trans (hb2.mono HM.out.low.size))
  have HRC := hidd (rcheck_any (HH.out.fresh HB2.out))
  have HA2 := hidd (HM.out.all.fresh hb2)
  rw [← HER.out] at HRC
  clear hb2 HCK HER
  go_wp2_with (go_at_call 16; with_reducible refine HRC.out.mono ?_; rintro e w3 ⟨rfl, hb3⟩)
  have HB3 := hidd (HB2.out.trans (hb3.mono HB2.out.size))
  have HST := hidd (staysN_any (HA2.out.fresh hb3) (HH.out.fresh HB3.out))
  clear hb3 HRC
  go_wp2_with (go_at_call 17; with_reducible refine HST.out.mono ?_; rintro e w4 ⟨rfl, hb4⟩)
  have HB4 := hidd (HB3.out.trans (hb4.mono HB3.out.size))
  go_ret
  exact ⟨rfl, HB4.out⟩
end Go.Proofs.Ytakekdbclmgeoaa
