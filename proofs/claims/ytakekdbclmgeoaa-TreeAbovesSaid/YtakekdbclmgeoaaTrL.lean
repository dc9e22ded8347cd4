import Derived.Test.YtakekdbclmgeoaaTrK
namespace Go.Proofs.Ytakekdbclmgeoaa
open Go.RowKit
/-! TreeAboves. -/
set_option maxRecDepth 20000 in
set_option maxHeartbeats 1600000 in
theorem aboves_law {w : World} {ao : Option Addr} {n cap : Nat} {P T D : Nat → Int} (h : RdA w ao 3 n cap (nds P T D)) (hn : n * 24 ≤ 140737488351232) :
    Calls Try.prog 6 #[.slice ao n cap] w fun e w' => e = .returned (.bool true) ∧ Below w.heap.size w w' := by
  have HH := hidd h
  have HSP := hidd (spareN_any h hn)
  clear h
  go_enter Try.func6, Try.ntmps6
  go_wp2_with (go_at_call 14; with_reducible refine HSP.out.mono ?_; rintro e w1 ⟨u, uc, rfl, hm⟩)
  have HM := hidd hm
  clear hm HSP
  by_cases hk : okT n P T D
  · have HCK := hidd (above_ok HM.out.rd hk)
    go_wp2_with (go_at_call 21; with_reducible refine HCK.out.mono ?_; rintro e w2 ⟨u2, c2, rfl, ho2, hb2⟩)
    have HB2 := hidd (HM.out.low.trans (hb2.mono HM.out.low.size))
    have HRC := hidd (rabove_ok (HH.out.fresh HB2.out) hk)
    have HA2 := hidd (HM.out.all.fresh hb2)
    have HO2 := hidd ho2
    clear hb2 HCK ho2
    go_wp2_with (go_at_call 22; with_reducible refine HRC.out.mono ?_; rintro e w3 ⟨u3, c3, rfl, ho3, hb3⟩)
    have HB3 := hidd (HB2.out.trans (hb3.mono HB2.out.size))
    have HEQ := hidd (eqBits_same (HO2.out.fresh hb3) ho3)
    have HA3 := hidd (HA2.out.fresh hb3)
    clear hb3 HRC ho3
    go_wp2_with (go_at_call 23; with_reducible refine HEQ.out.mono ?_; rintro e w4 ⟨rfl, hb4⟩)
    have HB4 := hidd (HB3.out.trans (hb4.mono HB3.out.size))
    have HST := hidd (staysN_any (HA3.out.fresh hb4) (HH.out.fresh HB4.out))
    clear hb4 HEQ
    go_wp2_with (go_at_call 17; with_reducible refine HST.out.mono ?_; rintro e w5 ⟨rfl, hb5⟩)
    have HB5 := hidd (HB4.out.trans (hb5.mono HB4.out.size))
    go_ret
    exact ⟨rfl, HB5.out⟩
  · have HCK := hidd (above_bad HM.out.rd hk)
    go_wp2_with (go_at_call 21; with_reducible refine HCK.out.mono ?_; rintro e w2 ⟨rfl, hb2⟩)
    have HB2 := hidd (HM.out.low.trans (hb2.mono HM.out.low.size))
    have HRC := hidd (rabove_bad (HH.out.fresh HB2.out) hk)
    have HA2 := hidd (HM.out.all.fresh hb2)
    clear hb2 HCK
    go_wp2_with (go_at_call 22; with_reducible refine HRC.out.mono ?_; rintro e w3 ⟨rfl, hb3⟩)
    have HB3 := hidd (HB2.out.trans (hb3.mono HB2.out.size))
    have HEQ := hidd (eqBits_same (w := w3) (ao := none) (bo := none) (n := 0) (ca := 0) (cb := 0) (P := P) ⟨by omega, by unfold maxLen; omega, fun h => absurd h (by omega)⟩ ⟨by omega, by unfold maxLen; omega, fun h => absurd h (by omega)⟩)
    have HA3 := hidd (HA2.out.fresh hb3)
    clear hb3 HRC
    go_wp2_with (go_at_call 23; with_reducible refine HEQ.out.mono ?_; rintro e w4 ⟨rfl, hb4⟩)
    have HB4 := hidd (HB3.out.trans (hb4.mono HB3.out.size))
    have HST := hidd (staysN_any (HA3.out.fresh hb4) (HH.out.fresh HB4.out))
    clear hb4 HEQ
    go_wp2_with (go_at_call 17; with_reducible refine HST.out.mono ?_; rintro e w5 ⟨rfl, hb5⟩)
    have HB5 := hidd (HB4.out.trans (hb5.mono HB4.out.size))
    go_ret
    exact ⟨rfl, HB5.out⟩
end Go.Proofs.Ytakekdbclmgeoaa
