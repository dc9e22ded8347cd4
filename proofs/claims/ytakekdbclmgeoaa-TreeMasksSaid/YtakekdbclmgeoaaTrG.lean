import Derived.Test.YtakekdbclmgeoaaTrF
namespace Go.Proofs.Ytakekdbclmgeoaa
open Go.RowKit
/-! TreeCuts. -/
theorem Mkd.at_ {w w' : World} {u : Option Addr} {c n : Nat} {P T D : Nat → Int} (h : Mkd w w' u c n P T D) : ∃ b, u = some ⟨b, 0, none⟩ := by
  obtain ⟨b, e, _⟩ := h.own.at_ (by omega)
  exact ⟨b, e⟩
set_option maxRecDepth 20000 in
set_option maxHeartbeats 1600000 in
theorem cuts_law {w : World} {ao : Option Addr} {n cap : Nat} {P T D : Nat → Int} (h : RdA w ao 3 n cap (nds P T D)) (hn : n * 24 ≤ 140737488351232) (most : Int) :
    Calls Try.prog 5 #[.slice ao n cap, .int .i64 most] w fun e w' => e = .returned (.bool true) ∧ Below w.heap.size w w' := by
  have HH := hidd h
  have HSP := hidd (spareN_any h hn)
  clear h
  go_enter Try.func5, Try.ntmps5
  go_wp2_with (go_at_call 14; with_reducible refine HSP.out.mono ?_; rintro e w1 ⟨u, uc, rfl, hm⟩)
  obtain ⟨b, rfl⟩ := hm.at_
  have HM := hidd hm
  clear hm HSP
  by_cases hk : okT n P T D
  · by_cases h1 : most < 1
    · have HCK := hidd (cut_arg HM.out.rd hk h1)
      go_wp2_with (go_at_call 18; with_reducible refine HCK.out.mono ?_; rintro e w2 ⟨rfl, hb2⟩)
      have HB2 := hidd (HM.out.low.trans (hb2.mono HM.out.low.size))
      have HRC := hidd (rcut_arg (HH.out.fresh HB2.out) hk h1)
      have HA2 := hidd (HM.out.all.fresh hb2)
      clear hb2 HCK h1
      go_wp2_with (go_at_call 19; with_reducible refine HRC.out.mono ?_; rintro e w3 ⟨rfl, hb3⟩)
      have HB3 := hidd (HB2.out.trans (hb3.mono HB2.out.size))
      have HEQ := hidd (eqNodes_same (w := w3) (ao := none) (bo := none) (n := 0) (ca := 0) (cb := 0) (P := P) (T := T) (D := D) ⟨by omega, by unfold maxLen; omega, fun h => absurd h (by omega)⟩ ⟨by omega, by unfold maxLen; omega, fun h => absurd h (by omega)⟩)
      have HA3 := hidd (HA2.out.fresh hb3)
      clear hb3 HRC
      go_wp2_with (go_at_call 20; with_reducible refine HEQ.out.mono ?_; rintro e w4 ⟨rfl, hb4⟩)
      have HB4 := hidd (HB3.out.trans (hb4.mono HB3.out.size))
      have HST := hidd (staysN_any (HA3.out.fresh hb4) (HH.out.fresh HB4.out))
      clear hb4 HEQ
      go_wp2_with (go_at_call 17; with_reducible refine HST.out.mono ?_; rintro e w5 ⟨rfl, hb5⟩)
      have HB5 := hidd (HB4.out.trans (hb5.mono HB4.out.size))
      go_ret
      exact ⟨rfl, HB5.out⟩
    · obtain ⟨m, HMM⟩ : ∃ m : Nat, Hid ((m : Int) = min most (n : Int)) := ⟨(min most (n : Int)).toNat, by show ((_ : Nat) : Int) = _; omega⟩
      have HCK := hidd (cut_ok HM.out.rd hk (by omega) HMM.out)
      go_wp2_with (go_at_call 18; with_reducible refine HCK.out.mono ?_; rintro e w2 ⟨u2, c2, rfl, ho2, hb2⟩)
      have HB2 := hidd (HM.out.low.trans (hb2.mono HM.out.low.size))
      have HRC := hidd (rcut_ok (HH.out.fresh HB2.out) hk (by omega) HMM.out)
      have HA2 := hidd (HM.out.all.fresh hb2)
      have HO2 := hidd ho2
      clear hb2 HCK h1 ho2
      go_wp2_with (go_at_call 19; with_reducible refine HRC.out.mono ?_; rintro e w3 ⟨u3, c3, rfl, ho3, hb3⟩)
      have HB3 := hidd (HB2.out.trans (hb3.mono HB2.out.size))
      have HEQ := hidd (eqNodes_same (own_rda (HO2.out.kept hb3)) (own_rda ho3))
      have HA3 := hidd (HA2.out.fresh hb3)
      clear hb3 HRC ho3
      go_wp2_with (go_at_call 20; with_reducible refine HEQ.out.mono ?_; rintro e w4 ⟨rfl, hb4⟩)
      have HB4 := hidd (HB3.out.trans (hb4.mono HB3.out.size))
      have HST := hidd (staysN_any (HA3.out.fresh hb4) (HH.out.fresh HB4.out))
      clear hb4 HEQ
      go_wp2_with (go_at_call 17; with_reducible refine HST.out.mono ?_; rintro e w5 ⟨rfl, hb5⟩)
      have HB5 := hidd (HB4.out.trans (hb5.mono HB4.out.size))
      go_ret
      exact ⟨rfl, HB5.out⟩
  · have HCK := hidd (cut_bad HM.out.rd hk most)
    go_wp2_with (go_at_call 18; with_reducible refine HCK.out.mono ?_; rintro e w2 ⟨rfl, hb2⟩)
    have HB2 := hidd (HM.out.low.trans (hb2.mono HM.out.low.size))
    have HRC := hidd (rcut_bad (HH.out.fresh HB2.out) hk most)
    have HA2 := hidd (HM.out.all.fresh hb2)
    clear hb2 HCK
    go_wp2_with (go_at_call 19; with_reducible refine HRC.out.mono ?_; rintro e w3 ⟨rfl, hb3⟩)
    have HB3 := hidd (HB2.out.trans (hb3.mono HB2.out.size))
    have HEQ := hidd (eqNodes_same (w := w3) (ao := none) (bo := none) (n := 0) (ca := 0) (cb := 0) (P := P) (T := T) (D := D) ⟨by omega, by unfold maxLen; omega, fun h => absurd h (by omega)⟩ ⟨by omega, by unfold maxLen; omega, fun h => absurd h (by omega)⟩)
    have HA3 := hidd (HA2.out.fresh hb3)
    clear hb3 HRC
    go_wp2_with (go_at_call 20; with_reducible refine HEQ.out.mono ?_; rintro e w4 ⟨rfl, hb4⟩)
    have HB4 := hidd (HB3.out.trans (hb4.mono HB3.out.size))
    have HST := hidd (staysN_any (HA3.out.fresh hb4) (HH.out.fresh HB4.out))
    clear hb4 HEQ
    go_wp2_with (go_at_call 17; with_reducible refine HST.out.mono ?_; rintro e w5 ⟨rfl, hb5⟩)
    have HB5 := hidd (HB4.out.trans (hb5.mono HB4.out.size))
    go_ret
    exact ⟨rfl, HB5.out⟩
end Go.Proofs.Ytakekdbclmgeoaa
