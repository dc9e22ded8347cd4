import Derived.Test.YtknfddakpfkcfaaJdN
namespace Go.Proofs.Ytknfddakpfkcfaa
open Go.RowKit Go.Shelf Go.Sort
/-! JudgeTakes. -/
theorem TkP.out {n : Nat} {P T D : Nat → Int} {l : Nat} {W : Nat → Int} {next most : Int} {w w' : World} {e : Ending} (h : TkP n P T D l W next most w e w') : ∃ v r ov er, e = .returned (.tuple #[v, .bool ov, .int .i64 er]) ∧ TkA n P T D l W next most w w' v r ov er := h
set_option maxRecDepth 20000 in
set_option maxHeartbeats 1600000 in
theorem takes_law {w : World} {ao bo : Option Addr} {n l ca cb : Nat} {P T D C : Nat → Int} {next most : Int} (h : RdA w ao 3 n ca (nds P T D)) (hc : RdA w bo 1 l cb (fun i => .int .i64 (C i))) (hn : n * 24 ≤ 140737488351232) (hl : l ≤ 17592186043904) :
    Calls Try.prog 7 #[.slice ao n ca, .slice bo l cb, .int .i64 next, .int .i64 most] w fun e w' => e = .returned (.bool true) ∧ Below w.heap.size w w' := by
  have HH := hidd h
  have HC := hidd hc
  have HWO := hidd (works_any w)
  clear h hc
  go_enter Try.func7, Try.ntmps7
  go_wp2_with (first
    | (go_at_call 9; with_reducible refine HWO.out.mono ?_; rintro e w1 ⟨rfl, hb1⟩; have HB1 := hidd hb1; have HMN := hidd (mkNodes_any (HH.out.fresh hb1) hn); clear HWO hb1)
    | (go_at_call 21; with_reducible refine HMN.out.mono ?_; rintro e w2 ⟨rfl, hr2, hb2⟩; have HB2 := hidd (HB1.out.trans (hb2.mono HB1.out.size)); have HR2 := hidd hr2; have HMI := hidd (marked_any (HC.out.fresh HB2.out) hl); clear HMN hr2 hb2)
    | (go_at_call 11; with_reducible refine HMI.out.mono ?_; rintro e w3 ⟨rfl, hr3, hb3⟩; have HB3 := hidd (HB2.out.trans (hb3.mono HB2.out.size)); have HR3 := hidd hr3; have HRN := hidd (rowIs_fresh HR2.out hb3); have HWK := hidd (take_any (next := next) (most := most) (row_nodes HRN.out (by omega) (by unfold maxLen; omega)) (row_ints HR3.out (by omega) (by unfold maxLen; omega))); clear HMI hr3 hb3)
    | (go_at_call 24; with_reducible refine HWK.out.mono ?_; rintro e w4 k4; obtain ⟨v4, m, x, er, rfl, q4⟩ := k4.out; clear k4; have HQ4 := hidd q4; have HB4 := hidd (HB3.out.trans (q4.low.mono HB3.out.size)); have HRW := hidd (rtake_any (next := next) (most := most) (HH.out.fresh HB4.out) (HC.out.fresh HB4.out)); obtain ⟨u4, c4, rfl, _⟩ := own_sl q4.own; clear HWK q4)
    | (go_at_call 25; with_reducible refine HRW.out.mono ?_; rintro e w5 k5; obtain ⟨v5, m5, x5, er5, rfl, q5⟩ := k5.out; clear k5; obtain ⟨rfl, rfl, rfl⟩ := HQ4.out.same q5; have HB5 := hidd (HB4.out.trans (q5.low.mono HB4.out.size)); obtain ⟨u5, c5, rfl, hr5⟩ := own_sl q5.own; have HEQ := hidd (eqInts_same ((own_rda HQ4.out.own).fresh q5.low) hr5); have HL5 := hidd q5.low; clear HRW q5)
    | (go_at_call 19; with_reducible refine HEQ.out.mono ?_; rintro e w6 ⟨rfl, hb6⟩; have HB6 := hidd (HB5.out.trans (hb6.mono HB5.out.size)); have HL6 := hidd (HQ4.out.low.trans ((HL5.out.trans (hb6.mono HL5.out.size)).mono HQ4.out.low.size)); have HSN := hidd (stNodes_any (HH.out.fresh HB6.out) (rowIs_fresh HRN.out HL6.out) hn); clear HEQ hb6)
    | (go_at_call 23; with_reducible refine HSN.out.mono ?_; rintro e w7 ⟨rfl, hb7⟩; have HB7 := hidd (HB6.out.trans (hb7.mono HB6.out.size)); have HST := hidd (still_any (HC.out.fresh HB7.out) (rowIs_fresh HR3.out (HL6.out.trans (hb7.mono HL6.out.size))) hl); clear HSN hb7)
    | (go_at_call 14; with_reducible refine HST.out.mono ?_; rintro e w8 ⟨rfl, hb8⟩; have HB8 := hidd (HB7.out.trans (hb8.mono HB7.out.size)); clear HST hb8))
  go_ret
  exact ⟨rfl, HB8.out⟩
end Go.Proofs.Ytknfddakpfkcfaa
