import Derived.Test.YtknfddakpfkcfaaJdQ
namespace Go.Proofs.Ytknfddakpfkcfaa
open Go.RowKit Go.Shelf Go.Sort
/-! eqMoves, JudgePlans. -/
theorem rd_moves {w : World} {ao : Option Addr} {n cap : Nat} {R : List (Int × Int)} (h : RdA w ao 2 n cap (rwF R)) (hn : 0 < n) : ∃ b o, ao = some ⟨b, o, none⟩ ∧ ∀ i, i < n → w.cell? ⟨b, o + i * 2, none⟩ = some (.int .i64 (R.getD i (0, 0)).1) ∧ w.cell? ⟨b, o + i * 2 + 1, none⟩ = some (.int .i64 (R.getD i (0, 0)).2) := by
  obtain ⟨b, o, e, hc⟩ := h.at_ hn
  refine ⟨b, o, e, fun i hi => ?_⟩
  have c0 := hc (i * 2) (by omega)
  have c1 := hc (i * 2 + 1) (by omega)
  rw [rwF_0] at c0
  rw [rwF_1, ← Nat.add_assoc] at c1
  exact ⟨c0, c1⟩
set_option maxRecDepth 20000 in
set_option maxHeartbeats 1600000 in
theorem eqMoves_same {w : World} {ao bo : Option Addr} {n ca cb : Nat} {R : List (Int × Int)} (ha : RdA w ao 2 n ca (rwF R)) (hb : RdA w bo 2 n cb (rwF R)) :
    Calls Try.prog 13 #[.slice ao n ca, .slice bo n cb] w fun e w' => e = .returned (.bool true) ∧ Below w.heap.size w w' := by
  have hn : n ≤ 9223372036854775807 := by have := ha.le; have := ha.top; unfold maxLen at this; omega
  go_enter Try.func13, Try.ntmps13
  go_wp2
  go_loopw [5] (fun i wr => ∃ k : Nat, k ≤ n ∧ i = .int .i64 k ∧ Below w.heap.size w wr) (fun i _ => n - (intOf i).toNat)
  case atStart => exact ⟨0, by omega, rfl, Below.refl _ _⟩
  case round =>
    obtain ⟨k, hk, rfl, hf⟩ := hrel
    by_cases hlt : k < n
    · obtain ⟨b1, o1, rfl, h1⟩ := rd_moves (ha.fresh hf) (by omega)
      obtain ⟨b2, o2, rfl, h2⟩ := rd_moves (hb.fresh hf) (by omega)
      obtain ⟨c1, c2⟩ := h1 k hlt
      obtain ⟨d1, d2⟩ := h2 k hlt
      clear h1 h2
      generalize (R.getD k (0, 0)).1 = y1 at *
      generalize (R.getD k (0, 0)).2 = y2 at *
      have k0 : (0 : Int) ≤ (k : Int) := by omega
      have k1 : (k : Int) < (n : Int) := by omega
      go_wp2
      go_quiet (fail)
      go_wp2
      go_roundw
      case rel => exact ⟨k + 1, by omega, by go_num, below_drewN hf _⟩
      case measure => simp [intOf]; omega
    · obtain rfl : n = k := by omega
      go_wp2
      go_ret
      exact ⟨rfl, hf⟩
theorem PlP.out {l : Nat} {W : Nat → Int} {ns : Nat} {S : Nat → Int} {lz : Nat} {Z : Nat → Int} {w w' : World} {e : Ending} (h : PlP l W ns S lz Z w e w') : ∃ v R er, e = .returned (.tuple #[v, .int .i64 er]) ∧ PlA l W ns S lz Z w w' v R er := h
theorem PlA.same {l : Nat} {W : Nat → Int} {ns : Nat} {S : Nat → Int} {lz : Nat} {Z : Nat → Int} {w w' z z' : World} {v u : Value} {R R' : List (Int × Int)} {er fr : Int} (h : PlA l W ns S lz Z w w' v R er) (q : PlA l W ns S lz Z z z' u R' fr) : R' = R ∧ fr = er := by
  by_cases hm : mayP l W ns lz Z
  · obtain ⟨h1, h2⟩ := h.ok hm
    obtain ⟨q1, q2⟩ := q.ok hm
    exact ⟨by rw [h1, q1], by rw [h2, q2]⟩
  · obtain ⟨_, h1, h2⟩ := h.bad hm
    obtain ⟨_, q1, q2⟩ := q.bad hm
    exact ⟨by rw [h1, q1], by rw [h2, q2]⟩
set_option maxRecDepth 20000 in
set_option maxHeartbeats 1600000 in
theorem plans_law {w : World} {ao bo co : Option Addr} {l ns lz ca cb cc : Nat} {W S Z : Nat → Int} (ha : RdA w ao 1 l ca (fun i => .int .i64 (W i))) (hb : RdA w bo 1 ns cb (fun i => .int .i64 (S i))) (hc : RdA w co 1 lz cc (fun i => .int .i64 (Z i))) (hl : l ≤ 1048576) (hs : ns ≤ 1048576) (hz : lz ≤ 1048576) :
    Calls Try.prog 4 #[.slice ao l ca, .slice bo ns cb, .slice co lz cc] w fun e w' => e = .returned (.bool true) ∧ Below w.heap.size w w' := by
  have HA := hidd ha
  have HB := hidd hb
  have HC := hidd hc
  have HWO := hidd (works_any w)
  clear ha hb hc
  go_enter Try.func4, Try.ntmps4
  go_upto_region 2 with (go_at_call 9; with_reducible refine HWO.out.mono ?_; rintro e w1 ⟨rfl, hb1⟩; have HB1 := hidd hb1; have HMI := hidd (marked_any (HA.out.fresh hb1) (show l ≤ 17592186043904 by omega)); clear HWO hb1)
  go_upto_region 3 with (go_at_call 11; with_reducible refine HMI.out.mono ?_; rintro e w2 ⟨rfl, hr2, hb2⟩; have HB2 := hidd (HB1.out.trans (hb2.mono HB1.out.size)); have HR2 := hidd hr2; have HMJ := hidd (marked_any (HB.out.fresh HB2.out) (show ns ≤ 17592186043904 by omega)); clear HMI hr2 hb2)
  go_upto_region 4 with (go_at_call 11; with_reducible refine HMJ.out.mono ?_; rintro e w3 ⟨rfl, hr3, hb3⟩; have HB3 := hidd (HB2.out.trans (hb3.mono HB2.out.size)); have HR3 := hidd hr3; have HS3 := hidd (rowIs_fresh HR2.out hb3); have HMK := hidd (marked_any (HC.out.fresh HB3.out) (show lz ≤ 17592186043904 by omega)); clear HMJ hr3 hb3 HR2)
  go_upto_region 5 with (go_at_call 11; with_reducible refine HMK.out.mono ?_; rintro e w4 ⟨rfl, hr4, hb4⟩; have HB4 := hidd (HB3.out.trans (hb4.mono HB3.out.size)); have HR4 := hidd hr4; have HS4 := hidd (rowIs_fresh HS3.out hb4); have HT4 := hidd (rowIs_fresh HR3.out hb4); have HPL := hidd (plan_any (row_ints HS4.out (by omega) (by unfold maxLen; omega)) (row_ints HT4.out (by omega) (by unfold maxLen; omega)) (row_ints HR4.out (by omega) (by unfold maxLen; omega)) (show l ≤ 8796093022208 by omega)); clear HMK hr4 hb4 HR3 HS3)
  go_wp2_with (first
    | (go_at_call 10; with_reducible refine HPL.out.mono ?_; rintro e w5 k5; obtain ⟨v5, R, er, rfl, q5⟩ := k5.out; clear k5; have HQ5 := hidd q5; have HB5 := hidd (HB4.out.trans (q5.low.mono HB4.out.size)); have HRP := hidd (rplan_any (HA.out.fresh HB5.out) (HB.out.fresh HB5.out) (HC.out.fresh HB5.out) (show l ≤ 8796093022208 by omega)); obtain ⟨u5, c5, rfl, _⟩ := own_sl q5.own; clear HPL q5)
    | (go_at_call 12; with_reducible refine HRP.out.mono ?_; rintro e w6 k6; obtain ⟨v6, R6, er6, rfl, q6⟩ := k6.out; clear k6; obtain ⟨rfl, rfl⟩ := HQ5.out.same q6; have HB6 := hidd (HB5.out.trans (q6.low.mono HB5.out.size)); obtain ⟨u6, c6, rfl, hr6⟩ := own_sl q6.own; have HEQ := hidd (eqMoves_same ((own_rda HQ5.out.own).fresh q6.low) hr6); have HL6 := hidd (HQ5.out.low.trans (q6.low.mono HQ5.out.low.size)); clear HRP q6)
    | (go_at_call 13; with_reducible refine HEQ.out.mono ?_; rintro e w7 ⟨rfl, hb7⟩; have HB7 := hidd (HB6.out.trans (hb7.mono HB6.out.size)); have HL7 := hidd (HL6.out.trans (hb7.mono HL6.out.size)); have HST := hidd (still_any (HA.out.fresh HB7.out) (rowIs_fresh HS4.out HL7.out) (show l ≤ 17592186043904 by omega)); clear HEQ hb7)
    | (go_at_call 14; with_reducible refine HST.out.mono ?_; rintro e w8 ⟨rfl, hb8⟩; have HB8 := hidd (HB7.out.trans (hb8.mono HB7.out.size)); have HL8 := hidd (HL7.out.trans (hb8.mono HL7.out.size)); have HSU := hidd (still_any (HB.out.fresh HB8.out) (rowIs_fresh HT4.out HL8.out) (show ns ≤ 17592186043904 by omega)); clear HST hb8)
    | (go_at_call 14; with_reducible refine HSU.out.mono ?_; rintro e w9 ⟨rfl, hb9⟩; have HB9 := hidd (HB8.out.trans (hb9.mono HB8.out.size)); have HL9 := hidd (HL8.out.trans (hb9.mono HL8.out.size)); have HSV := hidd (still_any (HC.out.fresh HB9.out) (rowIs_fresh HR4.out HL9.out) (show lz ≤ 17592186043904 by omega)); clear HSU hb9)
    | (go_at_call 14; with_reducible refine HSV.out.mono ?_; rintro e w10 ⟨rfl, hb10⟩; have HB10 := hidd (HB9.out.trans (hb10.mono HB9.out.size)); clear HSV hb10))
  go_ret
  exact ⟨rfl, HB10.out⟩
end Go.Proofs.Ytknfddakpfkcfaa
