import Derived.Test.YtknfddakpfkcfaaJdU
import Derived.Test.YtknfddakpfkcfaaJdP
import Derived.Deep.DeepCutAuto
namespace Go.Proofs.Ytknfddakpfkcfaa
open Go.RowKit Go.Shelf Go.Sort
/-! anew. -/
theorem WkA.len {n : Nat} {P T D : Nat → Int} {l : Nat} {C : Nat → Int} {w w' : World} {v : Value} {m : Nat} {x er : Int} (h : WkA n P T D l C w w' v m x er) : m ≤ 32 := by
  by_cases ht : okT n P T D
  · by_cases hl : l = n
    · have := (h.ok ht hl).1.p.len
      have := ht.2.1
      omega
    · have := (h.arg ht hl).2.1; omega
  · have := (h.bad ht).2.1; omega
theorem apart_of {w w' : World} {b b' : Nat} {e e' : TypeId} {s s' n n' : Nat} {v v' : Value} {cs cs' : Nat → Value} (h : Own w b e s v n cs) (h' : Own w' b' e' s' v' n' cs') (hb : w.heap.size ≤ b') : ∀ k, v'.ownBlock = some k → ¬ v.ownBlock = some k := fun k hk hk' => by
  have := (h.lt k hk').2
  have := (h'.lt k hk).1
  omega
theorem own_ge {w : World} {b B : Nat} {e : TypeId} {s n : Nat} {v : Value} {cs : Nat → Value} (h : Own w b e s v n cs) (hB : B ≤ b) : ∀ k, v.ownBlock = some k → B ≤ k := fun k hk => Nat.le_trans hB (h.lt k hk).1
set_option maxRecDepth 20000 in
set_option maxHeartbeats 4000000 in
theorem anew_any {w : World} {ao bo co xo : Option Addr} {n l ns lz ca cb cc cx : Nat} {P T D C S Z : Nat → Int} {most : Int} (h : RdA w ao 3 n ca (nds P T D)) (hc : RdA w bo 1 l cb (fun i => .int .i64 (C i))) (hs : RdA w co 1 ns cc (fun i => .int .i64 (S i))) (hz : RdA w xo 1 lz cx (fun i => .int .i64 (Z i))) (h1 : l ≤ 17592186043904) (h2 : ns ≤ 17592186043904) (h3 : lz ≤ 17592186043904) :
    Calls Try.prog 30 #[.slice ao n ca, .slice bo l cb, .slice co ns cc, .slice xo lz cx, .int .i64 most] w fun e w' => e = .returned (.bool true) ∧ Below w.heap.size w w' := by
  have HT := hidd h
  have HC := hidd hc
  have HS := hidd hs
  have HZ := hidd hz
  have K1 := hidd (copyI_any hc h1)
  clear h hc hs hz
  go_enter Try.func30, Try.ntmps30
  go_upto_region 2 with (go_at_call 27; with_reducible refine K1.out.mono ?_; rintro e w1 ⟨ux, cx1, rfl, ho, hb⟩; have HX1 := hidd ho; have B1 := hidd hb; have K2 := hidd (walk_any (HT.out.fresh hb) (own_rda ho)); clear K1 ho hb)
  go_upto_region 3 with (go_at_call 16; with_reducible refine K2.out.mono ?_; rintro e w2 ⟨v2, m2, x2, er2, rfl, q2⟩; have B2 := hidd (B1.out.trans (q2.low.mono B1.out.size)); have HX2 := hidd (HX1.out.kept q2.low); have K3 := hidd (turned_any HX2.out h1); obtain ⟨u2, c2, rfl, _⟩ := own_sl q2.own; clear K2 q2)
  go_upto_region 4 with (go_at_call 41; with_reducible refine K3.out.mono ?_; rintro e w3 ⟨rfl, fx, hx3, c3⟩; have B3 := hidd (c3.below B2.out B2.out.size (own_ge HX1.out (Nat.le_refl _))); have HX3 := hidd hx3; have K4 := hidd (walk_any (HT.out.fresh B3.out) (own_rda hx3)); clear K3 hx3 c3 HX2)
  go_upto_region 5 with (go_at_call 16; with_reducible refine K4.out.mono ?_; rintro e w4 ⟨v4, m4, x4, er4, rfl, q4⟩; have Q4 := hidd q4; have B4 := hidd (B3.out.trans (q4.low.mono B3.out.size)); have HX4 := hidd (HX3.out.kept q4.low); have K5 := hidd (copyI_any (own_rda HX4.out) h1); obtain ⟨u4, c4, rfl, _⟩ := own_sl q4.own; clear K4 q4)
  go_upto_region 6 with (first
    | (go_at_call 27; with_reducible refine K5.out.mono ?_; rintro e w5 ⟨u5, c5, rfl, ho, hb⟩; have B5 := hidd (B4.out.trans (hb.mono B4.out.size)); have L5 := hidd hb; have K6 := hidd (rwalk_any (HT.out.fresh B5.out) (own_rda ho)); clear K5 ho hb)
    | (go_at_call 22; with_reducible refine K6.out.mono ?_; rintro e w6 ⟨v6, m6, x6, er6, rfl, q6⟩; obtain ⟨rfl, rfl, rfl⟩ := Q4.out.same q6; have B6 := hidd (B5.out.trans (q6.low.mono B5.out.size)); have ML := hidd q6.len; obtain ⟨u6, c6, rfl, hr6⟩ := own_sl q6.own; have HW6 := hidd hr6; have K7 := hidd (eqInts_same ((own_rda Q4.out.own).fresh (L5.out.trans (q6.low.mono L5.out.size))) hr6); clear K6 q6))
  have hm := ML.out
  obtain ⟨fy, HFY⟩ : ∃ f : Nat → Int, Hid (f = fun i => ((wyF n P T fx i : Nat) : Int)) := ⟨_, rfl⟩
  have HW7 : Hid (RdA w6 u6 1 m6 c6 (fun i => .int .i64 (fy i))) := by rw [HFY.out]; exact HW6.out
  clear HW6 HFY Q4 HX4 HX3 HX1 L5
  go_upto_region 8 with (go_at_call 19; with_reducible refine K7.out.mono ?_; rintro e w7 ⟨rfl, hb⟩; have B7 := hidd (B6.out.trans (hb.mono B6.out.size)); have K8 := hidd (copyI_any (HW7.out.fresh hb) (show m6 ≤ 17592186043904 by omega)); clear K7 hb)
  go_upto_region 9 with (go_at_call 27; with_reducible refine K8.out.mono ?_; rintro e w8 ⟨uy, cy, rfl, ho, hb⟩; have B8 := hidd (B7.out.trans (hb.mono B7.out.size)); have Y8 := hidd ho; have K9 := hidd (copyI_any (HS.out.fresh B8.out) h2); clear K8 ho hb)
  go_upto_region 10 with (go_at_call 27; with_reducible refine K9.out.mono ?_; rintro e w9 ⟨us, cs, rfl, ho, hb⟩; have B9 := hidd (B8.out.trans (hb.mono B8.out.size)); have S9 := hidd ho; have L9 := hidd hb; have K10 := hidd (copyI_any (HZ.out.fresh B9.out) h3); clear K9 ho hb)
  go_upto_region 11 with (go_at_call 27; with_reducible refine K10.out.mono ?_; rintro e w10 ⟨uz, cz, rfl, ho, hb⟩; have B10 := hidd (B9.out.trans (hb.mono B9.out.size)); have Z10 := hidd ho; have L10 := hidd hb; clear K10 ho hb)
  have AYS := hidd (apart_of Y8.out S9.out (Nat.le_refl _))
  have AYZ := hidd (apart_of Y8.out Z10.out L9.out.size)
  have ASZ := hidd (apart_of S9.out Z10.out (Nat.le_refl _))
  have GY := hidd (own_ge Y8.out B7.out.size)
  have GS := hidd (own_ge S9.out B8.out.size)
  have GZ := hidd (own_ge Z10.out B9.out.size)
  have Y10 := hidd ((Y8.out.kept L9.out).kept L10.out)
  have S10 := hidd (S9.out.kept L10.out)
  have K11 := hidd (take_any (next := x6) (most := most) (HT.out.fresh B10.out) (own_rda Y10.out))
  clear Y8 S9 L9 L10 HW7
  go_upto_region 12 with (go_at_call 24; with_reducible refine K11.out.mono ?_; rintro e w11 k11; obtain ⟨v11, m11, x11, er11, rfl, q11⟩ := k11.out; clear k11; have B11 := hidd (B10.out.trans (q11.low.mono B10.out.size)); have Y11 := hidd (Y10.out.kept q11.low); have S11 := hidd (S10.out.kept q11.low); have Z11 := hidd (Z10.out.kept q11.low); obtain ⟨u11, c11, rfl, _⟩ := own_sl q11.own; have K12 := hidd (plan_any (own_rda Y11.out) (own_rda S11.out) (own_rda Z11.out) (show m6 ≤ 8796093022208 by omega)); clear K11 q11 Y10 S10 Z10)
  go_upto_if 84 with (go_at_call 10; with_reducible refine K12.out.mono ?_; rintro e w12 k12; obtain ⟨v12, R12, er12, rfl, q12⟩ := k12.out; clear k12; have B12 := hidd (B11.out.trans (q12.low.mono B11.out.size)); have Y12 := hidd (Y11.out.kept q12.low); have S12 := hidd (S11.out.kept q12.low); have Z12 := hidd (Z11.out.kept q12.low); obtain ⟨u12, c12, rfl, _⟩ := own_sl q12.own; clear K12 q12 Y11 S11 Z11)
  go_cut [85, 86, 87, 88, 89] (fun _ _ _ _ _ wx => ∃ f' : Nat → Int, Hid (Own wx w7.heap.size 3 1 (.slice uy m6 cy) m6 (fun i => .int .i64 (f' i))) ∧ Hid (Chg w12 wx (fun b => (Value.slice uy m6 cy).ownBlock = some b)))
  case first =>
    by_cases hm1 : 1 < m6
    · have d1 : decide ((1 : Int) < (m6 : Int)) = true := decide_eq_true (by omega)
      have d1b : decide (1 < m6) = true := decide_eq_true hm1
      obtain ⟨g, rfl, _, _⟩ := own_blk Y12.out (by omega)
      obtain ⟨b1, o1, e1, hcl⟩ := (own_rda Y12.out).one (by omega)
      cases e1
      obtain ⟨q, HQ⟩ : ∃ q, Hid (q + 1 = m6) := ⟨m6 - 1, by show _ = _; omega⟩
      have e3 : (m6 : Int) - 1 = (q : Int) := by have := HQ.out; omega
      have y1 := hcl q (by have := HQ.out; omega)
      simp only [Nat.zero_add] at y1
      have fz := own_fz Y12.out
      have q0 : (0 : Int) ≤ (q : Int) := by omega
      have q1 : (q : Int) < (m6 : Int) := by have := HQ.out; omega
      have HP := hidd ((Y12.out.put q (.int .i64 0)).congr (cs' := fun i => .int .i64 (if i = q then 0 else fy i)) (fun i _ => by split <;> rfl))
      have HCH := hidd ((Chg.of_set w12 g q (.int .i64 0)).imp (T := fun b => (Value.slice (some ⟨g, 0, none⟩) m6 cy).ownBlock = some b) (fun b _ e => by rw [e]; rfl))
      clear hcl
      go_wp2_with fail
      go_meet
      case rel => exact ⟨_, HP, HCH⟩
    · have d1 : decide ((1 : Int) < (m6 : Int)) = false := decide_eq_false (by omega)
      have d1b : decide (1 < m6) = false := decide_eq_false hm1
      go_wp2_with fail
      go_meet
      case rel => exact ⟨fy, Y12, Chg.refl _ _⟩
  case rest =>
    obtain ⟨f13, Y13, C13⟩ := hcut
    rename World => w13
    have B13 := hidd (C13.out.below B12.out B12.out.size GY.out)
    have S13 := hidd (S12.out.chg C13.out AYS.out)
    have Z13 := hidd (Z12.out.chg C13.out AYZ.out)
    have K15 := hidd (turned_any S13.out h2)
    clear Y12 S12 Z12 C13
    go_upto_region 16 with (go_at_call 41; with_reducible refine K15.out.mono ?_; rintro e w14 ⟨rfl, f14, hx, c14⟩; have B14 := hidd (c14.below B13.out B13.out.size GS.out); have S14 := hidd hx; have Y14 := hidd (Y13.out.chg c14 (fun b hb q => absurd hb (AYS.out b q))); have Z14 := hidd (Z13.out.chg c14 ASZ.out); have K16 := hidd (turned_any Z14.out h3); clear K15 hx c14 S13 Y13 Z13)
    go_upto_region 17 with (go_at_call 41; with_reducible refine K16.out.mono ?_; rintro e w15 ⟨rfl, f15, hx, c15⟩; have B15 := hidd (c15.below B14.out B14.out.size GZ.out); have Z15 := hidd hx; have Y15 := hidd (Y14.out.chg c15 (fun b hb q => absurd hb (AYZ.out b q))); have S15 := hidd (S14.out.chg c15 (fun b hb q => absurd hb (ASZ.out b q))); have K17 := hidd (take_any (next := x6) (most := most) (HT.out.fresh B15.out) (own_rda Y15.out)); clear K16 hx c15 S14 Y14 Z14)
    go_upto_region 18 with (go_at_call 24; with_reducible refine K17.out.mono ?_; rintro e w16 k16; obtain ⟨v16, m16, x16, er16, rfl, q16⟩ := k16.out; clear k16; have Q16 := hidd q16; have B16 := hidd (B15.out.trans (q16.low.mono B15.out.size)); have Y16 := hidd (Y15.out.kept q16.low); have S16 := hidd (S15.out.kept q16.low); have Z16 := hidd (Z15.out.kept q16.low); obtain ⟨u16, c16, rfl, _⟩ := own_sl q16.own; have K18 := hidd (copyI_any (own_rda Y16.out) (show m6 ≤ 17592186043904 by omega)); clear K17 q16 Y15 S15 Z15)
    go_upto_region 19 with (first
      | (go_at_call 27; with_reducible refine K18.out.mono ?_; rintro e w17 ⟨u17, c17, rfl, ho, hb⟩; have B17 := hidd (B16.out.trans (hb.mono B16.out.size)); have L17 := hidd hb; have K19 := hidd (rtake_any (next := x6) (most := most) (HT.out.fresh B17.out) (own_rda ho)); clear K18 ho hb)
      | (go_at_call 25; with_reducible refine K19.out.mono ?_; rintro e w18 k18; obtain ⟨v18, m18, x18, er18, rfl, q18⟩ := k18.out; clear k18; obtain ⟨rfl, rfl, rfl⟩ := Q16.out.same q18; have B18 := hidd (B17.out.trans (q18.low.mono B17.out.size)); have L18 := hidd (L17.out.trans (q18.low.mono L17.out.size)); obtain ⟨u18, c18, rfl, hr18⟩ := own_sl q18.own; have E18 := hidd hr18; have K20 := hidd (plan_any ((own_rda Y16.out).fresh L18.out) ((own_rda S16.out).fresh L18.out) ((own_rda Z16.out).fresh L18.out) (show m6 ≤ 8796093022208 by omega)); clear K19 q18 L17))
    have Q16a := hidd ((own_rda Q16.out.own).fresh L18.out)
    have YA := hidd ((own_rda Y16.out).fresh L18.out)
    have SA := hidd ((own_rda S16.out).fresh L18.out)
    have ZA := hidd ((own_rda Z16.out).fresh L18.out)
    clear Q16 Y16 S16 Z16 L18
    go_upto_region 20 with (go_at_call 10; with_reducible refine K20.out.mono ?_; rintro e w19 k19; obtain ⟨v19, R19, er19, rfl, q19⟩ := k19.out; clear k19; have Q19 := hidd q19; have B19 := hidd (B18.out.trans (q19.low.mono B18.out.size)); obtain ⟨u19, c19, rfl, _⟩ := own_sl q19.own; have K21 := hidd (copyI_any (YA.out.fresh q19.low) (show m6 ≤ 17592186043904 by omega)); clear K20 q19)
    have YB := hidd (YA.out.fresh Q19.out.low)
    have SB := hidd (SA.out.fresh Q19.out.low)
    have ZB := hidd (ZA.out.fresh Q19.out.low)
    have LB := hidd (E18.out.fresh Q19.out.low)
    have TB := hidd (Q16a.out.fresh Q19.out.low)
    clear YA SA ZA E18 Q16a
    go_upto_region 21 with (first
      | (go_at_call 27; with_reducible refine K21.out.mono ?_; rintro e w20 ⟨u20, c20, rfl, ho, hb⟩; have L20 := hidd hb; have Y20 := hidd (own_rda ho); have K22 := hidd (copyI_any (SB.out.fresh hb) h2); clear K21 ho hb)
      | (go_at_call 27; with_reducible refine K22.out.mono ?_; rintro e w21 ⟨u21, c21, rfl, ho, hb⟩; have L21 := hidd (L20.out.trans (hb.mono L20.out.size)); have Y21 := hidd (Y20.out.fresh hb); have S21 := hidd (own_rda ho); have K23 := hidd (copyI_any (ZB.out.fresh L21.out) h3); clear K22 ho hb Y20)
      | (go_at_call 27; with_reducible refine K23.out.mono ?_; rintro e w22 ⟨u22, c22, rfl, ho, hb⟩; have L22 := hidd (L21.out.trans (hb.mono L21.out.size)); have K24 := hidd (rplan_any (Y21.out.fresh hb) (S21.out.fresh hb) (own_rda ho) (show m6 ≤ 8796093022208 by omega)); clear K23 ho hb Y21 S21)
      | (go_at_call 12; with_reducible refine K24.out.mono ?_; rintro e w23 k23; obtain ⟨v23, R23, er23, rfl, q23⟩ := k23.out; clear k23; obtain ⟨rfl, rfl⟩ := Q19.out.same q23; have L23 := hidd (L22.out.trans (q23.low.mono L22.out.size)); obtain ⟨u23, c23, rfl, hr23⟩ := own_sl q23.own; have M23 := hidd hr23; have K25 := hidd (eqInts_same (TB.out.fresh L23.out) (LB.out.fresh L23.out)); clear K24 q23))
    have B23 := hidd (B19.out.trans (L23.out.mono B19.out.size))
    have M19 := hidd ((own_rda Q19.out.own).fresh L23.out)
    clear Q19
    go_wp2_with (first
      | (go_at_call 19; with_reducible refine K25.out.mono ?_; rintro e w24 ⟨rfl, hb⟩; have B24 := hidd (B23.out.trans (hb.mono B23.out.size)); have K26 := hidd (eqMoves_same (M19.out.fresh hb) (M23.out.fresh hb)); clear K25 hb)
      | (go_at_call 13; with_reducible refine K26.out.mono ?_; rintro e w25 ⟨rfl, hb⟩; have B25 := hidd (B24.out.trans (hb.mono B24.out.size)); clear K26 hb))
    go_ret
    exact ⟨rfl, B25.out⟩
end Go.Proofs.Ytknfddakpfkcfaa
