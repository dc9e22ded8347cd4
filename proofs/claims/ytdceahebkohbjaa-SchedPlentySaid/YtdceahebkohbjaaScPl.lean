import Derived.Test.YtdceahebkohbjaaScPe
namespace Go.Proofs.Ytdceahebkohbjaa
open Go.RowKit
/-! SchedPlenty. -/
theorem tS_bd {F : Se → Int} {S : Nat → Se} {n : Nat} {B : Int} (h : ∀ i, i < n → 0 ≤ F (S i) ∧ F (S i) ≤ B) : ∀ k, k ≤ n → 0 ≤ tS F S k ∧ tS F S k ≤ B * (k : Int)
  | 0, _ => by simp [tS]
  | k + 1, hk => by
    obtain ⟨a, b⟩ := tS_bd h k (by omega)
    obtain ⟨p, q⟩ := h k (by omega)
    have e : B * ((k + 1 : Nat) : Int) = B * (k : Int) + B := by rw [Int.natCast_add, Int.mul_add]; simp
    rw [e]
    show 0 ≤ tS F S k + F (S k) ∧ tS F S k + F (S k) ≤ _
    omega
theorem wan_le {c : Me} (hc : okM c 1) (s : Se) : wan c s ≤ 1024 := by
  have := hc.2.2.2.2.2.2.2.2.1
  have := hc.2.2.2.2.2.2.2.2.2.1
  have := hc.2.2.2.2.2.2.2.2.2.2.2
  unfold wan
  split <;> omega
theorem hn_le {c : Me} (hc : okM c 1) {s : Se} (h : okS c s) : s.hn ≤ 256 := by
  have := hasN_cnt h.2.2.2.2.2 hc.2.2.2.1
  have := cnt_le (hasN s.H s.hn) 256
  omega
structure SmB (c : Me) (n : Nat) (S : Nat → Se) (pk : Int → Bool) : Prop where
  w : ∀ k, k ≤ n → 0 ≤ tS (fW c pk) S k ∧ tS (fW c pk) S k ≤ 1024 * (k : Int)
  h : ∀ k, k ≤ n → 0 ≤ tS (fun s => (s.hn : Int)) S k ∧ tS (fun s => (s.hn : Int)) S k ≤ 256 * (k : Int)
  g : ∀ k, k ≤ n → 0 ≤ tS (fG c pk) S k ∧ tS (fG c pk) S k ≤ 2000 * (k : Int)
  m : ∀ k, k ≤ n → 0 ≤ tS (fN pk) S k ∧ tS (fN pk) S k ≤ 1 * (k : Int)
theorem SmB.of {c : Me} {n : Nat} {S : Nat → Se} {pk : Int → Bool} (hc : okM c 1) (hk : ∀ i, i < n → okS c (S i)) : SmB c n S pk where
  w := tS_bd (fun i hi => by have := wan_pos hc (S i); have := wan_le hc (S i); unfold fW; split <;> omega)
  h := tS_bd (fun i hi => by have := hn_le hc (hk i hi); omega)
  g := tS_bd (fun i hi => by have := bey_bd hc (hk i hi) (k := wan c (S i)) (by have := wan_pos hc (S i); omega) (wan_le hc (S i)); unfold fG; split <;> omega)
  m := tS_bd (fun i hi => by unfold fN; split <;> omega)
set_option maxRecDepth 100000 in
set_option maxHeartbeats 8000000 in
theorem plenty_law {w : World} (c : Me) {ao po : Option Addr} {n cap m cp : Nat} {S : Nat → Se} {P : Nat → Int} (hS : SeA w ao n cap S) (hn : n * 56 ≤ 140737488351232) (hh : ∀ i, i < n → (S i).hn ≤ 17592186043904) (hP : RdA w po 1 m cp (fun i => .int .i64 (P i))) (hm : m ≤ 17592186043904) :
    Calls Try.prog 8 #[mV c, .slice ao n cap, .slice po m cp] w fun e w' => e = .returned (.bool true) ∧ Below w.heap.size w w' := by
  have HPL : Hid (∀ z, Below w.heap.size w z → Calls Try.prog 11 #[mV c, .slice ao n cap, .slice po m cp] z fun e w' => ∃ vO vZ may, e = .returned (.tuple #[.agg #[vO, vZ], .bool may, .bool true]) ∧ PdR z w' c n S (hasI P m) vO vZ may) := fun z hz => planned_any c (hS.fresh hz) hn hh (hP.fresh hz) hm
  have HSE := hidd hS
  have HPK := hidd hP
  obtain ⟨bs, bl, bu, ch, tr⟩ := c
  unfold mV at *
  simp only at HPL ⊢
  have HF := hidd (fresh_alloc w (.cells #[.int .i64 bs, .int .i64 bl, .int .i64 bu, .int .i64 ch, .int .i64 tr] 23))
  have HC5 : Hid (∀ z, Below (w.alloc (.cells #[.int .i64 bs, .int .i64 bl, .int .i64 bu, .int .i64 ch, .int .i64 tr] 23)).heap.size (w.alloc (.cells #[.int .i64 bs, .int .i64 bl, .int .i64 bu, .int .i64 ch, .int .i64 tr] 23)) z → z.cell? ⟨w.heap.size, 0, none⟩ = some (.int .i64 bs) ∧ z.cell? ⟨w.heap.size, 1, none⟩ = some (.int .i64 bl) ∧ z.cell? ⟨w.heap.size, 2, none⟩ = some (.int .i64 bu) ∧ z.cell? ⟨w.heap.size, 3, none⟩ = some (.int .i64 ch) ∧ z.cell? ⟨w.heap.size, 4, none⟩ = some (.int .i64 tr)) := fun z f => by
    obtain ⟨e0, e1, e2, e3, e4⟩ := box5 w (.int .i64 bs) (.int .i64 bl) (.int .i64 bu) (.int .i64 ch) (.int .i64 tr) 23
    exact ⟨fresh_cell f e0, fresh_cell f e1, fresh_cell f e2, fresh_cell f e3, fresh_cell f e4⟩
  have HP1 := hidd (HPL.out _ HF.out)
  clear hS hP hh HPL
  go_enter Try.func8, Try.ntmps8
  go_upto_region 2 with ((go_at_call 11; with_reducible refine HP1.out.mono ?_; rintro e w3 ⟨vO, vZ, may, rfl, hpd⟩; obtain ⟨uo, no, ko, rfl⟩ := hpd.sO; obtain ⟨uz, nz, kz, rfl⟩ := hpd.sZ))
  have HB3 := hidd (HF.out.trans (hpd.low.mono HF.out.size))
  have HL3 := hidd hpd.low
  have HFA := hidd (fresh_alloc w3 (.cells #[.slice uo no ko, .slice uz nz kz] 31))
  have HRP := hidd (two_new w3 (.slice uo no ko) (.slice uz nz kz) 31)
  have HB4 := hidd (HB3.out.trans (HFA.out.mono HB3.out.size))
  have HL4 := hidd (HL3.out.trans (HFA.out.mono HL3.out.size))
  have HPD := hidd hpd
  clear hpd
  cases may with
  | false =>
    go_wp2
    go_ret
    exact ⟨rfl, HB4.out⟩
  | true =>
    obtain ⟨hc, ha⟩ := HPD.out.iff.1 rfl
    obtain ⟨mO, mZ, oI, zI, zT, zG, o1, o2, hF⟩ := (HPD.out.ok rfl).plenty hc ha.1
    have HA := hidd ha
    have HCO := hidd hc
    have HLF := hidd hF
    have HOO := hidd (o1.kept HFA.out)
    have HOZ := hidd (o2.kept HFA.out)
    clear HPD
    obtain ⟨_, _, e1, _⟩ := o1.rd
    cases e1
    obtain ⟨_, _, e1, _⟩ := o2.rd
    cases e1
    clear o1 o2 ha hc hF HFA HB3 HL3
    have HSV := hidd (HC5.out _ HL4.out)
    clear HL4 HC5 HP1
    obtain ⟨pb, HPB⟩ : ∃ pb, Hid (pb = w3.heap.size) := ⟨_, rfl⟩
    rw [← HPB.out] at HRP ⊢
    generalize (w3.alloc (.cells #[.slice uo no ko, .slice uz nz kz] 31)) = w4 at *
    have hmz := HLF.out.mz
    have hnn : n ≤ 16 := HA.out.1
    have hbl1 : 1 ≤ bl := HCO.out.2.2.2.2.1
    have hbl2 : bl ≤ 16 := HCO.out.2.2.2.2.2.1
    have hbn : ¬ bl = 0 := by omega
    have HSM := hidd (SmB.of (pk := hasI P m) HCO.out HA.out.2.1)
    have HWN := hidd (fun (z : World) (i : Nat) (hi : i < n) => wanted_any z ⟨bs, bl, bu, ch, tr⟩ (S i) HCO.out (HA.out.2.1 i hi))
    unfold mV seV at HWN
    simp only at HWN
    go_wp2
    go_loopw [10, 11, 12, 13] (fun vt vb vn vi wr => ∃ k : Nat, k ≤ n ∧ vi = .int .i64 k ∧ vt = .int .i64 (tS (fW ⟨bs, bl, bu, ch, tr⟩ (hasI P m)) S k) ∧ vb = .int .i64 (tS (fun s => (s.hn : Int)) S k + tS (fG ⟨bs, bl, bu, ch, tr⟩ (hasI P m)) S k) ∧ vn = .int .i64 (tS (fN (hasI P m)) S k) ∧ Hid (Below w4.heap.size w4 wr)) (fun _ _ _ v _ => n - (intOf v).toNat)
    case atStart => exact ⟨0, by omega, rfl, rfl, rfl, rfl, Below.refl _ _⟩
    case round =>
      obtain ⟨k, hk, rfl, rfl, rfl, rfl, HG⟩ := hrel
      have HGW := hidd (HB4.out.trans (HG.out.mono HB4.out.size))
      obtain ⟨sw1, sw2⟩ := HSM.out.w k hk
      obtain ⟨sh1, sh2⟩ := HSM.out.h k hk
      obtain ⟨sg1, sg2⟩ := HSM.out.g k hk
      obtain ⟨sn1, sn2⟩ := HSM.out.m k hk
      by_cases hkn : k < n
      · obtain ⟨b3, o3, rfl, hc3⟩ := (HSE.out.fresh HGW.out).rd.seat (by omega)
        obtain ⟨x0, x1, x2, x3, x4⟩ := hc3 k hkn
        have kk0 : (0 : Int) ≤ (k : Int) := by omega
        have kk1 : (k : Int) < (n : Int) := by omega
        have HAP := hidd (fun (z : World) (hz : Below w.heap.size w z) => among_any (HPK.out.fresh hz) (S k).id)
        have HWK := hidd (fun z => HWN.out z k hkn)
        have hwp := wan_pos HCO.out (S k)
        have hwl := wan_le HCO.out (S k)
        have hhl := hn_le HCO.out (HA.out.2.1 k hkn)
        obtain ⟨ok1, ok2, ok3, ok4, _, _⟩ := HA.out.2.1 k hkn
        have HTW : Hid (tS (fW ⟨bs, bl, bu, ch, tr⟩ (hasI P m)) S (k + 1) = tS (fW ⟨bs, bl, bu, ch, tr⟩ (hasI P m)) S k + (if hasI P m (S k).id = true then wan ⟨bs, bl, bu, ch, tr⟩ (S k) else 0)) := rfl
        have HTH : Hid (tS (fun s => (s.hn : Int)) S (k + 1) = tS (fun s => (s.hn : Int)) S k + ((S k).hn : Int)) := rfl
        have HTG : Hid (tS (fG ⟨bs, bl, bu, ch, tr⟩ (hasI P m)) S (k + 1) = tS (fG ⟨bs, bl, bu, ch, tr⟩ (hasI P m)) S k + (if hasI P m (S k).id = true then max (((S k).ca + wan ⟨bs, bl, bu, ch, tr⟩ (S k) + bl - 1) / bl - ((S k).hn : Int)) 0 else 0)) := rfl
        have HTN : Hid (tS (fN (hasI P m)) S (k + 1) = tS (fN (hasI P m)) S k + (if hasI P m (S k).id = true then 1 else 0)) := rfl
        have sg3 := (HSM.out.g (k + 1) hkn).2
        rw [HTG.out] at sg3
        clear hc3
        generalize hasI P m (S k).id = rp at *
        generalize wan ⟨bs, bl, bu, ch, tr⟩ (S k) = wn at *
        generalize tS (fW ⟨bs, bl, bu, ch, tr⟩ (hasI P m)) S k = tw at *
        generalize tS (fun s => (s.hn : Int)) S k = th at *
        generalize tS (fG ⟨bs, bl, bu, ch, tr⟩ (hasI P m)) S k = tg at *
        generalize tS (fN (hasI P m)) S k = tn at *
        obtain ⟨s, HS⟩ : ∃ s, Hid (s = S k) := ⟨_, rfl⟩
        rw [← HS.out] at x0 x1 x2 x3 x4 HAP HWK hhl ok1 ok2 ok3 ok4 HTH HTG sg3
        obtain ⟨y0, y1, y2, y3, ho, hn0, hc0, HH⟩ := s
        simp only at x0 x1 x2 x3 x4 HAP HWK hhl ok1 ok2 ok3 ok4 HTH HTG sg3
        go_upto_region 12 with fail
        have HFA := hidd (fresh_alloc wr (.cells #[.int .i64 y0, .int .i64 y1, .int .i64 y2, .int .i64 y3, .slice ho hn0 hc0] 35))
        obtain ⟨c0, c1, c2, c3, c4⟩ := box5v wr (.int .i64 y0) (.int .i64 y1) (.int .i64 y2) (.int .i64 y3) (.slice ho hn0 hc0) 35
        have HG5 := hidd (HG.out.trans (HFA.out.mono HG.out.size))
        have HGW5 := hidd (HGW.out.trans (HFA.out.mono HGW.out.size))
        obtain ⟨sb, HSB⟩ : ∃ x, Hid (x = wr.heap.size) := ⟨_, rfl⟩
        rw [← HSB.out] at c0 c1 c2 c3 c4 ⊢
        clear x0 x1 x2 x3 x4
        generalize (wr.alloc (.cells #[.int .i64 y0, .int .i64 y1, .int .i64 y2, .int .i64 y3, .slice ho hn0 hc0] 35)) = w5 at *
        have HAP5 := hidd (HAP.out w5 HGW5.out)
        have f0 := fresh_cell HG5.out HSV.out.1
        have f1 := fresh_cell HG5.out HSV.out.2.1
        have f2 := fresh_cell HG5.out HSV.out.2.2.1
        have f3 := fresh_cell HG5.out HSV.out.2.2.2.1
        have f4 := fresh_cell HG5.out HSV.out.2.2.2.2
        cases rp with
        | false =>
          have EW := hidd (show tw = tS (fW ⟨bs, bl, bu, ch, tr⟩ (hasI P m)) S (k + 1) by rw [HTW.out, if_neg (by decide)]; omega)
          have EB := hidd (show th + tg + (hn0 : Int) = tS (fun s => (s.hn : Int)) S (k + 1) + tS (fG ⟨bs, bl, bu, ch, tr⟩ (hasI P m)) S (k + 1) by rw [HTH.out, HTG.out, if_neg (by decide)]; omega)
          have EN := hidd (show tn = tS (fN (hasI P m)) S (k + 1) by rw [HTN.out, if_neg (by decide)]; omega)
          clear sg3
          go_wp2_with (go_at_call 12; with_reducible refine HAP5.out.mono ?_; rintro e w' ⟨rfl, hw'⟩; replace hw' := hw'.symm; subst hw')
          go_roundw
          case rel => exact ⟨k + 1, by omega, by go_num, by rw [← EW.out], by rw [← EB.out], by rw [← EN.out], HG5⟩
          case measure => simp [intOf]; omega
        | true =>
          have EW := hidd (show tw + wn = tS (fW ⟨bs, bl, bu, ch, tr⟩ (hasI P m)) S (k + 1) by rw [HTW.out, if_pos rfl])
          have EB := hidd (show th + tg + (hn0 : Int) + max ((y2 + wn + bl - 1) / bl - (hn0 : Int)) 0 = tS (fun s => (s.hn : Int)) S (k + 1) + tS (fG ⟨bs, bl, bu, ch, tr⟩ (hasI P m)) S (k + 1) by rw [HTH.out, HTG.out, if_pos rfl]; omega)
          have EN := hidd (show tn + 1 = tS (fN (hasI P m)) S (k + 1) by rw [HTN.out, if_pos rfl])
          rw [if_pos rfl] at sg3
          go_upto_region 16 with (first
            | (go_at_call 12; with_reducible refine HAP5.out.mono ?_; rintro e w' ⟨rfl, hw'⟩; replace hw' := hw'.symm; subst hw') | (go_at_call 15; with_reducible refine (HWK.out w5).mono ?_; rintro e w6 ⟨rfl, hb6⟩))
          have HG6 := hidd (HG5.out.trans (hb6.mono HG5.out.size))
          have ne := later_some w6
          have lf1 := later_cell (fresh_cell hb6 f1)
          have lc2 := later_cell (fresh_cell hb6 c2)
          have lc4 := later_cell (fresh_cell hb6 c4)
          have hdv0 : 0 ≤ (y2 + wn + bl - 1) / bl := Int.ediv_nonneg (by omega) (by omega)
          have hdv1 : (y2 + wn + bl - 1) / bl ≤ y2 + wn + bl - 1 := Int.ediv_le_self _ (by omega)
          have HGR := hidd (fun x : Later w6 => greatest_any x.val ((y2 + wn + bl - 1) / bl - (hn0 : Int)) 0)
          clear c0 c1 c2 c3 c4 f0 f1 f2 f3 f4 hb6
          refine wp_region_later (by kernel_rfl) (by kernel_rfl) ?_
          repeat (go_big_quiet_step (fail))
          go_big_quiet_step (exact later_same (HGR.out _))
          repeat (go_big_quiet_step (fail))
          refine wpQuiet_nil ?_
          rintro _ ⟨z, rfl⟩
          have HZ4 := hidd (HG6.out.trans (z.fresh.mono HG6.out.size))
          clear lf1 lc2 lc4 HGR
          go_wp2
          go_roundw
          case rel => exact ⟨k + 1, by omega, by go_num, by rw [← EW.out], by rw [← EB.out], by rw [← EN.out], HZ4⟩
          case measure => simp [intOf]; omega
      · obtain rfl : k = n := by omega
        have HAL := hidd HLF.out.all
        have HEN := hidd (And.intro sn1 sn2)
        generalize tS (fW ⟨bs, bl, bu, ch, tr⟩ (hasI P m)) S k = tw at *
        generalize tS (fun s => (s.hn : Int)) S k = th at *
        generalize tS (fG ⟨bs, bl, bu, ch, tr⟩ (hasI P m)) S k = tg at *
        generalize tS (fN (hasI P m)) S k = tn at *
        have f0 := fresh_cell HG.out HSV.out.1
        have f2 := fresh_cell HG.out HSV.out.2.2.1
        by_cases hw : bu < tw
        · go_wp2
          go_ret
          exact ⟨rfl, HGW.out⟩
        by_cases hb : bs < th + tg
        · go_wp2
          go_ret
          exact ⟨rfl, HGW.out⟩
        obtain ⟨m0, m1, m2⟩ := HAL.out (by show tw ≤ bu; omega) (by show th + tg ≤ bs; omega)
        have HM2 := hidd m2
        subst m0
        clear m2 HAL
        go_wp2
        go_loopw [16] (fun v wi => ∃ j : Nat, j ≤ nz ∧ v = .int .i64 j ∧ Hid (Below w4.heap.size w4 wi)) (fun v _ => nz - (intOf v).toNat)
        case atStart => exact ⟨0, by omega, rfl, HG⟩
        case round =>
          obtain ⟨j, hj, rfl, HI⟩ := hrel
          have HIW := hidd (HB4.out.trans (HI.out.mono HB4.out.size))
          have r1 := HRP.out.of_block (HI.out.block _ HRP.out.lt)
          have p0 : wr.cell? ⟨pb, 0, none⟩ = some (.slice uo 0 ko) := r1.cell (i := 0) (by decide)
          have p1 : wr.cell? ⟨pb, 1, none⟩ = some (.slice uz nz kz) := r1.cell (i := 1) (by decide)
          by_cases hjn : j < nz
          · obtain ⟨q, hq, e1, t1, t2, t3, t4, t5⟩ := HM2.out j hjn
            obtain ⟨g1, o1, rfl, h1⟩ := (own_rda (HOZ.out.kept HI.out)).three (by omega)
            obtain ⟨z1, z2, z3⟩ := h1 j hjn
            have HS5 := hidd (seat_any (HSE.out.fresh HIW.out).rd hq (fun i hi => HA.out.2.2 i q hi hq) e1)
            have HWK := hidd (fun z => HWN.out z q hq)
            clear h1 r1 e1
            generalize zI j = iz at *
            generalize zT j = tz at *
            generalize zG j = gz at *
            generalize wan ⟨bs, bl, bu, ch, tr⟩ (S q) = wn at *
            obtain ⟨s, HS⟩ : ∃ s, Hid (s = S q) := ⟨_, rfl⟩
            rw [← HS.out] at HS5 HWK
            obtain ⟨y0, y1, y2, y3, ho, hn0, hc0, HH⟩ := s
            unfold seV at HS5
            simp only at HS5 HWK
            subst t5
            have jj0 : (0 : Int) ≤ (j : Int) := by omega
            have jj1 : (j : Int) < (nz : Int) := by omega
            go_upto_region 23 with (go_at_call 13; with_reducible refine HS5.out.mono ?_; rintro e w6 ⟨rfl, hb6⟩)
            have HX7 := hidd (fresh_alloc w6 (.cells #[.int .i64 y0, .int .i64 y1, .int .i64 y2, .int .i64 y3, .slice ho hn0 hc0] 35))
            have HXS := hidd (box5v w6 (.int .i64 y0) (.int .i64 y1) (.int .i64 y2) (.int .i64 y3) (.slice ho hn0 hc0) 35)
            have HXW := hidd (hb6.trans (HX7.out.mono hb6.size))
            have HX47 := hidd (HI.out.trans (HXW.out.mono HI.out.size))
            clear hb6 HX7
            obtain ⟨sb, HSB⟩ : ∃ x, Hid (x = w6.heap.size) := ⟨_, rfl⟩
            rw [← HSB.out] at HXS ⊢
            generalize (w6.alloc (.cells #[.int .i64 y0, .int .i64 y1, .int .i64 y2, .int .i64 y3, .slice ho hn0 hc0] 35)) = w7 at *
            obtain ⟨c0, c1, c2, c3, c4⟩ := HXS.out
            have r1 := HRP.out.of_block (HX47.out.block _ HRP.out.lt)
            have pp1 : w7.cell? ⟨pb, 1, none⟩ = some (.slice (some ⟨g1, o1, none⟩) nz kz) := r1.cell (i := 1) (by decide)
            have ne := later_some w7
            have l0 := later_cell c0
            have l1 := later_cell c1
            have l2 := later_cell c2
            have l3 := later_cell c3
            have l4 := later_cell c4
            have lp := later_cell pp1
            have lz2 := later_cell (fresh_cell HXW.out z2)
            have lz3 := later_cell (fresh_cell HXW.out z3)
            have m0 := later_cell (fresh_cell HX47.out HSV.out.1)
            have m1' := later_cell (fresh_cell HX47.out HSV.out.2.1)
            have m2 := later_cell (fresh_cell HX47.out HSV.out.2.2.1)
            have m3 := later_cell (fresh_cell HX47.out HSV.out.2.2.2.1)
            have m4 := later_cell (fresh_cell HX47.out HSV.out.2.2.2.2)
            have dq : (tz + gz != tz + gz) = false := by simp
            have HW7 := hidd (fun x : Later w7 => HWK.out x.val)
            clear c0 c1 c2 c3 c4 pp1 p0 p1 z1 z2 z3 f0 f2
            refine wp_region_later (by kernel_rfl) (by kernel_rfl) ?_
            repeat (go_big_quiet_step (fail))
            go_big_quiet_step (exact later_of (HW7.out _))
            repeat (go_big_quiet_step (fail))
            refine wpQuiet_nil ?_
            rintro _ ⟨z, rfl⟩
            have HZ4 := hidd (HX47.out.trans (z.fresh.mono HX47.out.size))
            clear l0 l1 l2 l3 l4 lp lz2 lz3 m0 m1' m2 m3 m4 HW7
            go_wp2
            go_roundw
            case rel => exact ⟨j + 1, by omega, by go_num, HZ4⟩
            case measure => simp [intOf]; omega
          · obtain rfl : j = nz := by omega
            subst m1
            go_wp2
            go_ret
            exact ⟨rfl, HIW.out⟩
end Go.Proofs.Ytdceahebkohbjaa
