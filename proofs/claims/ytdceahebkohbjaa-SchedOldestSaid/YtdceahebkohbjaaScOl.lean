import Derived.Test.YtdceahebkohbjaaScOd
namespace Go.Proofs.Ytdceahebkohbjaa
open Go.RowKit
/-! SchedOldest. -/
set_option maxRecDepth 100000 in
set_option maxHeartbeats 8000000 in
theorem oldest_law {w : World} (c : Me) {ao po : Option Addr} {n cap m cp : Nat} {S : Nat → Se} {P : Nat → Int} (hS : SeA w ao n cap S) (hn : n * 56 ≤ 140737488351232) (hh : ∀ i, i < n → (S i).hn ≤ 17592186043904) (hP : RdA w po 1 m cp (fun i => .int .i64 (P i))) (hm : m ≤ 17592186043904) :
    Calls Try.prog 4 #[mV c, .slice ao n cap, .slice po m cp] w fun e w' => e = .returned (.bool true) ∧ Below w.heap.size w w' := by
  have HPL : Hid (∀ z, Below w.heap.size w z → Calls Try.prog 11 #[mV c, .slice ao n cap, .slice po m cp] z fun e w' => ∃ vO vZ may, e = .returned (.tuple #[.agg #[vO, vZ], .bool may, .bool true]) ∧ PdR z w' c n S (hasI P m) vO vZ may) := fun z hz => planned_any c (hS.fresh hz) hn hh (hP.fresh hz) hm
  have HSE := hidd hS
  have HPK := hidd hP
  obtain ⟨bs, bl, bu, ch, tr⟩ := c
  unfold mV at *
  simp only at HPL ⊢
  have HF := hidd (fresh_alloc w (.cells #[.int .i64 bs, .int .i64 bl, .int .i64 bu, .int .i64 ch, .int .i64 tr] 23))
  have HC5 : Hid (∀ z, Below (w.alloc (.cells #[.int .i64 bs, .int .i64 bl, .int .i64 bu, .int .i64 ch, .int .i64 tr] 23)).heap.size (w.alloc (.cells #[.int .i64 bs, .int .i64 bl, .int .i64 bu, .int .i64 ch, .int .i64 tr] 23)) z → z.cell? ⟨w.heap.size, 0, none⟩ = some (.int .i64 bs) ∧ z.cell? ⟨w.heap.size, 1, none⟩ = some (.int .i64 bl) ∧ z.cell? ⟨w.heap.size, 3, none⟩ = some (.int .i64 ch)) := fun z f => by
    obtain ⟨e0, e1, e2, e3, e4⟩ := box5 w (.int .i64 bs) (.int .i64 bl) (.int .i64 bu) (.int .i64 ch) (.int .i64 tr) 23
    exact ⟨fresh_cell f e0, fresh_cell f e1, fresh_cell f e3⟩
  have HP1 := hidd (HPL.out _ HF.out)
  clear hS hP hh HPL
  go_enter Try.func4, Try.ntmps4
  go_upto_region 2 with ((go_at_call 11; with_reducible refine HP1.out.mono ?_; rintro e w3 ⟨vO, vZ, may, rfl, hpd⟩; obtain ⟨uo, no, ko, rfl⟩ := hpd.sO; obtain ⟨uz, nz, kz, rfl⟩ := hpd.sZ))
  have HB3 := hidd (HF.out.trans (hpd.low.mono HF.out.size))
  have HL3 := hidd hpd.low
  have HFA := hidd (fresh_alloc w3 (.cells #[.slice uo no ko, .slice uz nz kz] 31))
  have HRP := hidd (two_new w3 (.slice uo no ko) (.slice uz nz kz) 31)
  have HB4 := hidd (HB3.out.trans (HFA.out.mono HB3.out.size))
  have HL4 := hidd (HL3.out.trans (HFA.out.mono HL3.out.size))
  have HPD := hidd hpd
  clear hpd
  cases may with
  | false =>
    go_wp2
    go_ret
    exact ⟨rfl, HB4.out⟩
  | true =>
    obtain ⟨hc, ha⟩ := HPD.out.iff.1 rfl
    obtain ⟨mO, mZ, oI, zI, zT, zG, o1, o2, hF⟩ := (HPD.out.ok rfl).oldest hc ha.1
    have HA := hidd ha
    have HCO := hidd hc
    have HLF := hidd hF
    have HOO := hidd (o1.kept HFA.out)
    have HOZ := hidd (o2.kept HFA.out)
    clear HPD
    obtain ⟨_, _, e1, _⟩ := o1.rd
    cases e1
    obtain ⟨_, _, e1, _⟩ := o2.rd
    cases e1
    clear o1 o2 ha hc hF HFA HB3 HL3
    obtain ⟨f2, f3, f4⟩ := HC5.out _ HL4.out
    have HF2 := hidd f2
    have HF3 := hidd f3
    have HF4 := hidd f4
    clear f2 f3 f4 HL4 HC5 HP1
    obtain ⟨pb, HPB⟩ : ∃ pb, Hid (pb = w3.heap.size) := ⟨_, rfl⟩
    rw [← HPB.out] at HRP ⊢
    generalize (w3.alloc (.cells #[.slice uo no ko, .slice uz nz kz] 31)) = w4 at *
    have hmz := HLF.out.mz
    have hnn : n ≤ 16 := HA.out.1
    have hbl1 : 1 ≤ bl := HCO.out.2.2.2.2.1
    have hbl2 : bl ≤ 16 := HCO.out.2.2.2.2.2.1
    have hbs1 : 1 ≤ bs := HCO.out.2.2.1
    have hbs2 : bs ≤ 256 := HCO.out.2.2.2.1
    have HPR := hidd (prod_bd hbs1 hbs2 hbl1 hbl2)
    by_cases h0 : n = 0
    · subst h0
      go_wp2
      go_ret
      exact ⟨rfl, HB4.out⟩
    obtain ⟨b2, o2, rfl, hc2⟩ := (HSE.out.fresh HB4.out).rd.seat (by omega)
    obtain ⟨x0, x1, x2, x3, x4⟩ := hc2 0 (by omega)
    simp only [Nat.zero_mul, Nat.add_zero] at x0 x1 x2 x3 x4
    have hni : (0 : Int) < (n : Int) := by omega
    have hni2 : ¬ (n : Int) = 0 := by omega
    clear hc2
    go_upto_region 5 with fail
    have HB5 := hidd (fresh_alloc w4 (.cells #[.int .i64 (S 0).id, .int .i64 (S 0).kn, .int .i64 (S 0).ca, .int .i64 (S 0).wa, .slice (S 0).ho (S 0).hn (S 0).hc] 35))
    have HRS : Hid ((w4.alloc (.cells #[.int .i64 (S 0).id, .int .i64 (S 0).kn, .int .i64 (S 0).ca, .int .i64 (S 0).wa, .slice (S 0).ho (S 0).hn (S 0).hc] 35)).rowIs w4.heap.size 35 5 (seC (S 0))) := World.rowIs_alloc w4 #[.int .i64 (S 0).id, .int .i64 (S 0).kn, .int .i64 (S 0).ca, .int .i64 (S 0).wa, .slice (S 0).ho (S 0).hn (S 0).hc] 35 _ (fun i hi => by
      simp at hi
      have : i = 0 ∨ i = 1 ∨ i = 2 ∨ i = 3 ∨ i = 4 := by omega
      rcases this with rfl | rfl | rfl | rfl | rfl <;> rfl)
    obtain ⟨sb, HSB⟩ : ∃ x, Hid (x = w4.heap.size) := ⟨_, rfl⟩
    have HSW : Hid (w4.heap.size ≤ sb) := Nat.le_of_eq HSB.out.symm
    rw [← HSB.out] at HRS ⊢
    clear x0 x1 x2 x3 x4
    generalize (w4.alloc (.cells #[.int .i64 (S 0).id, .int .i64 (S 0).kn, .int .i64 (S 0).ca, .int .i64 (S 0).wa, .slice (S 0).ho (S 0).hn (S 0).hc] 35)) = w5 at *
    go_wp2
    go_loopw [11] (fun v wr => ∃ (j q : Nat), j ≤ n ∧ v = .int .i64 j ∧ q < n ∧ Hid (∀ i, i < j → (S q).id ≤ (S i).id) ∧ Hid (wr.rowIs sb 35 5 (seC (S q))) ∧ Hid (Below w4.heap.size w4 wr)) (fun v _ => n - (intOf v).toNat)
    case atStart => exact ⟨0, 0, by omega, rfl, by omega, fun i hi => absurd hi (by omega), HRS, HB5⟩
    case round =>
      obtain ⟨j, q, hj, rfl, hq, HM, HR, HG⟩ := hrel
      have HGW := hidd (HB4.out.trans (HG.out.mono HB4.out.size))
      by_cases hjn : j < n
      · obtain ⟨b3, o3, e3, hc3⟩ := (HSE.out.fresh HGW.out).rd.seat (by omega)
        cases e3
        obtain ⟨x0, x1, x2, x3, x4⟩ := hc3 j hjn
        have g0 : wr.cell? ⟨sb, 0, none⟩ = some (.int .i64 (S q).id) := HR.out.cell (i := 0) (by decide)
        have jj0 : (0 : Int) ≤ (j : Int) := by omega
        have jj1 : (j : Int) < (n : Int) := by omega
        have HX := hidd (And.intro x1 (And.intro x2 (And.intro x3 x4)))
        have HX0 := hidd x0
        clear hc3 x1 x2 x3 x4
        by_cases hl : (S j).id < (S q).id
        · have dl : decide ((S j).id < (S q).id) = true := decide_eq_true hl
          have HM2 : Hid (∀ i, i < j + 1 → (S j).id ≤ (S i).id) := fun i hi => by
            by_cases e : i = j
            · rw [e]; exact Int.le_refl _
            · have := HM.out i (by omega); omega
          clear hl
          go_upto_region 8 with fail
          go_quiet (fail)
          have HD2 := hidd (fresh_drewN wr nq)
          have HR2 := hidd (HR.out.of_block (HD2.out.block _ HR.out.lt))
          have HG2 := hidd (HG.out.trans (HD2.out.mono HG.out.size))
          have x0 := fresh_cell HD2.out HX0.out
          have x1 := fresh_cell HD2.out HX.out.1
          have x2 := fresh_cell HD2.out HX.out.2.1
          have x3 := fresh_cell HD2.out HX.out.2.2.1
          have x4 := fresh_cell HD2.out HX.out.2.2.2
          clear g0 HX HX0 HR HG dl
          generalize wr.drewN nq = w6 at *
          have g0 := HR2.out.cell (i := 0) (by decide)
          have g1 := HR2.out.cell (i := 1) (by decide)
          have g2 := HR2.out.cell (i := 2) (by decide)
          have g3 := HR2.out.cell (i := 3) (by decide)
          have g4 := HR2.out.cell (i := 4) (by decide)
          have gf := HR2.out.frozen
          go_wp2
          go_roundw
          case rel => exact ⟨j + 1, j, by omega, by go_num, hjn, HM2, hidd (seC_set5 HR2.out (S j)), hidd (((((HG2.out.setCell HSW.out _).setCell HSW.out _).setCell HSW.out _).setCell HSW.out _).setCell HSW.out _)⟩
          case measure => simp [intOf]; omega
        · have dl : decide ((S j).id < (S q).id) = false := decide_eq_false hl
          have HM2 : Hid (∀ i, i < j + 1 → (S q).id ≤ (S i).id) := fun i hi => by
            by_cases e : i = j
            · rw [e]; omega
            · exact HM.out i (by omega)
          clear hl
          go_upto_region 8 with fail
          go_quiet (fail)
          have HD2 := hidd (fresh_drewN wr nq)
          have HR2 := hidd (HR.out.of_block (HD2.out.block _ HR.out.lt))
          have HG2 := hidd (HG.out.trans (HD2.out.mono HG.out.size))
          go_wp2
          go_roundw
          case rel => exact ⟨j + 1, q, by omega, by go_num, hq, HM2, HR2, HG2⟩
          case measure => simp [intOf]; omega
      · obtain rfl : j = n := by omega
        obtain ⟨u1, u2⟩ := HLF.out.at_ q hq HM.out
        have HU2 := hidd u2
        have HAO := hidd (among_any (own_rda (HOO.out.kept HG.out)) (S q).id)
        have HAP := hidd (among_any (HPK.out.fresh HGW.out) (S q).id)
        rw [u1] at HAO
        obtain ⟨ok1, ok2, ok3, ok4, _, _⟩ := HA.out.2.1 q hq
        have r1 := HRP.out.of_block (HG.out.block _ HRP.out.lt)
        have p0 : wr.cell? ⟨pb, 0, none⟩ = some (.slice uo no ko) := r1.cell (i := 0) (by decide)
        have p1 : wr.cell? ⟨pb, 1, none⟩ = some (.slice uz nz kz) := r1.cell (i := 1) (by decide)
        have f2 := fresh_cell HG.out HF2.out
        have f3 := fresh_cell HG.out HF3.out
        have f4 := fresh_cell HG.out HF4.out
        have HOW := hidd (own_rda (HOZ.out.kept HG.out))
        obtain ⟨s1, s2⟩ := HPR.out
        clear u1 u2 r1 HM
        generalize hasI P m (S q).id = rp at *
        generalize S q = s at *
        obtain ⟨y0, y1, y2, y3, ho, hn0, hc0, HH⟩ := s
        have c0 : wr.cell? ⟨sb, 0, none⟩ = some (.int .i64 y0) := HR.out.cell (i := 0) (by decide)
        have c1 : wr.cell? ⟨sb, 1, none⟩ = some (.int .i64 y1) := HR.out.cell (i := 1) (by decide)
        have c2 : wr.cell? ⟨sb, 2, none⟩ = some (.int .i64 y2) := HR.out.cell (i := 2) (by decide)
        simp only [rst] at HU2 HAO HAP ok1 ok2 ok3 ok4
        go_upto_region 12 with (go_at_call 12; with_reducible refine HAO.out.mono ?_; rintro e w' ⟨rfl, hw'⟩; replace hw' := hw'.symm; subst hw')
        cases rp with
        | false =>
          go_wp2_with (go_at_call 12; with_reducible refine HAP.out.mono ?_; rintro e w' ⟨rfl, hw'⟩; replace hw' := hw'.symm; subst hw')
          go_ret
          exact ⟨rfl, HGW.out⟩
        | true =>
          by_cases hkn : bs * bl < y1
          · go_wp2_with (go_at_call 12; with_reducible refine HAP.out.mono ?_; rintro e w' ⟨rfl, hw'⟩; replace hw' := hw'.symm; subst hw')
            go_ret
            exact ⟨rfl, HGW.out⟩
          · obtain ⟨v1, v2, v3, v4⟩ := HU2.out rfl (by omega)
            obtain ⟨g1, o1, rfl, h1⟩ := HOW.out.three v1
            obtain ⟨z1, z2, z3⟩ := h1 0 v1
            simp only [Nat.zero_mul, Nat.add_zero] at z1 z2 z3
            rw [v2] at z1
            have nz0 : (0 : Int) < (nz : Int) := by omega
            have d2 : ((nz : Int) == 0) = false := by simp; omega
            have d2b : (nz == 0) = false := by simp; omega
            have dq : (y0 != y0) = false := by simp
            have hkn2 : y1 ≤ bs * bl := by omega
            have HV3 := hidd v3
            have HV4 := hidd v4
            clear h1 v2 v3 v4 hkn HU2
            generalize zT 0 = tz at *
            generalize zG 0 = gz at *
            go_upto_region 14 with (go_at_call 12; with_reducible refine HAP.out.mono ?_; rintro e w' ⟨rfl, hw'⟩; replace hw' := hw'.symm; subst hw')
            go_quiet (fail)
            have HD2 := hidd (fresh_drewN wr nq)
            have HE2 := hidd (HGW.out.trans (HD2.out.mono HGW.out.size))
            have a1 := fresh_cell HD2.out c1
            have a2 := fresh_cell HD2.out c2
            have a4 := fresh_cell HD2.out f4
            have ap := fresh_cell HD2.out p1
            have b1 := fresh_cell HD2.out z1
            have b2 := fresh_cell HD2.out z2
            have b3 := fresh_cell HD2.out z3
            clear c0 c1 c2 f2 f3 f4 p0 p1 z1 z2 z3 d2 d2b dq
            generalize wr.drewN nq = w6 at *
            go_upto_region 17 with fail
            have HFA := hidd (fresh_alloc w6 (.cells #[.int .i64 y0, .int .i64 tz, .int .i64 gz] 38))
            obtain ⟨k0, k1, k2⟩ := box3v w6 (.int .i64 y0) (.int .i64 tz) (.int .i64 gz) 38
            have HE3 := hidd (HE2.out.trans (HFA.out.mono HE2.out.size))
            have e1 := fresh_cell HFA.out a1
            have e2 := fresh_cell HFA.out a2
            have e4 := fresh_cell HFA.out a4
            clear a1 a2 a4 ap b1 b2 b3
            obtain ⟨xb, HXB⟩ : ∃ x, Hid (x = w6.heap.size) := ⟨_, rfl⟩
            rw [← HXB.out] at k0 k1 k2 ⊢
            generalize (w6.alloc (.cells #[.int .i64 y0, .int .i64 tz, .int .i64 gz] 38)) = w7 at *
            by_cases hr : y1 - 1 - y2 = 0
            · have hg := HV3.out hr
              go_wp2
              go_ret
              exact ⟨rfl, HE3.out⟩
            · have ht := HV4.out (by omega)
              by_cases hc : ch < y1 - 1 - y2
              · have et : tz = ch := by omega
                clear ht
                subst et
                go_wp2
                go_ret
                exact ⟨rfl, HE3.out⟩
              · have et : tz = y1 - 1 - y2 := by omega
                clear ht
                subst et
                go_wp2
                go_ret
                exact ⟨rfl, HE3.out⟩
end Go.Proofs.Ytdceahebkohbjaa
