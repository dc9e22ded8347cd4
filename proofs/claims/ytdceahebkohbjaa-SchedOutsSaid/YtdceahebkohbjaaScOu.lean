import Derived.Test.YtdceahebkohbjaaScBu
namespace Go.Proofs.Ytdceahebkohbjaa
open Go.RowKit
/-! SchedOuts. -/
set_option maxRecDepth 100000 in
set_option maxHeartbeats 8000000 in
theorem outs_law {w : World} (c : Me) {ao po : Option Addr} {n cap m cp : Nat} {S : Nat → Se} {P : Nat → Int} (hS : SeA w ao n cap S) (hn : n * 56 ≤ 140737488351232) (hh : ∀ i, i < n → (S i).hn ≤ 17592186043904) (hP : RdA w po 1 m cp (fun i => .int .i64 (P i))) (hm : m ≤ 17592186043904) :
    Calls Try.prog 5 #[mV c, .slice ao n cap, .slice po m cp] w fun e w' => e = .returned (.bool true) ∧ Below w.heap.size w w' := by
  have HPL : Hid (∀ z, Below w.heap.size w z → Calls Try.prog 11 #[mV c, .slice ao n cap, .slice po m cp] z fun e w' => ∃ vO vZ may, e = .returned (.tuple #[.agg #[vO, vZ], .bool may, .bool true]) ∧ PdR z w' c n S (hasI P m) vO vZ may) := fun z hz => planned_any c (hS.fresh hz) hn hh (hP.fresh hz) hm
  have HSE := hidd hS
  have HPK := hidd hP
  obtain ⟨bs, bl, bu, ch, tr⟩ := c
  unfold mV at *
  simp only at HPL ⊢
  have HF := hidd (fresh_alloc w (.cells #[.int .i64 bs, .int .i64 bl, .int .i64 bu, .int .i64 ch, .int .i64 tr] 23))
  have HC5 : Hid (∀ z, Below (w.alloc (.cells #[.int .i64 bs, .int .i64 bl, .int .i64 bu, .int .i64 ch, .int .i64 tr] 23)).heap.size (w.alloc (.cells #[.int .i64 bs, .int .i64 bl, .int .i64 bu, .int .i64 ch, .int .i64 tr] 23)) z → z.cell? ⟨w.heap.size, 2, none⟩ = some (.int .i64 bu) ∧ z.cell? ⟨w.heap.size, 3, none⟩ = some (.int .i64 ch) ∧ z.cell? ⟨w.heap.size, 4, none⟩ = some (.int .i64 tr)) := fun z f => by
    obtain ⟨e0, e1, e2, e3, e4⟩ := box5 w (.int .i64 bs) (.int .i64 bl) (.int .i64 bu) (.int .i64 ch) (.int .i64 tr) 23
    exact ⟨fresh_cell f e2, fresh_cell f e3, fresh_cell f e4⟩
  have HP1 := hidd (HPL.out _ HF.out)
  clear hS hP hh HPL
  go_enter Try.func5, Try.ntmps5
  go_upto_region 2 with ((go_at_call 11; with_reducible refine HP1.out.mono ?_; rintro e w3 ⟨vO, vZ, may, rfl, hpd⟩; obtain ⟨uo, no, ko, rfl⟩ := hpd.sO; obtain ⟨uz, nz, kz, rfl⟩ := hpd.sZ))
  have HB3 := hidd (HF.out.trans (hpd.low.mono HF.out.size))
  have HL3 := hidd hpd.low
  have HFA := hidd (fresh_alloc w3 (.cells #[.slice uo no ko, .slice uz nz kz] 31))
  have HRP := hidd (two_new w3 (.slice uo no ko) (.slice uz nz kz) 31)
  have HB4 := hidd (HB3.out.trans (HFA.out.mono HB3.out.size))
  have HL4 := hidd (HL3.out.trans (HFA.out.mono HL3.out.size))
  have HPD := hidd hpd
  clear hpd
  cases may with
  | false =>
    go_wp2
    go_ret
    exact ⟨rfl, HB4.out⟩
  | true =>
    obtain ⟨hc, ha⟩ := HPD.out.iff.1 rfl
    obtain ⟨mO, mZ, oI, zI, zT, zG, o1, o2, hF⟩ := (HPD.out.ok rfl).facts hc ha.1
    have HA := hidd ha
    have HCO := hidd hc
    have HLF := hidd hF
    have HOO := hidd (o1.kept HFA.out)
    have HOZ := hidd (o2.kept HFA.out)
    clear HPD
    obtain ⟨_, _, e1, _⟩ := o1.rd
    cases e1
    obtain ⟨_, _, e1, _⟩ := o2.rd
    cases e1
    clear o1 o2 ha hc hF HFA HB3 HL3
    obtain ⟨f2, f3, f4⟩ := HC5.out _ HL4.out
    have HF2 := hidd f2
    have HF3 := hidd f3
    have HF4 := hidd f4
    clear f2 f3 f4 HL4 HC5 HP1
    obtain ⟨pb, HPB⟩ : ∃ pb, Hid (pb = w3.heap.size) := ⟨_, rfl⟩
    rw [← HPB.out] at HRP ⊢
    generalize (w3.alloc (.cells #[.slice uo no ko, .slice uz nz kz] 31)) = w4 at *
    have hmz := HLF.out.mz
    have hmo := HLF.out.mo
    have hnn : n ≤ 16 := HA.out.1
    go_wp2
    go_loopw [10] (fun i wr => ∃ k : Nat, k ≤ no ∧ i = .int .i64 k ∧ Hid (Below w4.heap.size w4 wr)) (fun i _ => no - (intOf i).toNat)
    case atStart => exact ⟨0, by omega, rfl, Below.refl _ _⟩
    case round =>
      obtain ⟨k, hk, rfl, HF⟩ := hrel
      have HRW := hidd (HRP.out.of_block (HF.out.block _ HRP.out.lt))
      have p0 : wr.cell? ⟨pb, 0, none⟩ = some (.slice uo no ko) := HRW.out.cell (i := 0) (by decide)
      by_cases hlt : k < no
      · obtain ⟨⟨q, hq, e1, e5⟩, e2, e3, e4, e6⟩ := HLF.out.oat k hlt
        obtain ⟨g0, o0, rfl, h0⟩ := (own_rda (HOO.out.kept HF.out)).one (by omega)
        have o0k := h0 k hlt
        obtain ⟨g1, o1, rfl, h1⟩ := (own_rda (HOZ.out.kept HF.out)).three e3
        have z0 := (h1 0 e3).1
        simp only [Nat.zero_mul, Nat.add_zero] at z0
        have HBW := hidd (HB4.out.trans (HF.out.mono HB4.out.size))
        have HS5 := hidd (seat_any (HSE.out.fresh HBW.out).rd hq (fun j hj => HA.out.2.2 j q hj hq) e1)
        have HAK := hidd (fun (z : World) (hz : Below w4.heap.size w4 z) => among_any ((own_rda (HOO.out.kept hz)).firsts hk) (oI k))
        have HAO := hidd (fun (z : World) (x : Int) (hz : Below w4.heap.size w4 z) => among_any (own_rda (HOO.out.kept hz)) x)
        rw [e2] at HAK
        have HE6 := hidd e6
        have HSS := HSE
        clear h0 h1 e2 e6
        generalize oI k = ik at *
        generalize zI 0 = iz at *
        obtain ⟨s, HS⟩ : ∃ s, Hid (s = S q) := ⟨_, rfl⟩
        rw [← HS.out] at HS5 e1 e5
        obtain ⟨y0, y1, y2, y3, ho, hn0, hc0, HH⟩ := s
        unfold seV at HS5
        simp only at e1 e5 HS5
        subst e1
        have hn0i : (0 : Int) < (hn0 : Int) := by omega
        have k1 : (k : Int) < (no : Int) := by omega
        go_upto_region 8 with (go_at_call 13; with_reducible refine HS5.out.mono ?_; rintro e w6 ⟨rfl, hb6⟩)
        have HX7 := hidd (fresh_alloc w6 (.cells #[.int .i64 ik, .int .i64 y1, .int .i64 y2, .int .i64 y3, .slice ho hn0 hc0] 35))
        have HXS := hidd (box5v w6 (.int .i64 ik) (.int .i64 y1) (.int .i64 y2) (.int .i64 y3) (.slice ho hn0 hc0) 35)
        have HXW := hidd (hb6.trans (HX7.out.mono hb6.size))
        have HX47 := hidd (HF.out.trans (HXW.out.mono HF.out.size))
        have HXL := hidd (HB4.out.trans (HX47.out.mono HB4.out.size))
        clear hb6 HX7
        obtain ⟨sb, HSB⟩ : ∃ x, Hid (x = w6.heap.size) := ⟨_, rfl⟩
        rw [← HSB.out] at HXS ⊢
        generalize (w6.alloc (.cells #[.int .i64 ik, .int .i64 y1, .int .i64 y2, .int .i64 y3, .slice ho hn0 hc0] 35)) = w7 at *
        obtain ⟨c0, c1, c2, c3, c4⟩ := HXS.out
        have r1 := HRP.out.of_block (HX47.out.block _ HRP.out.lt)
        have pp0 : w7.cell? ⟨pb, 0, none⟩ = some (.slice (some ⟨g0, o0, none⟩) no ko) := r1.cell (i := 0) (by decide)
        have pp1 : w7.cell? ⟨pb, 1, none⟩ = some (.slice (some ⟨g1, o1, none⟩) nz kz) := r1.cell (i := 1) (by decide)
        have ne := later_some w7
        have lc0 := later_cell c0
        have lc4 := later_cell c4
        have lp0 := later_cell pp0
        have lp1 := later_cell pp1
        have lo := later_cell (fresh_cell HXW.out o0k)
        have lz := later_cell (fresh_cell HXW.out z0)
        have d1 : ((hn0 : Int) == 0) = false := by simp; omega
        have d1b : (hn0 == 0) = false := by simp; omega
        have d2 : ((nz : Int) == 0) = false := by simp; omega
        have d2b : (nz == 0) = false := by simp; omega
        have d3 : decide (ik ≤ iz) = false := decide_eq_false (by omega)
        have k0 : (0 : Int) ≤ (k : Int) := by omega
        have k2 : (k : Int) ≤ (ko : Int) := by have := (own_rda HOO.out).le; omega
        have z9 : (0 : Int) < (nz : Int) := by omega
        have HAK7 := hidd (fun x : Later w7 => HAK.out x.val (HX47.out.trans (x.fresh.mono HX47.out.size)))
        clear c0 c1 c2 c3 c4 pp0 pp1 p0 o0k z0 r1
        refine wp_region_later (by kernel_rfl) (by kernel_rfl) ?_
        repeat (go_big_quiet_step (fail))
        go_big_quiet_step (exact later_same (HAK7.out _))
        repeat (go_big_quiet_step (fail))
        refine wpQuiet_nil ?_
        rintro _ ⟨z, rfl⟩
        have HB8 := hidd (HX47.out.trans (z.fresh.mono HX47.out.size))
        have HC8 := hidd (lc0 z)
        clear lc0 lc4 lp0 lp1 lo lz HAK7 HAK d1 d1b d2 d2b d3 ne
        generalize z.val = w8 at *
        go_wp2
        go_loopw [13] (fun v wi => ∃ j : Nat, j ≤ n ∧ v = .int .i64 j ∧ Hid (Below w8.heap.size w8 wi)) (fun v _ => n - (intOf v).toNat)
        case atStart => exact ⟨0, by omega, rfl, Below.refl _ _⟩
        case round =>
          obtain ⟨j, hj, rfl, HG⟩ := hrel
          have HG4 := hidd (HB8.out.trans (HG.out.mono HB8.out.size))
          have HGW := hidd (HB4.out.trans (HG4.out.mono HB4.out.size))
          by_cases hjn : j < n
          · obtain ⟨b2, o2, rfl, hc2⟩ := (HSS.out.fresh HGW.out).rd.seat (by omega)
            obtain ⟨x0, x1, x2, x3, x4⟩ := hc2 j hjn
            clear hc2
            have HE := hidd (HE6.out j hjn)
            generalize S j = t at *
            obtain ⟨t0, t1, t2, t3, th, tn, tc, TT⟩ := t
            simp only at x0 x1 x2 x3 x4 HE
            have hjj : (j : Int) < (n : Int) := by omega
            go_upto_region 14 with fail
            have HFA := hidd (fresh_alloc wr (.cells #[.int .i64 t0, .int .i64 t1, .int .i64 t2, .int .i64 t3, .slice th tn tc] 35))
            have HBX := hidd (box5v wr (.int .i64 t0) (.int .i64 t1) (.int .i64 t2) (.int .i64 t3) (.slice th tn tc) 35)
            have HA4 := hidd (HG4.out.trans (HFA.out.mono HG4.out.size))
            have HA8 := hidd (HG.out.trans (HFA.out.mono HG.out.size))
            obtain ⟨v0, v1, v2, v3, v4⟩ := HBX.out
            have u0 := fresh_cell HA8.out HC8.out
            have r1 := HRP.out.of_block (HA4.out.block _ HRP.out.lt)
            have pp0 := r1.cell (i := 0) (by decide)
            have HAM := hidd (HAO.out _ t0 HA4.out)
            clear x0 x1 x2 x3 x4 r1 HBX
            obtain ⟨tb, HTB⟩ : ∃ x, Hid (x = wr.heap.size) := ⟨_, rfl⟩
            rw [← HTB.out] at v0 v1 v2 v3 v4 ⊢
            generalize (wr.alloc (.cells #[.int .i64 t0, .int .i64 t1, .int .i64 t2, .int .i64 t3, .slice th tn tc] 35)) = w9 at *
            have pq0 : w9.cell? ⟨pb, 0, none⟩ = some (.slice (some ⟨g0, o0, none⟩) no ko) := pp0
            clear pp0
            by_cases a1 : 0 < tn
            · by_cases a2 : ik < t0
              · have a3 := HE.out a1 a2
                rw [a3] at HAM
                have a1i : (0 : Int) < (tn : Int) := by omega
                clear a3
                go_wp2_with (go_at_call 12; with_reducible refine HAM.out.mono ?_; rintro e w' ⟨rfl, rfl⟩)
                go_roundw
                case rel => exact ⟨j + 1, by omega, by go_num, HA8⟩
                case measure => simp [intOf]; omega
              · have a2' : t0 ≤ ik := by omega
                have a1i : (0 : Int) < (tn : Int) := by omega
                go_wp2
                go_roundw
                case rel => exact ⟨j + 1, by omega, by go_num, HA8⟩
                case measure => simp [intOf]; omega
            · obtain rfl : tn = 0 := by omega
              go_wp2
              go_roundw
              case rel => exact ⟨j + 1, by omega, by go_num, HA8⟩
              case measure => simp [intOf]; omega
          · obtain rfl : j = n := by omega
            go_wp2
            go_roundw
            case rel => exact ⟨k + 1, by omega, by go_num, HG4⟩
            case measure => simp [intOf]; omega
      · obtain rfl : k = no := by omega
        have HBE := hidd (HB4.out.trans (HF.out.mono HB4.out.size))
        go_wp2
        go_ret
        exact ⟨rfl, HBE.out⟩
end Go.Proofs.Ytdceahebkohbjaa
