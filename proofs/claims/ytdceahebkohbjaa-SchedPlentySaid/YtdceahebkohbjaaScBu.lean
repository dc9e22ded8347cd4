import Derived.Test.YtdceahebkohbjaaScW
namespace Go.Proofs.Ytdceahebkohbjaa
open Go.RowKit
/-! SchedBudget. -/
theorem box3v (w : World) (a b c : Value) (ty : TypeId) : (w.alloc (.cells #[a, b, c] ty)).cell? ⟨w.heap.size, 0, none⟩ = some a ∧ (w.alloc (.cells #[a, b, c] ty)).cell? ⟨w.heap.size, 1, none⟩ = some b ∧ (w.alloc (.cells #[a, b, c] ty)).cell? ⟨w.heap.size, 2, none⟩ = some c := by
  refine ⟨?_, ?_, ?_⟩ <;> (unfold World.cell?; rw [World.alloc_heap_new]; rfl)
theorem box5v (w : World) (a b c d e : Value) (ty : TypeId) : (w.alloc (.cells #[a, b, c, d, e] ty)).cell? ⟨w.heap.size, 0, none⟩ = some a ∧ (w.alloc (.cells #[a, b, c, d, e] ty)).cell? ⟨w.heap.size, 1, none⟩ = some b ∧ (w.alloc (.cells #[a, b, c, d, e] ty)).cell? ⟨w.heap.size, 2, none⟩ = some c ∧ (w.alloc (.cells #[a, b, c, d, e] ty)).cell? ⟨w.heap.size, 3, none⟩ = some d ∧ (w.alloc (.cells #[a, b, c, d, e] ty)).cell? ⟨w.heap.size, 4, none⟩ = some e := box5 w a b c d e ty
theorem RdA.three {w : World} {ao : Option Addr} {n cap : Nat} {a b d : Nat → Int} (h : RdA w ao 3 n cap (trF a b d)) (hn : 0 < n) : ∃ g o, ao = some ⟨g, o, none⟩ ∧ ∀ i, i < n → w.cell? ⟨g, o + i * 3, none⟩ = some (.int .i64 (a i)) ∧ w.cell? ⟨g, o + i * 3 + 1, none⟩ = some (.int .i64 (b i)) ∧ w.cell? ⟨g, o + i * 3 + 2, none⟩ = some (.int .i64 (d i)) := by
  obtain ⟨g, o, e, hc⟩ := h.at_ hn
  refine ⟨g, o, e, fun i hi => ?_⟩
  have c0 := hc (i * 3 + 0) (by omega)
  have c1 := hc (i * 3 + 1) (by omega)
  have c2 := hc (i * 3 + 2) (by omega)
  unfold trF at c0 c1 c2
  rw [if_pos (by omega), show (i * 3 + 0) / 3 = i by omega] at c0
  rw [if_neg (by omega), if_pos (by omega), show (i * 3 + 1) / 3 = i by omega, ← Nat.add_assoc] at c1
  rw [if_neg (by omega), if_neg (by omega), show (i * 3 + 2) / 3 = i by omega, ← Nat.add_assoc] at c2
  exact ⟨c0, c1, c2⟩
set_option maxRecDepth 100000 in
set_option maxHeartbeats 8000000 in
theorem budget_law {w : World} (c : Me) {ao po : Option Addr} {n cap m cp : Nat} {S : Nat → Se} {P : Nat → Int} (hS : SeA w ao n cap S) (hn : n * 56 ≤ 140737488351232) (hh : ∀ i, i < n → (S i).hn ≤ 17592186043904) (hP : RdA w po 1 m cp (fun i => .int .i64 (P i))) (hm : m ≤ 17592186043904) :
    Calls Try.prog 6 #[mV c, .slice ao n cap, .slice po m cp] w fun e w' => e = .returned (.bool true) ∧ Below w.heap.size w w' := by
  have HPL : Hid (∀ z, Below w.heap.size w z → Calls Try.prog 11 #[mV c, .slice ao n cap, .slice po m cp] z fun e w' => ∃ vO vZ may, e = .returned (.tuple #[.agg #[vO, vZ], .bool may, .bool true]) ∧ PdR z w' c n S (hasI P m) vO vZ may) := fun z hz => planned_any c (hS.fresh hz) hn hh (hP.fresh hz) hm
  have HSE := hidd hS
  have HPK := hidd hP
  obtain ⟨bs, bl, bu, ch, tr⟩ := c
  unfold mV at *
  simp only at HPL ⊢
  have HF := hidd (fresh_alloc w (.cells #[.int .i64 bs, .int .i64 bl, .int .i64 bu, .int .i64 ch, .int .i64 tr] 23))
  have HC5 : Hid (∀ z, Below (w.alloc (.cells #[.int .i64 bs, .int .i64 bl, .int .i64 bu, .int .i64 ch, .int .i64 tr] 23)).heap.size (w.alloc (.cells #[.int .i64 bs, .int .i64 bl, .int .i64 bu, .int .i64 ch, .int .i64 tr] 23)) z → z.cell? ⟨w.heap.size, 2, none⟩ = some (.int .i64 bu) ∧ z.cell? ⟨w.heap.size, 3, none⟩ = some (.int .i64 ch) ∧ z.cell? ⟨w.heap.size, 4, none⟩ = some (.int .i64 tr)) := fun z f => by
    obtain ⟨e0, e1, e2, e3, e4⟩ := box5 w (.int .i64 bs) (.int .i64 bl) (.int .i64 bu) (.int .i64 ch) (.int .i64 tr) 23
    exact ⟨fresh_cell f e2, fresh_cell f e3, fresh_cell f e4⟩
  have HP1 := hidd (HPL.out _ HF.out)
  clear hS hP hh HPL
  go_enter Try.func6, Try.ntmps6
  go_upto_region 2 with ((go_at_call 11; with_reducible refine HP1.out.mono ?_; rintro e w3 ⟨vO, vZ, may, rfl, hpd⟩; obtain ⟨uo, no, ko, rfl⟩ := hpd.sO; obtain ⟨uz, nz, kz, rfl⟩ := hpd.sZ))
  have HB3 := hidd (HF.out.trans (hpd.low.mono HF.out.size))
  have HL3 := hidd hpd.low
  have HFA := hidd (fresh_alloc w3 (.cells #[.slice uo no ko, .slice uz nz kz] 31))
  have HRP := hidd (two_new w3 (.slice uo no ko) (.slice uz nz kz) 31)
  have HB4 := hidd (HB3.out.trans (HFA.out.mono HB3.out.size))
  have HL4 := hidd (HL3.out.trans (HFA.out.mono HL3.out.size))
  have HPD := hidd hpd
  clear hpd
  cases may with
  | false =>
    go_wp2
    go_ret
    exact ⟨rfl, HB4.out⟩
  | true =>
    obtain ⟨hc, ha⟩ := HPD.out.iff.1 rfl
    obtain ⟨mO, mZ, oI, zI, zT, zG, o1, o2, hF⟩ := (HPD.out.ok rfl).facts hc ha.1
    have HA := hidd ha
    have HCO := hidd hc
    have HLF := hidd hF
    have HOO := hidd (o1.kept HFA.out)
    have HOZ := hidd (o2.kept HFA.out)
    clear HPD
    obtain ⟨_, _, e1, _⟩ := o1.rd
    cases e1
    obtain ⟨_, _, e1, _⟩ := o2.rd
    cases e1
    clear o1 o2 ha hc hF HFA HB3 HL3
    obtain ⟨f2, f3, f4⟩ := HC5.out _ HL4.out
    have HF2 := hidd f2
    have HF3 := hidd f3
    have HF4 := hidd f4
    clear f2 f3 f4 HL4 HC5 HP1
    obtain ⟨pb, HPB⟩ : ∃ pb, Hid (pb = w3.heap.size) := ⟨_, rfl⟩
    rw [← HPB.out] at HRP ⊢
    generalize (w3.alloc (.cells #[.slice uo no ko, .slice uz nz kz] 31)) = w4 at *
    have hmz := HLF.out.mz
    go_wp2
    go_loopw [10, 11] (fun sv i wr => ∃ k : Nat, k ≤ nz ∧ i = .int .i64 k ∧ sv = .int .i64 (psum zT zG k) ∧ Hid (Below w4.heap.size w4 wr)) (fun _ i _ => nz - (intOf i).toNat)
    case atStart => exact ⟨0, by omega, rfl, rfl, Below.refl _ _⟩
    case round =>
      obtain ⟨k, hk, rfl, rfl, HF⟩ := hrel
      have HRW := hidd (HRP.out.of_block (HF.out.block _ HRP.out.lt))
      have p0 : wr.cell? ⟨pb, 0, none⟩ = some (.slice uo no ko) := HRW.out.cell (i := 0) (by decide)
      have p1 : wr.cell? ⟨pb, 1, none⟩ = some (.slice uz nz kz) := HRW.out.cell (i := 1) (by decide)
      have f2 := fresh_cell HF.out HF2.out
      have f3 := fresh_cell HF.out HF3.out
      have f4 := fresh_cell HF.out HF4.out
      have HSUM := hidd (HLF.out.sum k hk)
      by_cases hlt : k < nz
      · have HSUN := hidd (HLF.out.sum (k + 1) hlt)
        have HPS : Hid (psum zT zG (k + 1) = psum zT zG k + zT k + zG k) := rfl
        obtain ⟨g1, o1, rfl, h1⟩ := (own_rda (HOZ.out.kept HF.out)).three (by omega)
        obtain ⟨z1, z2, z3⟩ := h1 k hlt
        have HZ := hidd h1
        clear h1
        obtain ⟨q, hq, e1, e2, e3, e4⟩ := HLF.out.zat k hlt
        have HST := hidd (fun (z : World) (hz : Below w.heap.size w z) => seat_any (HSE.out.fresh hz).rd hq (fun j hj => HA.out.2.2 j q hj hq) e1)
        have HAO := hidd (fun (z : World) (hz : Below w4.heap.size w4 z) => among_any (own_rda (HOO.out.kept hz)) (zI k))
        have HAP := hidd (fun (z : World) (hz : Below w.heap.size w z) => among_any (HPK.out.fresh hz) (zI k))
        rw [e3] at HAO
        rw [e2] at HAP
        obtain ⟨ok1, ok2, ok3, ok4, _, _⟩ := HA.out.2.1 q hq
        have HIN : Hid (0 < k → zI (k - 1) < zI k) := fun h => by have := HLF.out.inc (k - 1) (by omega); rwa [show k - 1 + 1 = k by omega] at this
        generalize zI k = iz at *
        generalize zT k = tz at *
        generalize zG k = gz at *
        generalize S q = s at *
        obtain ⟨y0, y1, y2, y3, ho, hn0, hc0, HH⟩ := s
        unfold seV at HST
        simp only [BzR, rst] at e1 e4 ok1 ok2 ok3 ok4 HST
        clear e1 e2 e3
        have HBW := hidd (HB4.out.trans (HF.out.mono HB4.out.size))
        have HX5 := hidd (fresh_alloc wr (.cells #[.int .i64 iz, .int .i64 tz, .int .i64 gz] 38))
        have hx := box3v wr (.int .i64 iz) (.int .i64 tz) (.int .i64 gz) 38
        have HX := hidd hx
        obtain ⟨x0, x1, x2⟩ := hx
        go_upto_region 9 with fail
        have HB5 := hidd (HBW.out.trans (HX5.out.mono HBW.out.size))
        have HS5 := hidd (HST.out _ HB5.out)
        obtain ⟨xb, HXB⟩ : ∃ x, Hid (x = wr.heap.size) := ⟨_, rfl⟩
        rw [← HXB.out] at x0 x1 x2 HX ⊢
        clear z1 z2 z3 p0 p1 f2 f3 f4
        generalize (wr.alloc (.cells #[.int .i64 iz, .int .i64 tz, .int .i64 gz] 38)) = w5 at *
        go_upto_region 10 with (go_at_call 13; with_reducible refine HS5.out.mono ?_; rintro e w6 ⟨rfl, hb6⟩)
        have HX6 := hidd (HX5.out.trans (hb6.mono HX5.out.size))
        have HX56 := hidd hb6
        have HX7 := hidd (fresh_alloc w6 (.cells #[.int .i64 y0, .int .i64 y1, .int .i64 y2, .int .i64 y3, .slice ho hn0 hc0] 35))
        have HXS := hidd (box5v w6 (.int .i64 y0) (.int .i64 y1) (.int .i64 y2) (.int .i64 y3) (.slice ho hn0 hc0) 35)
        have HX57 := hidd (HX56.out.trans (HX7.out.mono HX56.out.size))
        have HXW := hidd (HX6.out.trans (HX7.out.mono HX6.out.size))
        have HX47 := hidd (HF.out.trans (HXW.out.mono HF.out.size))
        have HXL := hidd (HB4.out.trans (HX47.out.mono HB4.out.size))
        clear hb6
        obtain ⟨sb, HSB⟩ : ∃ x, Hid (x = w6.heap.size) := ⟨_, rfl⟩
        rw [← HSB.out] at HXS ⊢
        generalize (w6.alloc (.cells #[.int .i64 y0, .int .i64 y1, .int .i64 y2, .int .i64 y3, .slice ho hn0 hc0] 35)) = w7 at *
        obtain ⟨c0, c1, c2, c3, c4⟩ := HXS.out
        have a0 := fresh_cell HX57.out x0
        have a1 := fresh_cell HX57.out x1
        have a2 := fresh_cell HX57.out x2
        have r1 := HRP.out.of_block (HX47.out.block _ HRP.out.lt)
        have p0 : w7.cell? ⟨pb, 0, none⟩ = some (.slice uo no ko) := r1.cell (i := 0) (by decide)
        have p1 : w7.cell? ⟨pb, 1, none⟩ = some (.slice (some ⟨g1, o1, none⟩) nz kz) := r1.cell (i := 1) (by decide)
        have f2 := fresh_cell HX47.out HF2.out
        have f3 := fresh_cell HX47.out HF3.out
        have f4 := fresh_cell HX47.out HF4.out
        clear x0 x1 x2 r1 c0 c4
        go_upto_region 11 with fail
        generalize hr : y1 - 1 - y2 = r at *
        have ne := later_some w7
        have la0 := later_cell a0
        have la1 := later_cell a1
        have la2 := later_cell a2
        have lc3 := later_cell c3
        have lf3 := later_cell f3
        have lf4 := later_cell f4
        have lp0 := later_cell p0
        have lp1 := later_cell p1
        have HAP7 := hidd (fun x : Later w7 => HAP.out x.val (HXL.out.trans (x.fresh.mono HXL.out.size)))
        have HAO7 := hidd (fun x : Later w7 => HAO.out x.val (HX47.out.trans (x.fresh.mono HX47.out.size)))
        clear a0 a1 a2 c1 c2 c3 f2 f3 f4 p0 p1
        by_cases hk0 : k = 0
        · have d0 : decide ((0 : Int) < (k : Int)) = false := decide_eq_false (by omega)
          have d0b : decide (0 < k) = false := decide_eq_false (by omega)
          refine wp_region_later (by kernel_rfl) (by kernel_rfl) ?_
          repeat (go_big_quiet_step (fail))
          go_big_quiet_step (exact later_same (HAP7.out _))
          repeat (go_big_quiet_step (fail))
          go_big_quiet_step (exact later_same (HAO7.out _))
          repeat (go_big_quiet_step (fail))
          refine wpQuiet_nil ?_
          rintro _ ⟨z, rfl⟩
          have b0 := la0 z
          have b1 := la1 z
          have b2 := la2 z
          have b3 := lc3 z
          have m3 := lf3 z
          have m4 := lf4 z
          have HZW := hidd (HX47.out.trans (z.fresh.mono HX47.out.size))
          clear la0 la1 la2 lc3 lf3 lf4 lp0 lp1 HAP7 HAO7
          rcases e4 with ⟨q1, q2, q3, q4, q5⟩ | ⟨q1, q2, q3, q4, q5⟩
          · subst q2
            have d1 : (r == 0) = false := by simp; omega
            have HPS' := HPS.out
            have s1 := HSUM.out.1
            have s2 := HSUM.out.2
            have s3 := HSUN.out.1
            have s4 := HSUN.out.2
            have hbu : bu ≤ 1024 := HCO.out.2.2.2.2.2.2.2.2.2.1
            rw [HPS'] at s3 s4
            have HPS2 : Hid (psum zT zG k + tz + 0 = psum zT zG (k + 1)) := HPS'.symm
            generalize psum zT zG k = ps at *
            clear HPS HPS' HSUM HSUN
            go_upto_region 14 with fail
            go_quiet (fail)
            go_wp2
            go_roundw
            case rel => exact ⟨k + 1, by omega, by go_num, by rw [← HPS2.out]; go_num, below_drewN HZW.out _⟩
            case measure => simp [intOf]; omega
          · subst q1 q2
            have s1 := HSUM.out.1
            have s2 := HSUM.out.2
            have s3 := HSUN.out.1
            have s4 := HSUN.out.2
            have hbu : bu ≤ 1024 := HCO.out.2.2.2.2.2.2.2.2.2.1
            have HPS' := HPS.out
            rw [HPS'] at s3 s4
            have HPS2 : Hid (psum zT zG k + 0 + gz = psum zT zG (k + 1)) := HPS'.symm
            generalize psum zT zG k = ps at *
            clear HPS HPS' HSUM HSUN
            go_upto_region 14 with fail
            have d2 : decide ((1 : Int) ≤ gz) = true := decide_eq_true q3
            have d3 : decide (gz ≤ tr) = true := decide_eq_true q4
            have d4 : decide (gz ≤ max y3 1) = true := decide_eq_true q5
            have ne2 := later_some z.val
            have lb1 := later_cell b1
            have lb2 := later_cell b2
            have lb3 := later_cell b3
            have lm4 := later_cell m4
            have HGR := hidd (fun x : Later z.val => greatest_any x.val y3 1)
            clear b0 b1 b2 b3 m3 m4
            refine wp_region_later (by kernel_rfl) (by kernel_rfl) ?_
            repeat (go_big_quiet_step (fail))
            go_big_quiet_step (exact later_same (HGR.out _))
            repeat (go_big_quiet_step (fail))
            refine wpQuiet_nil ?_
            rintro _ ⟨z2, rfl⟩
            have k1 := lb1 z2
            have k2 := lb2 z2
            have HZV := hidd (HZW.out.trans (z2.fresh.mono HZW.out.size))
            clear lb1 lb2 lb3 lm4 HGR
            go_wp2
            go_roundw
            case rel => exact ⟨k + 1, by omega, by go_num, by rw [← HPS2.out]; go_num, HZV.out⟩
            case measure => simp [intOf]; omega
        · obtain ⟨j, HJ⟩ : ∃ j, Hid (j + 1 = k) := ⟨k - 1, by show _ = _; omega⟩
          have HJ' := HJ.out
          have e9 : (k : Int) - 1 = (j : Int) := by omega
          have d0 : decide ((0 : Int) < (k : Int)) = true := decide_eq_true (by omega)
          have d0b : decide (0 < k) = true := decide_eq_true (by omega)
          have hlj := HIN.out (by omega)
          rw [show k - 1 = j by omega] at hlj
          have j0 := later_cell (fresh_cell HXW.out (HZ.out j (by omega)).1)
          have j1 : (j : Int) < (nz : Int) := by omega
          have dj : decide (iz ≤ zI j) = false := decide_eq_false (by omega)
          generalize zI j = jz at *
          refine wp_region_later (by kernel_rfl) (by kernel_rfl) ?_
          repeat (go_big_quiet_step (fail))
          go_big_quiet_step (exact later_same (HAP7.out _))
          repeat (go_big_quiet_step (fail))
          go_big_quiet_step (exact later_same (HAO7.out _))
          repeat (go_big_quiet_step (fail))
          clear j0
          refine wpQuiet_nil ?_
          rintro _ ⟨z, rfl⟩
          have b0 := la0 z
          have b1 := la1 z
          have b2 := la2 z
          have b3 := lc3 z
          have m3 := lf3 z
          have m4 := lf4 z
          have HZW := hidd (HX47.out.trans (z.fresh.mono HX47.out.size))
          clear la0 la1 la2 lc3 lf3 lf4 lp0 lp1 HAP7 HAO7
          rcases e4 with ⟨q1, q2, q3, q4, q5⟩ | ⟨q1, q2, q3, q4, q5⟩
          · subst q2
            have d1 : (r == 0) = false := by simp; omega
            have HPS' := HPS.out
            have s1 := HSUM.out.1
            have s2 := HSUM.out.2
            have s3 := HSUN.out.1
            have s4 := HSUN.out.2
            have hbu : bu ≤ 1024 := HCO.out.2.2.2.2.2.2.2.2.2.1
            rw [HPS'] at s3 s4
            have HPS2 : Hid (psum zT zG k + tz + 0 = psum zT zG (k + 1)) := HPS'.symm
            generalize psum zT zG k = ps at *
            clear HPS HPS' HSUM HSUN
            go_upto_region 14 with fail
            go_quiet (fail)
            go_wp2
            go_roundw
            case rel => exact ⟨k + 1, by omega, by go_num, by rw [← HPS2.out]; go_num, below_drewN HZW.out _⟩
            case measure => simp [intOf]; omega
          · subst q1 q2
            have s1 := HSUM.out.1
            have s2 := HSUM.out.2
            have s3 := HSUN.out.1
            have s4 := HSUN.out.2
            have hbu : bu ≤ 1024 := HCO.out.2.2.2.2.2.2.2.2.2.1
            have HPS' := HPS.out
            rw [HPS'] at s3 s4
            have HPS2 : Hid (psum zT zG k + 0 + gz = psum zT zG (k + 1)) := HPS'.symm
            generalize psum zT zG k = ps at *
            clear HPS HPS' HSUM HSUN
            go_upto_region 14 with fail
            have d2 : decide ((1 : Int) ≤ gz) = true := decide_eq_true q3
            have d3 : decide (gz ≤ tr) = true := decide_eq_true q4
            have d4 : decide (gz ≤ max y3 1) = true := decide_eq_true q5
            have ne2 := later_some z.val
            have lb1 := later_cell b1
            have lb2 := later_cell b2
            have lb3 := later_cell b3
            have lm4 := later_cell m4
            have HGR := hidd (fun x : Later z.val => greatest_any x.val y3 1)
            clear b0 b1 b2 b3 m3 m4
            refine wp_region_later (by kernel_rfl) (by kernel_rfl) ?_
            repeat (go_big_quiet_step (fail))
            go_big_quiet_step (exact later_same (HGR.out _))
            repeat (go_big_quiet_step (fail))
            refine wpQuiet_nil ?_
            rintro _ ⟨z2, rfl⟩
            have k1 := lb1 z2
            have k2 := lb2 z2
            have HZV := hidd (HZW.out.trans (z2.fresh.mono HZW.out.size))
            clear lb1 lb2 lb3 lm4 HGR
            go_wp2
            go_roundw
            case rel => exact ⟨k + 1, by omega, by go_num, by rw [← HPS2.out]; go_num, HZV.out⟩
            case measure => simp [intOf]; omega
      · obtain rfl : k = nz := by omega
        obtain ⟨s1, s2⟩ := HSUM.out
        simp only at s2
        have HBE := hidd (HB4.out.trans (HF.out.mono HB4.out.size))
        go_wp2
        go_ret
        exact ⟨rfl, HBE.out⟩
end Go.Proofs.Ytdceahebkohbjaa
