import Derived.Test.YtdceahebkohbjabScMu
import Derived.Test.YtdceahebkohbjabScMb
namespace Go.Proofs.Ytdceahebkohbjab
open Go.RowKit
/-! SchedMakes. -/
set_option maxRecDepth 100000 in
set_option maxHeartbeats 8000000 in
theorem makes_law {w : World} (c : Me) {ao po : Option Addr} {n cap m cp : Nat} {S : Nat → Se} {P : Nat → Int} (hS : SeA w ao n cap S) (hn : n * 56 ≤ 140737488351232) (hh : ∀ i, i < n → (S i).hn ≤ 17592186043904) (hP : RdA w po 1 m cp (fun i => .int .i64 (P i))) (hm : m ≤ 17592186043904) :
    Calls Try.prog 5 #[mV c, .slice ao n cap, .slice po m cp] w fun e w' => e = .returned (.bool true) ∧ Below w.heap.size w w' := by
  have HSE := hidd hS
  have HPK := hidd hP
  have HHH := hidd hh
  have HMV : Hid (mV c = .agg #[.int .i64 c.bs, .int .i64 c.bl, .int .i64 c.bu, .int .i64 c.ch, .int .i64 c.tr]) := rfl
  have HF := hidd (fresh_alloc w (.cells #[.int .i64 c.bs, .int .i64 c.bl, .int .i64 c.bu, .int .i64 c.ch, .int .i64 c.tr] 23))
  have HBX := hidd (box5 w (.int .i64 c.bs) (.int .i64 c.bl) (.int .i64 c.bu) (.int .i64 c.ch) (.int .i64 c.tr) 23)
  have hms : n + 64 ≤ maxLen := by unfold maxLen; omega
  clear hS hP hh
  rw [HMV.out]
  go_enter Try.func5, Try.ntmps5
  go_upto_region 1 with fail
  generalize w.alloc (.cells #[.int .i64 c.bs, .int .i64 c.bl, .int .i64 c.bu, .int .i64 c.ch, .int .i64 c.tr] 23) = w1 at *
  go_upto_region 2 with (go_at_call 11; with_reducible refine (works_any _).mono ?_; rintro e w2 ⟨rfl, hb2⟩)
  have HF2 := hidd (HF.out.trans (hb2.mono HF.out.size))
  have HB12 := hidd hb2
  clear hb2
  have HM2 := hidd (mkSeats_any (HSE.out.fresh HF2.out) hn HHH.out)
  go_upto_region 3 with (go_at_call 18; with_reducible refine HM2.out.mono ?_; rintro e w3 ⟨X, rfl, hm3⟩)
  have HM3 := hidd hm3
  clear hm3 HM2
  obtain ⟨xb, HXB⟩ : ∃ y, Hid (y = w2.heap.size) := ⟨_, rfl⟩
  rw [← HXB.out] at HM3 ⊢
  have HF3 := hidd (HF2.out.trans (HM3.out.low.mono HF2.out.size))
  have HMK := hidd (marked_any (HPK.out.fresh HF3.out) hm)
  go_upto_region 4 with (go_at_call 19; with_reducible refine HMK.out.mono ?_; rintro e w4 ⟨rfl, hr4, hb4⟩)
  have HR4 := hidd hr4
  have HM4 := hidd (HM3.out.fresh hb4)
  have HF4 := hidd (HF3.out.trans (hb4.mono HF3.out.size))
  obtain ⟨yb, HYB⟩ : ∃ y, Hid (y = w3.heap.size) := ⟨_, rfl⟩
  rw [← HYB.out] at HR4 ⊢
  have HB14 := hidd ((HB12.out.trans (HM3.out.low.mono HB12.out.size)).trans (hb4.mono (HB12.out.trans (HM3.out.low.mono HB12.out.size)).size))
  obtain ⟨t0, t1, t2, t3, t4⟩ := HBX.out
  have s0 := fresh_cell HB14.out t0
  have s1 := fresh_cell HB14.out t1
  have s2 := fresh_cell HB14.out t2
  have s3 := fresh_cell HB14.out t3
  have s4 := fresh_cell HB14.out t4
  clear t0 t1 t2 t3 t4 hr4 hb4 HMK HM3 HF3 HB14 HB12 HF2 HF HBX HXB HYB
  have HX4 := hidd (HM4.out.seats (by omega) hms HHH.out)
  obtain ⟨no, nz, x, f, a, b, d, K⟩ := known c n S m P
  have HMB := hidd (K.prog HX4.out (fun q => by cases q) (fun i hi => (HM4.out.hin i (by omega) hi).1) (mkd_rd HR4.out hm))
  have HKR := hidd (fun (z : World) (hz : Below w4.heap.size w4 z) => K.ref ((HSE.out.fresh HF4.out).fresh hz) (fun _ _ => rfl) ((HPK.out.fresh HF4.out).fresh hz))
  clear K
  rw [HMV.out] at HMB HKR
  unfold PlnP at HMB HKR
  go_upto_region 5 with (go_at_call 9; with_reducible refine HMB.out.mono ?_; rintro e w5 ⟨uo, uz, ko, kz, rfl, hb5, o1, o2⟩)
  have HB5 := hidd hb5
  have HO1 := hidd o1
  have HO2 := hidd o2
  have HFA := hidd (fresh_alloc w5 (.cells #[.slice uo no ko, .slice uz nz kz] 28))
  have HRP := hidd (two_new w5 (.slice uo no ko) (.slice uz nz kz) 28)
  obtain ⟨pb, HPB⟩ : ∃ pb, Hid (pb = w5.heap.size) := ⟨_, rfl⟩
  rw [← HPB.out] at HRP ⊢
  generalize (w5.alloc (.cells #[.slice uo no ko, .slice uz nz kz] 28)) = w6 at *
  have HB46 := hidd (HB5.out.trans (HFA.out.mono HB5.out.size))
  replace s0 := fresh_cell HB46.out s0
  replace s1 := fresh_cell HB46.out s1
  replace s2 := fresh_cell HB46.out s2
  replace s3 := fresh_cell HB46.out s3
  replace s4 := fresh_cell HB46.out s4
  have HRF6 := hidd (HKR.out w6 HB46.out)
  clear hb5 o1 o2 HKR HMB
  go_upto_region 6 with (go_at_call 14; with_reducible refine HRF6.out.mono ?_; rintro e w7 ⟨vo, vz, k1, k2, rfl, hb7, o1, o2⟩)
  have HB7 := hidd hb7
  have HQ1 := hidd o1
  have HQ2 := hidd o2
  have HFB := hidd (fresh_alloc w7 (.cells #[.slice vo no k1, .slice vz nz k2] 28))
  have HRQ := hidd (two_new w7 (.slice vo no k1) (.slice vz nz k2) 28)
  obtain ⟨qb, HQB⟩ : ∃ pb, Hid (pb = w7.heap.size) := ⟨_, rfl⟩
  rw [← HQB.out] at HRQ ⊢
  generalize (w7.alloc (.cells #[.slice vo no k1, .slice vz nz k2] 28)) = w8 at *
  have HB68 := hidd (HB7.out.trans (HFB.out.mono HB7.out.size))
  have HB48 := hidd (HB46.out.trans (HB68.out.mono HB46.out.size))
  have p0 : w8.cell? ⟨pb, 0, none⟩ = some (.slice uo no ko) := fresh_cell HB68.out (HRP.out.cell (i := 0) (by decide))
  have p1 : w8.cell? ⟨pb, 1, none⟩ = some (.slice uz nz kz) := fresh_cell HB68.out (HRP.out.cell (i := 1) (by decide))
  have q0 : w8.cell? ⟨qb, 0, none⟩ = some (.slice vo no k1) := HRQ.out.cell (i := 0) (by decide)
  have q1 : w8.cell? ⟨qb, 1, none⟩ = some (.slice vz nz k2) := HRQ.out.cell (i := 1) (by decide)
  have HEP := hidd (eqPlan_same (own_rda ((HO1.out.kept HFA.out).kept HB68.out)) (own_rda ((HO2.out.kept HFA.out).kept HB68.out)) (own_rda (HQ1.out.kept HFB.out)) (own_rda (HQ2.out.kept HFB.out)))
  clear hb7 o1 o2 s0 s1 s2 s3 s4 HRF6 HPB HQB
  go_upto_region 7 with (go_at_call 10; with_reducible refine HEP.out.mono ?_; rintro e w9 ⟨rfl, hb9⟩)
  have HB49 := hidd (HB48.out.trans (hb9.mono HB48.out.size))
  have HB09 := hidd (HF4.out.trans (HB49.out.mono HF4.out.size))
  have HS9 := hidd (stSeats_any (HSE.out.fresh HB09.out) (HM4.out.fresh HB49.out) hn HHH.out)
  have HT9 := hidd (fun (z : World) (hz : Below w9.heap.size w9 z) => still_any ((HPK.out.fresh HB09.out).fresh hz) (HR4.out.of_block ((HB49.out.trans (hz.mono HB49.out.size)).block _ HR4.out.lt)) hm)
  clear hb9 p0 p1 q0 q1 HEP
  go_wp2_with (first
    | (go_at_call 20; with_reducible refine HS9.out.mono ?_; rintro e wA ⟨rfl, hbA⟩; have HTA := hidd (HT9.out _ hbA); have HBA := hidd hbA; clear hbA)
    | (go_at_call 21; with_reducible refine HTA.out.mono ?_; rintro e wB ⟨rfl, hbB⟩; have HBB := hidd hbB; clear hbB))
  go_ret
  exact ⟨rfl, (HB09.out.trans (HBA.out.mono HB09.out.size)).trans (HBB.out.mono (HB09.out.trans (HBA.out.mono HB09.out.size)).size)⟩
end Go.Proofs.Ytdceahebkohbjab
