import Derived.Test.YtlbmgknlbhakoabTxZ
namespace Go.Proofs.Ytlbmgknlbhakoab
open Go.RowKit
set_option maxRecDepth 100000 in
set_option maxHeartbeats 16000000 in
theorem stops_law {w : World} {d : VD} {bo po so lo : Option Addr} {cb cp cs cl n : Nat} {sb : List ByteArray} {T : Nat → Int} (hb : RdA w bo 1 d.nb cb (fun i => .int .u8 (d.B i))) (hp : RdA w po 2 d.np cp (tcs d.P d.Q)) (hB : ∀ i, i < d.nb → 0 ≤ d.B i ∧ d.B i ≤ 255)
    (hs : RdA w so 1 sb.length cs (fun i => .string (sb.getD i ByteArray.empty))) (hlen : ∀ i, i < sb.length → (sb.getD i ByteArray.empty).size ≤ 9223372036854775807)
    (hl : RdA w lo 1 n cl (fun i => .int .i64 (T i))) (hT : ∀ i, i < n → -9223372036854775808 ≤ T i ∧ T i ≤ 9223372036854775807) :
    Calls Try.prog 3 #[.agg #[.slice bo d.nb cb, .slice po d.np cp], .slice so sb.length cs, .slice lo n cl] w fun e w' => e = .returned (.bool true) ∧ Below w.heap.size w w' := by
  have hf0 := fresh_alloc w (.cells #[.slice bo d.nb cb, .slice po d.np cp] 25)
  have q0 := row2_new w 25 (.slice bo d.nb cb) (.slice po d.np cp)
  have hn1 := Nat.le_trans hl.le hl.top
  unfold maxLen at hn1
  have HL1 := hidd (fun w' => long_any n hn1 w')
  have HB := hidd hb
  have HP := hidd hp
  have HBB := hidd hB
  have HS := hidd hs
  have HLEN := hidd hlen
  have HL := hidd hl
  have HT := hidd hT
  clear hb hp hB hs hlen hl hT
  obtain ⟨w0, ew0⟩ : ∃ w0, w0 = w.alloc (.cells #[.slice bo d.nb cb, .slice po d.np cp] 25) := ⟨_, rfl⟩
  by_cases hn : 2147483647 < n
  · rw [decide_eq_true hn] at HL1
    go_enter Try.func3, Try.ntmps3
    go_wp2_with fail
    refine (HL1.out _).mono ?_
    rintro e w1 ⟨rfl, hw⟩
    rw [hw]
    clear hw
    go_wp2
    go_ret
    exact ⟨rfl, hf0⟩
  rw [decide_eq_false hn] at HL1
  obtain ⟨k, ek⟩ : ∃ k, k = sb.length := ⟨_, rfl⟩
  have EK := hidd ek
  by_cases hRM : d.Right ∧ MaySt sb
  · have HR := hidd hRM.1
    have HM := hidd hRM.2
    have HCST : Hid (Cst d (sb.map bys)) := ⟨hRM.1, maySt_ok hRM.2, vd_byt HBB.out⟩
    have HNW : Hid (∀ w', Below w.heap.size w w' → Calls Try.prog 7 #[.agg #[.slice bo d.nb cb, .slice po d.np cp], .slice so k cs] w' fun e w'' => ∃ S K, e = .returned (.tuple #[.pointer (some ⟨S, 0, none⟩), .int .i64 0]) ∧ StA w'' S K d (sb.map bys) (.slice none 0 0) [] false ∧ Below w'.heap.size w' w'' ∧ w'.heap.size ≤ S ∧ (∀ b, K b → w'.heap.size ≤ b)) := fun w' f => by
      have := new_ok (HB.out.fresh f) (HP.out.fresh f) HR.out (HS.out.fresh f) HM.out
      rwa [← ek] at this
    rw [← ek]
    have hk4 : k ≤ 4 := by have := hRM.2.1; omega
    clear ek hRM
    obtain ⟨sts, est⟩ : ∃ sts, sts = sb.map bys := ⟨_, rfl⟩
    rw [← est] at HCST HNW
    have ESL : Hid (sts.length = k) := by show _ = _; rw [est, List.length_map]; exact EK.out.symm
    have EST := hidd est
    clear est
    go_enter Try.func3, Try.ntmps3
    go_wp2_with fail
    refine (HL1.out _).mono ?_
    rintro e w1 ⟨rfl, hw⟩
    rw [hw]
    clear hw
    go_wp2_with fail
    rw [← ew0] at hf0 q0 ⊢
    clear ew0
    refine (fixed_any w0).mono ?_
    rintro e w1 ⟨rfl, f1⟩
    have hF1 := fresh_trans hf0 f1
    have q1 := q0.of_block (f1.block _ q0.lt)
    clear q0 f1 hf0
    obtain ⟨y0, y1⟩ := row2 q1
    go_wp2_with fail
    refine (HNW.out w1 hF1).mono ?_
    rintro e w2 ⟨S1, K1, rfl, hS1, f2, hl1, _⟩
    have hF2 := fresh_trans hF1 f2
    have q2 := q1.of_block (f2.block _ q1.lt)
    obtain ⟨z0, z1⟩ := row2 q2
    have HRT := hidd (right_any (HB.out.fresh hF2) (HP.out.fresh hF2) HR.out (HL.out.fresh hF2) HT.out (by omega) false)
    have hq1l := q1.lt
    clear y0 y1 q1 HNW
    go_wp2_with fail
    refine HRT.out.mono ?_
    rintro e w4 ⟨v4, rfl, hO4, f4⟩
    have HST := hidd (hS1.fresh f4)
    have hF4 := fresh_trans hF2 f4
    have q4 := q2.of_block (f4.block _ q2.lt)
    have hS1l := hS1.p.lt
    have hz2 := f2.size
    have hz4 := f4.size
    have hzw := hF1.size
    obtain ⟨a4, c4, rfl, r4⟩ := hO4.rd
    have HBT : Hid (∀ b off, a4 = some ⟨b, off, none⟩ → w2.heap.size ≤ b ∧ b < w4.heap.size) := fun b off e => by subst e; exact hO4.lt b rfl
    obtain ⟨ts, ets⟩ : ∃ ts, ts = rtL d false T n := ⟨_, rfl⟩
    have ETL : Hid (ts.length = n) := by show _ = _; rw [ets, rtL_len]
    have HGD : Hid (∀ i, i < n → ts.getD i 0 < d.nb + 1 + d.np) := by rw [ets]; exact rt_good HR.out false T n
    have HNZ : Hid (∀ t ∈ ts, t ≠ 0) := by rw [ets]; exact rt_nz HR.out T n
    rw [← ets] at r4
    clear ets hO4 HRT z0 z1 q2 f2 f4 hS1
    have HR4 := hidd r4
    clear r4
    have hN2 : n ≤ 2147483647 := by omega
    have HMA := hidd (stops_math (d := d) (sts := sts) HNZ.out)
    have hBL : (spl d ts).length ≤ 16 * n := by
      have := spl_len (d := d) ts (mem_good HR.out (by rw [ETL.out]; exact HGD.out))
      rw [ETL.out] at this
      exact this
    have HDE := hidd (pdec_any (HB.out.fresh hF4) (HP.out.fresh hF4) HR4.out (by omega) 0 (spl d ts) (.inr (.inr ⟨HR.out, fun i hi => (show d.good (((ts.getD i 0 : Nat) : Int)) from ⟨by omega, by have := HGD.out i hi; omega⟩), rfl, by rw [← ETL.out, dec_spl _ (Nat.le_refl _), List.take_length]⟩)))
    obtain ⟨y0, y1⟩ := row2 q4
    go_wp2_with fail
    refine HDE.out.mono ?_
    rintro e wD ⟨vD, rfl, hOD, fD⟩
    have hFD := fresh_trans hF4 fD
    have hzD := fD.size
    have HF := hidd (feed_any2 HCST.out (HST.out.fresh fD) (stl_start sts) ETL.out (HR4.out.fresh fD) (fun b off e => ⟨fun e => by simp [Value.ownBlock] at e, by have := HBT.out b off e; omega⟩) HGD.out (by omega))
    obtain ⟨aD, cD, evD, _⟩ := OwnB.rda hOD
    have HCD : Hid ((aD = none ∧ cD = 0 ∧ (spl d ts).length = 0) ∨ ∃ g, aD = some ⟨g, 0, none⟩) := by
      rcases own_cases hOD with ⟨e1, e2⟩ | ⟨g, cap, e1⟩
      · rw [evD] at e1
        injection e1 with e1 _ e3
        exact .inl ⟨e1, e3, e2⟩
      · rw [evD] at e1
        injection e1 with e1 _ e3
        exact .inr ⟨g, e1⟩
    obtain ⟨lB, elB⟩ : ∃ lB, lB = (spl d ts).length := ⟨_, rfl⟩
    rw [← elB] at evD HCD hBL
    have ELB := hidd elB
    subst evD
    have HOD := hidd hOD
    clear y0 y1 q4 HDE hOD fD elB
    go_wp2_with fail
    refine HF.out.mono ?_
    rintro e w5 ⟨v5, rfl, hfd, _⟩
    obtain ⟨wv, hS5, _, _⟩ := hfd.st
    have hz5 := hfd.chg.size
    have hOD5 := Own.chg hfd.chg HOD.out (fun b hb e => by
      have := Own.lt HOD.out b hb
      rcases e with e | e
      · omega
      · simp [Value.ownBlock] at e)
    have hF5 := hfd.chg.below hFD hFD.size (fun b e => by
      rcases e with e | e
      · omega
      · simp [Value.ownBlock] at e)
    have hO5 := hfd.out
    have hlo : (fdO d sts [] false ts).length + (fdX d sts [] false ts).length ≤ lB := by
      rw [← List.length_append, fd_cat, ELB.out]
      exact HMA.out.1.length_le
    have HCAT := hidd (fd_cat d sts ts)
    obtain ⟨Lo, eLo⟩ : ∃ Lo, Lo = fdO d sts [] false ts := ⟨_, rfl⟩
    obtain ⟨Lx, eLx⟩ : ∃ Lx, Lx = fdX d sts [] false ts := ⟨_, rfl⟩
    obtain ⟨ob, eob⟩ : ∃ ob, ob = fdE d sts [] false ts := ⟨_, rfl⟩
    obtain ⟨U, eU⟩ : ∃ U, U = (comT d sts [] ts).1 := ⟨_, rfl⟩
    rw [← eLo] at hO5 hlo HCAT
    rw [← eLx] at hS5 hlo HCAT
    rw [← eob] at hS5 HMA
    rw [← eU] at HCAT HMA
    obtain ⟨a5, c5, rfl, r5⟩ := OwnB.rda hO5
    have HCP := hidd (copyB_any r5 (by omega))
    have HOV := hidd (over_any hS5.p)
    have HS5 := hidd hS5
    have HOD5 := hidd hOD5
    have HF5 := hidd hF5
    obtain ⟨lo5, elo5⟩ : ∃ lo5, lo5 = Lo.length := ⟨_, rfl⟩
    rw [← elo5] at HCP hlo ⊢
    have EL5 := hidd elo5
    have hF5s := hF5.size
    clear HF HOD hFD hfd hO5 r5 hS5 hOD5 hF5 eLo eLx eob eU elo5 HST HR4 HL HT
    go_wp2_with fail
    refine HOV.out.mono ?_
    rintro e w6 ⟨rfl, hw⟩
    rw [hw]
    clear hw HOV
    go_wp2_with fail
    refine HCP.out.mono ?_
    rintro e w6 ⟨v6, rfl, hO6, f6⟩
    have hz6 := f6.size
    have hS6 := HS5.out.fresh f6
    have HCL := hidd (close_any hS6)
    have HOD6 := hidd (Own.kept HOD5.out f6)
    have HF6 := hidd (fresh_trans HF5.out f6)
    have HO6 := hidd hO6
    have HWL : Hid (∀ b, wv.ownBlock = some b → b < w5.heap.size) := fun b hb => (Own.lt HS5.out.wt b hb).2
    have HDL : Hid (∀ b, (Value.slice aD lB cD).ownBlock = some b → b < w5.heap.size ∧ w4.heap.size ≤ b) := fun b hb => by
      have h1 := Own.lt HOD5.out b hb
      exact ⟨h1.2, h1.1⟩
    obtain ⟨a6, c6, ev6, _⟩ := Own.rd hO6
    obtain ⟨a7, c7, e7, _⟩ := OwnB.rda HS5.out.wt
    subst ev6
    subst e7
    clear hO6 hS6 f6 HS5 HOD5 HF5 HCP
    go_wp2_with fail
    refine HCL.out.mono ?_
    rintro e w7 ⟨rfl, hS7, hO7, hc7⟩
    have hO6' := Own.chg hc7 HO6.out (fun b hb e => by have := Own.lt HO6.out b hb; omega)
    have hOD7 := Own.chg hc7 HOD6.out (fun b hb e => by have := HDL.out b hb; omega)
    have hF7 := hc7.below HF6.out HF6.out.size (fun b e => by omega)
    obtain ⟨x7, y7, ex7, r7⟩ := OwnB.rda hO7
    have hO6'' : OwnB w7 0 (.slice a6 lo5 c6) Lo := by
      have := Own.weaken hO6' (Nat.zero_le _)
      rw [EL5.out] at this ⊢
      exact this
    have HJ := hidd (ljoin_any hO6'' r7 (fun b off e e2 => by
      have h1 := HWL.out b (by rw [ex7, e]; rfl)
      have h2 := Own.lt HO6.out b e2
      omega) (by rw [← EL5.out]; omega))
    rw [HCAT.out, ← ex7] at HJ
    have HOD7 := hidd hOD7
    have HF7 := hidd hF7
    obtain ⟨lx, elx⟩ : ∃ lx, lx = Lx.length := ⟨_, rfl⟩
    rw [← elx] at HJ hlo ⊢
    have ELX := hidd elx
    have HLT6 : Hid (∀ b, (Value.slice a6 lo5 c6).ownBlock = some b → w5.heap.size ≤ b) := fun b hb => (Own.lt HO6.out b hb).1
    clear HCL hS7 hO7 hc7 hO6' hO6'' hOD7 hF7 r7 ex7 HO6 HOD6 HF6 elx HWL
    go_wp2_with fail
    refine HJ.out.mono ?_
    rintro e w8 ⟨v8, rfl, hj8⟩
    have hOD8 := Own.chg hj8.chg HOD7.out (fun b hb e => by have := HDL.out b hb; have := HLT6.out b e; omega)
    have hF8 := hj8.chg.below HF7.out HF7.out.size (fun b e => by have := HLT6.out b e; omega)
    obtain ⟨a8, c8, ev8, r8⟩ := OwnB.rda hj8.own
    obtain ⟨lU, elU⟩ : ∃ lU, lU = U.length := ⟨_, rfl⟩
    have ELU := hidd elU
    rw [← elU] at ev8
    subst ev8
    have hUB : lU ≤ lB := by rw [ELB.out, elU]; exact HMA.out.1.length_le
    have RU : Hid (∀ w', Below w8.heap.size w8 w' → RdA w' a8 1 U.length c8 (fun j => .int .u8 (U.getD j 0))) := fun w' f => r8.fresh f
    have RB : Hid (∀ w', Below w8.heap.size w8 w' → RdA w' aD 1 (spl d ts).length cD (fun j => .int .u8 ((spl d ts).getD j 0))) := fun w' f => by
      obtain ⟨x, y, e, r⟩ := OwnB.rda hOD8
      injection e with e1 e2 e3
      subst e1 e3
      exact r.fresh f
    have HF8 : Hid (∀ w', Below w8.heap.size w8 w' → Below w.heap.size w w') := fun w' f => fresh_trans hF8 f
    have hBS : Hid (Byt (spl d ts)) := byt_spl HCST.out.byt ts
    have hBU : Hid (Byt U) := byt_pre HMA.out.1 hBS.out
    have HNO : Hid (∀ i, i < sb.length → ¬ bys (sb.getD i ByteArray.empty) <:+: U) := fun i hi => HMA.out.2.1.none (by rw [EST.out]; exact List.mem_map.2 ⟨_, by simp [List.getD_eq_getElem?_getD, hi], rfl⟩) (fun e => by
      have h1 := (HM.out.2 i hi).1
      rw [← bys_len, e] at h1
      simp at h1)
    have hUt : lU ≤ 34359738352 := by omega
    have hcB : lB ≤ cD := by rw [ELB.out]; exact (RB.out w8 (Below.refl _ _)).le
    have hcT : cD ≤ 9223372036854775807 := by have := (RB.out w8 (Below.refl _ _)).top; unfold maxLen at this; omega
    clear HJ hj8 r8 hOD8 hF8 elU HOD7 HF7 HDL HLT6
    have dgt : decide ((lB : Int) < (lU : Int)) = false := by simp; omega
    have dgt2 : decide (lB < lU) = false := by simp; omega
    go_upto_region 16 with fail
    go_cut [15] from 76 to 81 (fun v15 wx => v15 = .bool true ∧ Below w8.heap.size w8 wx)
    case first =>
      have HQ : Hid (Calls Try.prog 15 #[.slice a8 lU c8, .slice aD lU cD] w8 fun e w' => e = .returned (.bool true) ∧ Below w8.heap.size w8 w') := by
        have h1 := RU.out w8 (Below.refl _ _)
        rw [← ELU.out] at h1
        have h2 := RB.out w8 (Below.refl _ _)
        have h3 : RdA w8 aD 1 lU cD (fun j => .int .u8 ((spl d ts).getD j 0)) := ⟨by omega, h2.top, fun h0 => by
          obtain ⟨b, off, e, hc⟩ := h2.one (by have := ELB.out; omega)
          exact ⟨b, off, e, fun j hj => hc j (by have := ELB.out; omega)⟩⟩
        exact eqBytes_same h1 h3 (fun j hj => pre_get HMA.out.1 (by have := ELU.out; omega))
      rcases HCD.out with ⟨rfl, rfl, rfl⟩ | ⟨g, rfl⟩
      · obtain rfl : lU = 0 := by omega
        go_wp2_with fail
        refine HQ.out.mono ?_
        rintro e w9 ⟨rfl, f9⟩
        go_wp2_with fail
        go_meet
        case rel => exact ⟨rfl, f9⟩
      · go_wp2_with fail
        refine HQ.out.mono ?_
        rintro e w9 ⟨rfl, f9⟩
        go_wp2_with fail
        go_meet
        case rel => exact ⟨rfl, f9⟩
    case rest =>
    obtain ⟨rfl, f9⟩ := hcut
    rename World => w9
    have H16 := hidd HM.out.2
    have HH1 := hidd (has_no (RU.out w9 f9) hBU.out (HS.out.fresh (HF8.out w9 f9)) HM.out.2 HNO.out (by rw [← ELU.out]; omega) HM.out.1)
    rw [← ELU.out, ← EK.out] at HH1
    go_wp2_with fail
    refine HH1.out.mono ?_
    rintro e w10 ⟨rfl, f10⟩
    have f10' := fresh_trans f9 f10
    clear HH1 f10 f9 dgt dgt2
    cases ob with
    | false =>
      have hUS := HMA.out.2.2.1 rfl
      have hll : lU = lB := by rw [ELU.out, ELB.out, hUS]
      have HH2 := hidd (has_no (RB.out w10 f10') hBS.out (HS.out.fresh (HF8.out w10 f10')) HM.out.2 (by rw [← hUS]; exact HNO.out) (by rw [← ELB.out]; omega) HM.out.1)
      rw [← ELB.out, ← EK.out] at HH2
      have dll : ((lU : Int) == (lB : Int)) = true := by rw [hll]; simp
      clear hUS
      go_wp2_with fail
      refine HH2.out.mono ?_
      rintro e w11 ⟨rfl, f11⟩
      have hB11 := HF8.out w11 (fresh_trans f10' f11)
      go_wp2
      go_ret
      exact ⟨rfl, hB11⟩
    | true =>
      obtain ⟨s0, hs0, hp0⟩ := HMA.out.2.2.2 rfl
      rw [EST.out] at hs0
      obtain ⟨z0, hz0, rfl⟩ := List.mem_map.1 hs0
      obtain ⟨i0, hi0, ez0⟩ := List.mem_iff_getElem.1 hz0
      obtain ⟨m1, m2⟩ := mid_pre hp0
      rw [bys_len] at m1 m2
      have HI0 : Hid (sb.getD i0 ByteArray.empty = z0) := by show _ = _; simp [List.getD_eq_getElem?_getD, hi0, ez0]
      have HM1 : Hid (((spl d ts).drop lU).take z0.size = bys z0) := by show _ = _; rw [ELU.out]; exact m1
      have HM2 : Hid (lU + z0.size ≤ lB) := by show _ ≤ _; rw [ELU.out, ELB.out]; exact m2
      have hi0k : i0 < k := by have := EK.out; omega
      clear m1 m2 hp0 hs0 hz0 ez0 hi0 HNO
      go_wp2
      go_loopw [18] (fun iv wr => ∃ i : Nat, i ≤ i0 ∧ iv = .int .i64 i ∧ Below w8.heap.size w8 wr) (fun iv _ => k - (intOf iv).toNat)
      case atStart => exact ⟨0, Nat.zero_le _, rfl, f10'⟩
      case round =>
        obtain ⟨i, hi, rfl, hg⟩ := hrel
        have hik : i < sb.length := by have := EK.out; omega
        have hiN : i < k := by omega
        obtain ⟨bs, os, es, hcs⟩ := (HS.out.fresh (HF8.out wr hg)).one (by omega)
        have cq := hcs i hik
        have hsz := H16.out i hik
        have HNE : Hid (i = i0 → sb.getD i ByteArray.empty = z0) := fun e => by rw [e]; exact HI0.out
        obtain ⟨s, ess⟩ : ∃ s, s = sb.getD i ByteArray.empty := ⟨_, rfl⟩
        rw [← ess] at cq hsz HNE
        subst es
        have hg2 := fun n => fresh_trans hg (below_drewN (Below.refl wr.heap.size wr) n)
        have hBf := fun n => HF8.out _ (hg2 n)
        have i1 : (0 : Int) ≤ (i : Int) := Int.natCast_nonneg _
        have i2 : (i : Int) < (k : Int) := by omega
        clear ess hcs
        by_cases hkn : lU + s.size ≤ lB
        · have dle : decide ((lU : Int) + (s.size : Int) ≤ (lB : Int)) = true := by simp; omega
          have hr := RB.out wr hg
          obtain ⟨b, off, e, _⟩ := hr.one (by have := ELB.out; omega)
          have hlen : (((spl d ts).drop lU).take s.size).length = s.size := by rw [List.length_take, List.length_drop]; have := ELB.out; omega
          have hm := RdA.mid hr (k := lU) (n := s.size) (by have := ELB.out; omega) e
          have hcv := fun n => conv_str (hm.fresh (below_drewN (Below.refl wr.heap.size wr) n))
          rw [hlen] at hcv
          have hse := str_eqs (a := ((spl d ts).drop lU).take s.size) (fun x hx => hBS.out x (List.mem_of_mem_drop (List.mem_of_mem_take hx))) s
          subst e
          obtain ⟨S', eS'⟩ : ∃ S', S' = strOfNums (((spl d ts).drop lU).take s.size) := ⟨_, rfl⟩
          rw [← eS'] at hcv hse
          have hcv2 := hcv
          rw [show s.size = lU + s.size - lU by omega] at hcv2
          have i3 : (0 : Int) ≤ (lU : Int) := Int.natCast_nonneg _
          have i4 : (lU : Int) + (s.size : Int) ≤ (cD : Int) := by omega
          have i5 : (lU : Int) ≤ (lU : Int) + (s.size : Int) := by omega
          have HPK : ((((lU + s.size : Nat) : Int)) = (lU : Int) + (s.size : Int)) := by omega
          by_cases heq : ((spl d ts).drop lU).take s.size = bys s
          · rw [decide_eq_true heq] at hse
            clear hm hlen hr eS' heq
            go_wp2
            go_quiet (fail)
            go_wp2
            go_ret
            exact ⟨rfl, hBf _⟩
          · rw [decide_eq_false heq] at hse
            have hne : i ≠ i0 := fun e => heq (by rw [HNE.out e]; exact HM1.out)
            clear hm hlen hr eS' heq
            go_wp2
            go_quiet (fail)
            go_wp2
            go_roundw
            case rel => exact ⟨i + 1, by omega, by go_num, hg2 _⟩
            case measure => simp [intOf]; omega
        · have dle : decide ((lU : Int) + (s.size : Int) ≤ (lB : Int)) = false := by simp; omega
          have hne : i ≠ i0 := fun e => hkn (by rw [HNE.out e]; exact HM2.out)
          go_wp2
          go_quiet (fail)
          go_wp2
          go_roundw
          case rel => exact ⟨i + 1, by omega, by go_num, hg2 _⟩
          case measure => simp [intOf]; omega
  · have HNW : Hid (∀ w', Below w.heap.size w w' → Calls Try.prog 7 #[.agg #[.slice bo d.nb cb, .slice po d.np cp], .slice so k cs] w' fun e w'' => (∃ x, e = .returned (.tuple #[.pointer none, .int .i64 x]) ∧ x ≠ 0 ∧ (¬ d.Right → x = 50) ∧ (d.Right → x = 180)) ∧ Below w'.heap.size w' w'') := fun w' f => by
      have := new_bad (HB.out.fresh f) (HP.out.fresh f) (HS.out.fresh f) HLEN.out hRM
      rwa [← ek] at this
    rw [← ek]
    clear ek hRM
    go_enter Try.func3, Try.ntmps3
    go_wp2_with fail
    refine (HL1.out _).mono ?_
    rintro e w1 ⟨rfl, hw⟩
    rw [hw]
    clear hw
    go_wp2_with fail
    rw [← ew0] at hf0 q0 ⊢
    clear ew0
    refine (fixed_any w0).mono ?_
    rintro e w1 ⟨rfl, f1⟩
    have hF1 := fresh_trans hf0 f1
    have q1 := q0.of_block (f1.block _ q0.lt)
    clear q0 f1 hf0
    obtain ⟨y0, y1⟩ := row2 q1
    go_wp2_with fail
    refine (HNW.out w1 hF1).mono ?_
    rintro e w2 ⟨⟨x, rfl, hx, _, _⟩, f2⟩
    have hF2 := fresh_trans hF1 f2
    have hx1 : (x != 0) = true := by simpa using hx
    clear y0 y1
    go_wp2
    go_ret
    exact ⟨rfl, hF2⟩
end Go.Proofs.Ytlbmgknlbhakoab
