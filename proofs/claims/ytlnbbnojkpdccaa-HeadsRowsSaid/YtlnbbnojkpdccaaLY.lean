import Derived.Test.YtlnbbnojkpdccaaLX
import Derived.Test.YtlnbbnojkpdccaaLgR
import Derived.Test.YtlnbbnojkpdccaaWtO
namespace Go.Proofs.Ytlnbbnojkpdccaa
open Go.RowKit
/-! The law HeadsRows. -/
set_option maxRecDepth 100000 in
set_option maxHeartbeats 40000000 in
theorem rows_law {w : World} {x : WtD} (hx : WtR w x) {ho : Option Addr} {n hc : Nat} {f : Nat → Int} (hh : RdA w ho 1 n hc (fun i => .int .i8 (f i))) (hg : ∀ i, i < n → -128 ≤ f i ∧ f i ≤ 127) (row : Int)
    {oo : Option Addr} {no oc : Nat} {of : Nat → Int} (hot : RdA w oo 1 no oc (fun i => .int .i8 (of i))) (hob : ∀ i, i < no → -128 ≤ of i ∧ of i ≤ 127) :
    Calls Try.prog 6 #[.agg #[.int .i64 x.V, .int .i64 x.W, .int .i64 x.H, .int .i64 x.K, .int .i64 x.L, .int .i64 x.D, .int .i64 x.N, .int .i64 x.M, .int .i64 x.E.R, .int .i64 x.E.C, .slice x.E.O x.E.n x.E.c, .slice x.tO x.tn x.tc, .slice x.yO x.yn x.yc, .slice x.F.O x.F.n x.F.c, .int .i64 x.Q.R, .int .i64 x.Q.C, .slice x.Q.O x.Q.n x.Q.c, .slice x.mO x.mn x.mc], .slice ho n hc, .int .i64 row, .slice oo no oc] w (RfP w) := by
  have HOT := hidd hot
  have HOB := hidd hob
  clear hot hob
  obtain ⟨T, hT⟩ : ∃ T, T = wtA x := ⟨_, rfl⟩
  have hr : (w.alloc (.cells #[.int .i64 x.V, .int .i64 x.W, .int .i64 x.H, .int .i64 x.K, .int .i64 x.L, .int .i64 x.D, .int .i64 x.N, .int .i64 x.M, .int .i64 x.E.R, .int .i64 x.E.C, .slice x.E.O x.E.n x.E.c, .slice x.tO x.tn x.tc, .slice x.yO x.yn x.yc, .slice x.F.O x.F.n x.F.c, .int .i64 x.Q.R, .int .i64 x.Q.C, .slice x.Q.O x.Q.n x.Q.c, .slice x.mO x.mn x.mc] 46)).rowIs w.heap.size 46 18 (wtc x) := World.rowIs_list w (wtL x) 46
  have f1 := fresh_alloc w (.cells #[.int .i64 x.V, .int .i64 x.W, .int .i64 x.H, .int .i64 x.K, .int .i64 x.L, .int .i64 x.D, .int .i64 x.N, .int .i64 x.M, .int .i64 x.E.R, .int .i64 x.E.C, .slice x.E.O x.E.n x.E.c, .slice x.tO x.tn x.tc, .slice x.yO x.yn x.yc, .slice x.F.O x.F.n x.F.c, .int .i64 x.Q.R, .int .i64 x.Q.C, .slice x.Q.O x.Q.n x.Q.c, .slice x.mO x.mn x.mc] 46)
  have SL : Hid ((Try.prog.info? 46).map (·.size) = some T.toList.length) := by rw [hT]; exact sizeW
  have HRG : Hid (∀ z, Below (w.alloc (.cells #[.int .i64 x.V, .int .i64 x.W, .int .i64 x.H, .int .i64 x.K, .int .i64 x.L, .int .i64 x.D, .int .i64 x.N, .int .i64 x.M, .int .i64 x.E.R, .int .i64 x.E.C, .slice x.E.O x.E.n x.E.c, .slice x.tO x.tn x.tc, .slice x.yO x.yn x.yc, .slice x.F.O x.F.n x.F.c, .int .i64 x.Q.R, .int .i64 x.Q.C, .slice x.Q.O x.Q.n x.Q.c, .slice x.mO x.mn x.mc] 46)).heap.size (w.alloc (.cells #[.int .i64 x.V, .int .i64 x.W, .int .i64 x.H, .int .i64 x.K, .int .i64 x.L, .int .i64 x.D, .int .i64 x.N, .int .i64 x.M, .int .i64 x.E.R, .int .i64 x.E.C, .slice x.E.O x.E.n x.E.c, .slice x.tO x.tn x.tc, .slice x.yO x.yn x.yc, .slice x.F.O x.F.n x.F.c, .int .i64 x.Q.R, .int .i64 x.Q.C, .slice x.Q.O x.Q.n x.Q.c, .slice x.mO x.mn x.mc] 46)) z → z.rangeAt w.heap.size 0 T.toList) := fun z hz => by rw [hT]; exact row_range (row_fresh hr hz) rfl
  have HFX : Hid (∀ z, Calls Try.prog 9 #[] z fun e w' => e = .returned (.bool true) ∧ Below z.heap.size z w') := fun z => fixed_any z
  have HT := hidd hT
  have HR := hidd hr
  have HX := hidd hx
  have HH := hidd hh
  have HG := hidd hg
  have hnc := hh.le
  have hnt := hh.top
  unfold maxLen at hnt
  clear hr hT hx hh hg
  by_cases hfit : x.may ∧ WtP x
  · obtain ⟨hm, hp⟩ := hfit
    have HMD : Hid (∀ z, Below w.heap.size w z → Calls Try.prog 15 #[.agg T] z fun e w' => ∃ y g, e = .returned (.tuple #[.pointer (some ⟨g, 0, none⟩), .bool true, .bool true]) ∧ Mdl w' g x y ∧ Below z.heap.size z w') := fun z hz => by rw [HT.out]; exact made_ok (HX.out.fresh hz) hm hp
    obtain ⟨R, C, hV, hW, hR1, hR2, hC1, hC2⟩ := may_nat hm
    have HFT : Hid (∀ z, Below w.heap.size w z → Calls Try.prog 16 #[.agg T, .slice ho n hc] z fun e w' => ∃ u c, e = .returned (.slice u C c) ∧ Own w' z.heap.size 57 1 (.slice u C c) C (fun i => .int .i8 (fitF f n i)) ∧ Below z.heap.size z w') := fun z hz => by rw [HT.out]; exact fitv_any hW hC2 (HH.out.fresh hz)
    have HLO : Hid (∀ (z : World) (g : Nat) (y : WtD) (u : Option Addr) (c : Nat) (hf : Nat → Int), Mdl z g x y → RdA z u 1 C c (fun i => .int .i8 (hf i)) → (∀ i, i < C → -128 ≤ hf i ∧ hf i ≤ 127) → Calls Try.prog 17 #[.pointer (some ⟨g, 0, none⟩), .slice u C c] z fun e w' => ∃ b, e = .returned (.tuple #[.slice (some ⟨b, 0, none⟩) R R, .int .i64 0]) ∧ RdA w' (some ⟨b, 0, none⟩) 1 R R (fun r => .int .i64 (mv x.Q.f hf C r)) ∧ Below z.heap.size z w') := fun z g y u c hf hmd hrd hbd => (logits_ok hmd (hmd.b hm hp) hV hW hR2 hp.Q hrd hbd).mono fun e w' ⟨b, F, h1, _, h2, h3, h4⟩ => ⟨b, h1, (rowIs_rd h2 (by unfold maxLen; omega)).congr (fun j hj => h3 j (by omega)), h4⟩
    have HQN : Hid (x.Q.n = R * C) := by
      have h9 := hp.Q.1.1
      rw [hp.Q.2.1, hp.Q.2.2, hV, hW] at h9
      exact (shp_mul h9).2.2
    have HMP := hidd (And.intro hm hp)
    have HVW := hidd (And.intro hV hW)
    have hmk := run_make_row' (P := Try.prog) 39 57 (.int .i8 0) 1 Try.underlying39 infoI8 rfl .i64 .i64 C (by omega) (by omega)
    clear hV hW hm hp
    go_enter Try.func6, Try.ntmps6
    go_upto_region 1 with fail
    have HR1 := hidd (HR.out)
    generalize hwa : w.alloc (.cells #[.int .i64 x.V, .int .i64 x.W, .int .i64 x.H, .int .i64 x.K, .int .i64 x.L, .int .i64 x.D, .int .i64 x.N, .int .i64 x.M, .int .i64 x.E.R, .int .i64 x.E.C, .slice x.E.O x.E.n x.E.c, .slice x.tO x.tn x.tc, .slice x.yO x.yn x.yc, .slice x.F.O x.F.n x.F.c, .int .i64 x.Q.R, .int .i64 x.Q.C, .slice x.Q.O x.Q.n x.Q.c, .slice x.mO x.mn x.mc] 46) = wa at *
    clear hwa HR
    go_wp2_with fail
    refine (HFX.out _).mono ?_
    rintro e w0 ⟨rfl, f0⟩
    have F0 := hidd (fresh_trans f1 f0)
    have RG := hidd (HRG.out w0 f0)
    have HR0 := hidd (row_fresh HR1.out f0)
    clear f1 f0 HR1
    go_wp2_with (refine wpList_load_mid rfl 46 _ rfl w.heap.size 0 rfl T.toList _ RG.out Try.underlying46 rfl SL.out ?_)
    refine (HMD.out _ F0.out).mono ?_
    rintro e w1 ⟨y, g, rfl, hmd, f2⟩
    have F1 := hidd (fresh_trans F0.out f2)
    have HM1 := hidd hmd
    have HR1 := hidd (row_fresh HR0.out f2)
    replace RG : Hid (w1.rangeAt w.heap.size 0 T.toList) := by rw [HT.out]; exact row_range HR1.out rfl
    clear hmd f2 HMD HR0 F0 HRG
    go_wp2_with (refine wpList_load_mid rfl 46 _ rfl w.heap.size 0 rfl T.toList _ RG.out Try.underlying46 rfl SL.out ?_)
    refine (HFT.out _ F1.out).mono ?_
    rintro e w2 ⟨hu, hcc, rfl, ho2, f3⟩
    have F2 := hidd (fresh_trans F1.out f3)
    have HM2 := hidd (HM1.out.fresh f3)
    have HR2 := hidd (row_fresh HR1.out f3)
    have HO2 := hidd (Own.rda ho2)
    have hul := HO2.out.le
    have hut := HO2.out.top
    unfold maxLen at hut
    clear ho2 f3 F1 HM1 HR1 HFT RG
    go_wp2_with fail
    refine (HLO.out _ g y hu hcc _ HM2.out HO2.out (fun i _ => fitF_bd HG.out i)).mono ?_
    rintro e w3 ⟨bl, rfl, hl, f4⟩
    have F3 := hidd (fresh_trans F2.out f4)
    have HM3 := hidd (HM2.out.fresh f4)
    have HR3 := hidd (row_fresh HR2.out f4)
    have HO3 := hidd (HO2.out.fresh f4)
    have HL3 := hidd hl
    have HMK := hidd (World.rowIs_made w3 (.int .i8 0) C 57)
    have HFM := hidd (fresh_alloc w3 (.cells (madeCells #[.int .i8 0] C) 57))
    clear hl f4 F2 HM2 HR2 HO2
    go_wp2_with fail
    clear hmk
    refine (HLO.out _ g y (some ⟨w3.heap.size, 0, none⟩) C (fun _ => 0) (HM3.out.fresh HFM.out) ((rowIs_rd HMK.out (by unfold maxLen; omega))) (fun _ _ => by omega)).mono ?_
    rintro e w4 ⟨bz, rfl, hz, f5⟩
    have f45 := fresh_trans HFM.out f5
    have F6 := hidd (fresh_trans F3.out f45)
    have HR6 := hidd (row_fresh HR3.out f45)
    have HO6 := hidd (HO3.out.fresh f45)
    have HL6 := hidd (HL3.out.fresh f45)
    have HZ6 := hidd (hz.congr (cs' := fun _ => .int .i64 0) (fun j _ => by show Value.int .i64 (mv x.Q.f (fun _ => 0) C j) = _; unfold mv; rw [dot_zeros]))
    clear hz f5 f45 F3 HM3 HR3 HO3 HL3 HMK HFM HLO HFX
    generalize w4 = w6 at *
    have c0 : w6.cell? ⟨w.heap.size, 0, none⟩ = some (.int .i64 (R : Int)) := by rw [← HVW.out.1]; exact HR6.out.cell (i := 0) (by decide)
    have c1 : w6.cell? ⟨w.heap.size, 1, none⟩ = some (.int .i64 (C : Int)) := by rw [← HVW.out.2]; exact HR6.out.cell (i := 1) (by decide)
    go_wp2
    refine loop_invP (c := loopR1) (fun q a wz => ∃ t : Nat, q + t = R ∧ LR1 w.heap.size row oo no oc hu C hcc bl bz R t a ∧ Hid (wz = w6)) R ⟨0, by omega, LR1.of rfl rfl rfl rfl rfl rfl rfl rfl (by first | rfl | simp), rfl⟩ ?_
    clear c0 c1
    rintro q a wr ⟨t, hq, ha, HWQ⟩
    have hwq : wr = w6 := HWQ.out
    subst hwq
    clear HWQ
    by_cases hlt : t < R
    · refine then_only (fun _ _ h => h) (roundR1 (hidd (HX.out.fresh F6.out).Q) HQN.out hC1 (HMP.out.2.b HMP.out.1).Q HR6 HO6 (hidd fun i _ => fitF_bd HG.out i) HL6 HZ6 hR2 hlt a ha _ (hidd fun a' w' h1 h2 => ?_))
      exact ⟨q - 1, by omega, t + 1, by omega, h1, h2⟩
    · obtain rfl : t = R := by omega
      obtain ⟨u, e2, e3, e4, e13, e14, e16, e18, e19, rfl⟩ := ha
      rw [e2, e3, e4, e13, e14, e16, e18, e19]
      clear e2 e3 e4 e13 e14 e16 e18 e19 hq
      generalize t = R at *
      generalize wr = w6 at *
      conv => arg 2; whnf
      have hnl : ¬ ((R : Int) < (R : Int)) := by omega
      have hRne : ¬ (R : Int) = 0 := by omega
      by_cases hneg : row.tmod (R : Int) < 0
      · obtain ⟨k, hkI⟩ : ∃ k : Nat, row.tmod (R : Int) + (R : Int) = (k : Int) := by
          have h9 := Int.lt_tmod_of_pos row (show (0 : Int) < (R : Int) by omega)
          exact ⟨(row.tmod (R : Int) + (R : Int)).toNat, by omega⟩
        have hk : k < R := by omega
        have hdn : decide (row.tmod (R : Int) < 0) = true := decide_eq_true hneg
        go_upto_region 22 with fail
        clear hdn hneg hkI hnl hRne
        have RG := hidd (row_range HR6.out rfl)
        have RG2 : Hid (w6.rangeAt w.heap.size 0 T.toList) := by rw [HT.out]; exact RG.out
        clear RG
        have HCW : Hid (Calls Try.prog 19 #[.agg T] w6 fun e w' => ∃ y, e = .returned (.agg (wtA y)) ∧ Cpy w6 w' x y ∧ NoQ x y x.mn) := by
          show Calls _ _ _ _ _
          rw [HT.out]
          exact copyW_off (HX.out.fresh F6.out) (HMP.out.2.b HMP.out.1)
        go_wp2_with (refine wpList_load_mid rfl 46 _ rfl w.heap.size 0 rfl T.toList _ RG2.out Try.underlying46 rfl SL.out ?_)
        refine HCW.out.mono ?_
        rintro e w7 ⟨y, rfl, hcp, hnq⟩
        have HCP := hidd hcp
        have HNQ := hidd hnq
        clear hcp hnq HCW RG2
        obtain ⟨T9, hT9⟩ : ∃ T9, T9 = wtA y := ⟨_, rfl⟩
        rw [← hT9]
        have S18 : Hid ((Try.prog.info? 46).map (·.size) = some T9.size) := by rw [hT9]; exact sizeW
        have SL9 : Hid ((Try.prog.info? 46).map (·.size) = some T9.toList.length) := by rw [hT9]; exact sizeW
        have H1 : Hid (T9.all (·.oneCell') = true) := by rw [hT9]; exact wtA_one y
        have HOZ : Hid ((#[.int .i64 0, .int .i64 0, .int .i64 0, .int .i64 0, .int .i64 0, .int .i64 0, .int .i64 0, .int .i64 0, .int .i64 0, .int .i64 0, .slice none 0 0, .slice none 0 0, .slice none 0 0, .slice none 0 0, .int .i64 0, .int .i64 0, .slice none 0 0, .slice none 0 0] : Array Value).size = T9.size) := by rw [hT9]; rfl
        have HZH : Hid ((w7.alloc (.cells #[.int .i64 0, .int .i64 0, .int .i64 0, .int .i64 0, .int .i64 0, .int .i64 0, .int .i64 0, .int .i64 0, .int .i64 0, .int .i64 0, .slice none 0 0, .slice none 0 0, .slice none 0 0, .slice none 0 0, .int .i64 0, .int .i64 0, .slice none 0 0, .slice none 0 0] 46)).heap[w7.heap.size]? = some (.cells #[.int .i64 0, .int .i64 0, .int .i64 0, .int .i64 0, .int .i64 0, .int .i64 0, .int .i64 0, .int .i64 0, .int .i64 0, .int .i64 0, .slice none 0 0, .slice none 0 0, .slice none 0 0, .slice none 0 0, .int .i64 0, .int .i64 0, .slice none 0 0, .slice none 0 0] 46 (0, 0))) := heap_new _ _
        have HEQ : Hid ((w7.alloc (.cells #[.int .i64 0, .int .i64 0, .int .i64 0, .int .i64 0, .int .i64 0, .int .i64 0, .int .i64 0, .int .i64 0, .int .i64 0, .int .i64 0, .slice none 0 0, .slice none 0 0, .slice none 0 0, .slice none 0 0, .int .i64 0, .int .i64 0, .slice none 0 0, .slice none 0 0] 46)).setRow w7.heap.size T9 = w7.alloc (.cells T9 46)) := World.setRow_alloc_new _ _ _ _
        have HRW : Hid ((w7.alloc (.cells T9 46)).rowIs w7.heap.size 46 18 (wtc y)) := by rw [hT9]; exact World.rowIs_list w7 (wtL y) 46
        have f8 := fresh_alloc w7 (.cells T9 46)
        have HT9 := hidd hT9
        clear hT9
        go_upto_region 23 with (refine wpList_store_row rfl 46 _ _ rfl w7.heap.size T9 rfl rfl 46 _ HZH.out S18.out HOZ.out H1.out ?_)
        rw [HEQ.out]
        clear HEQ HZH HOZ H1 S18
        generalize w7.alloc (.cells T9 46) = w8 at *
        have hQn : y.Q.n = R * C := by rw [HCP.out.bs.Q.2.2.1]; exact HQN.out
        have hQ0 : 0 < y.Q.n := by
          rw [hQn]
          exact Nat.mul_pos hR1 hC1
        obtain ⟨g, hQO, hg1, hg2, _, _⟩ := Own.at_ HCP.out.Q hQ0
        have hg3 : w7.heap.size ≠ g := by omega
        have HS0 : Hid (R2 w8 w8 x y g w7.heap.size C k x.Q.f) := by
          refine hidd ⟨?_, HRW.out, fun _ _ => rfl, rfl, fun _ _ => rfl, fun j hj => ?_⟩
          · have h9 := (Own.kept HCP.out.Q f8).weaken (Nat.zero_le _)
            rw [← hQO]
            rw [HCP.out.bs.Q.2.2.2] at h9
            exact h9
          · rw [HCP.out.bs.Q.2.2.1] at hj
            exact ⟨HMP.out.2.Q.1.2 j hj, (HX.out.Q.bd j hj).2⟩
        have HF8 := hidd f8
        have HB8 : Hid (Below w6.heap.size w6 w8) := fresh_trans HCP.out.low f8
        have hqb : y.Q.n ≤ 1048576 := by rw [HCP.out.bs.Q.2.2.1]; exact (HMP.out.2.b HMP.out.1).Q
        have HQO := hidd hQO
        have HQn := hidd hQn
        have hg4 : w6.heap.size ≤ g := by omega
        clear f8 HRW hQO hQn hQ0 hg1 hg2
        go_wp2
        refine loop_invP (c := loopR2) (fun q a wz => ∃ (i : Nat) (qf : Nat → Int), q + i = min C no ∧ LR2 w7.heap.size oo no oc hu C hcc bl R k i a ∧ Hid (R2 w8 wz x y g w7.heap.size C k qf) ∧ Hid (Below w6.heap.size w6 wz)) (min C no) ⟨0, x.Q.f, by omega, LR2.of rfl rfl rfl rfl rfl rfl rfl (by first | rfl | simp), HS0.out, HB8.out⟩ ?_
        clear HS0 HB8
        rintro q a wr ⟨i, qf, hq, ha, HS, HB⟩
        by_cases hlt : i < C ∧ i < no
        · refine then_only (fun _ _ h => h) (roundR2 HS HQO.out HQn.out hk hg3 hqb (hidd ((HOT.out.fresh F6.out).fresh HB.out)) HOB hlt.1 hlt.2 hg4 a ha _ (hidd fun a' w' qf' h1 h2 h3 => ?_))
          exact ⟨q - 1, by omega, i + 1, qf', by omega, h1, h2, HB.out.trans h3⟩
        · refine Code.wp_mono ?_ (exitR2 hlt a ha)
          intro e a' w' hq'
          cases e with
          | normal => exact hq'.elim
          | exit m9 =>
            obtain ⟨he, hf', hw'⟩ := hq'
            cases he
            subst hw'
            obtain ⟨u, e3, e13, e14, e18, e22, e23, e24, rfl⟩ := hf'
            rw [e3, e13, e14, e18, e22, e23, e24]
            clear e3 e13 e14 e18 e22 e23 e24 hq ha hlt
            obtain ⟨m, hm⟩ : ∃ m : MtD, m = { y.Q with f := qf } := ⟨_, rfl⟩
            obtain ⟨v, hv⟩ : ∃ v : WtD, v = { y with Q := m } := ⟨_, rfl⟩
            have HV : Hid (WtR w' v ∧ v.may ∧ WtP v ∧ v.V = (R : Int) ∧ v.W = (C : Int) ∧ v.Q.f = qf) := by
              obtain ⟨a1, a2, _⟩ := HCP.out.bs.cfg
              have h1 := HCP.out.sm.may HMP.out.1
              have h2 := HCP.out.sm.wtp HMP.out.2
              have hmr : MtR w' m := by
                rw [hm]
                exact ⟨by have := HS.out.own.rda; rw [← HQO.out] at this; exact this, fun i hi => ⟨by have h9 := (HS.out.bd i hi).1; show -128 ≤ qf i; omega, (HS.out.bd i hi).2⟩⟩
              have h3 := (HCP.out.v.fresh HF8.out).but HX.out HNQ.out HQO.out HS.out.but m hmr
              have hQi : m.isa y.V y.W := by
                rw [hm]
                have h9 := h2.Q
                exact ⟨⟨h9.1.1, fun i hi => (HS.out.bd i hi).1⟩, h9.2⟩
              rw [hv]
              exact ⟨h3, h1, ⟨h2.E, hQi, h2.F, h2.T, h2.yn, h2.mn, h2.y, h2.m⟩, a1.trans HVW.out.1, a2.trans HVW.out.2, by rw [hm]⟩
            have RG : Hid (w'.rangeAt w7.heap.size 0 T9.toList) := by rw [HT9.out]; exact row_range HS.out.box rfl
            have HNW : Hid (Calls Try.prog 20 #[.agg T9] w' fun e w9 => ∃ y' g, e = .returned (.tuple #[.pointer (some ⟨g, 0, none⟩), .int .i64 0]) ∧ Mdl w9 g v y' ∧ w'.heap.size ≤ g ∧ Below w'.heap.size w' w9) := by
              have h9 := new_ok HV.out.1 HV.out.2.1 HV.out.2.2.1
              have e9 : T9 = wtA v := by rw [HT9.out, hv, hm]; rfl
              show Calls _ _ _ _ _
              rw [e9]
              exact h9
            have HSAME : Hid (∀ t, t ≠ k → mv qf (fitF f n) C t = mv x.Q.f (fitF f n) C t) := fun t ht => by
              unfold mv
              refine dot_congr (fun c hc => HS.out.same _ ?_) (fun _ _ => rfl)
              have h9 : 0 < C := hC1
              rw [Nat.mul_comm, Nat.mul_add_div h9, Nat.div_eq_of_lt hc, Nat.add_zero]
              exact ht
            have HB' := HB
            clear hm hv HS HCP HNQ HF8 HQO HQn
            go_wp2_with (refine wpList_load_mid rfl 46 _ rfl w7.heap.size 0 rfl T9.toList _ RG.out Try.underlying46 rfl SL9.out ?_)
            refine HNW.out.mono ?_
            rintro e w9 ⟨y', g', rfl, hmd, _, f9⟩
            have HM9 := hidd hmd
            have F9 := hidd (HB'.out.trans (f9.mono HB'.out.size))
            clear hmd f9 HNW RG SL9
            have HLG : Hid (Calls Try.prog 17 #[.pointer (some ⟨g', 0, none⟩), .slice hu C hcc] w9 fun e w' => ∃ b F, e = .returned (.tuple #[.slice (some ⟨b, 0, none⟩) R R, .int .i64 0]) ∧ w9.heap.size ≤ b ∧ w'.rowIs b 2 R F ∧ (∀ r, r < R → F r = .int .i64 (mv qf (fitF f n) C r)) ∧ Below w9.heap.size w9 w') := by
              have h9 := HV.out
              have := logits_ok HM9.out (HM9.out.b h9.2.1 h9.2.2.1) h9.2.2.2.1 h9.2.2.2.2.1 hR2 h9.2.2.1.Q (HO6.out.fresh F9.out) (fun i _ => fitF_bd HG.out i)
              rw [h9.2.2.2.2.2] at this
              exact this
            go_wp2_with fail
            refine HLG.out.mono ?_
            rintro e w10 ⟨bq, F, rfl, _, hrow, hF, f10⟩
            have HRQ := hidd ((rowIs_rd hrow (by unfold maxLen; omega)).congr (cs' := fun r => .int .i64 (mv qf (fitF f n) C r)) (fun j hj => hF j (by omega)))
            have F10 := hidd (fresh_trans F9.out f10)
            have HRL := hidd (HL6.out.fresh F10.out)
            clear HLG HM9 f10 hrow hF F9 HV HB'
            go_wp2
            refine loop_invP (c := loopR3) (fun q a wz => ∃ t : Nat, q + t = R ∧ LR3 bl bq R k t a ∧ Hid (Below w10.heap.size w10 wz)) R ⟨0, by omega, LR3.of rfl rfl rfl rfl (by first | rfl | simp), Below.refl _ _⟩ ?_
            rintro q a wr ⟨t, hq, ha, HB3⟩
            by_cases hlt : t < R
            · refine then_only (fun _ _ h => h) (roundR3 (hidd (HRL.out.fresh HB3.out)) (hidd (HRQ.out.fresh HB3.out)) hR2 hlt (hidd (HSAME.out t)) a ha _ (hidd fun a' n' h1 => ?_))
              exact ⟨q - 1, by omega, t + 1, by omega, h1, fresh_trans HB3.out (fresh_drewN _ _)⟩
            · obtain rfl : t = R := by omega
              obtain ⟨u, e14, e22, e26, e27, rfl⟩ := ha
              rw [e14, e22, e26, e27]
              clear e14 e22 e26 e27 hq
              conv => arg 2; whnf
              have hnl : ¬ ((t : Int) < (t : Int)) := by omega
              go_wp2
              go_ret
              exact ⟨rfl, fresh_trans (fresh_trans F6.out F10.out) HB3.out⟩
          | _ =>
            have he := hq'.1
            cases he
      · obtain ⟨k, hkI⟩ := Int.eq_ofNat_of_zero_le (show 0 ≤ row.tmod (R : Int) by omega)
        have hk : k < R := by
          have h9 := Int.tmod_lt_of_pos row (show (0 : Int) < (R : Int) by omega)
          omega
        go_upto_region 22 with fail
        clear hneg hkI hnl hRne
        have RG := hidd (row_range HR6.out rfl)
        have RG2 : Hid (w6.rangeAt w.heap.size 0 T.toList) := by rw [HT.out]; exact RG.out
        clear RG
        have HCW : Hid (Calls Try.prog 19 #[.agg T] w6 fun e w' => ∃ y, e = .returned (.agg (wtA y)) ∧ Cpy w6 w' x y ∧ NoQ x y x.mn) := by
          show Calls _ _ _ _ _
          rw [HT.out]
          exact copyW_off (HX.out.fresh F6.out) (HMP.out.2.b HMP.out.1)
        go_wp2_with (refine wpList_load_mid rfl 46 _ rfl w.heap.size 0 rfl T.toList _ RG2.out Try.underlying46 rfl SL.out ?_)
        refine HCW.out.mono ?_
        rintro e w7 ⟨y, rfl, hcp, hnq⟩
        have HCP := hidd hcp
        have HNQ := hidd hnq
        clear hcp hnq HCW RG2
        obtain ⟨T9, hT9⟩ : ∃ T9, T9 = wtA y := ⟨_, rfl⟩
        rw [← hT9]
        have S18 : Hid ((Try.prog.info? 46).map (·.size) = some T9.size) := by rw [hT9]; exact sizeW
        have SL9 : Hid ((Try.prog.info? 46).map (·.size) = some T9.toList.length) := by rw [hT9]; exact sizeW
        have H1 : Hid (T9.all (·.oneCell') = true) := by rw [hT9]; exact wtA_one y
        have HOZ : Hid ((#[.int .i64 0, .int .i64 0, .int .i64 0, .int .i64 0, .int .i64 0, .int .i64 0, .int .i64 0, .int .i64 0, .int .i64 0, .int .i64 0, .slice none 0 0, .slice none 0 0, .slice none 0 0, .slice none 0 0, .int .i64 0, .int .i64 0, .slice none 0 0, .slice none 0 0] : Array Value).size = T9.size) := by rw [hT9]; rfl
        have HZH : Hid ((w7.alloc (.cells #[.int .i64 0, .int .i64 0, .int .i64 0, .int .i64 0, .int .i64 0, .int .i64 0, .int .i64 0, .int .i64 0, .int .i64 0, .int .i64 0, .slice none 0 0, .slice none 0 0, .slice none 0 0, .slice none 0 0, .int .i64 0, .int .i64 0, .slice none 0 0, .slice none 0 0] 46)).heap[w7.heap.size]? = some (.cells #[.int .i64 0, .int .i64 0, .int .i64 0, .int .i64 0, .int .i64 0, .int .i64 0, .int .i64 0, .int .i64 0, .int .i64 0, .int .i64 0, .slice none 0 0, .slice none 0 0, .slice none 0 0, .slice none 0 0, .int .i64 0, .int .i64 0, .slice none 0 0, .slice none 0 0] 46 (0, 0))) := heap_new _ _
        have HEQ : Hid ((w7.alloc (.cells #[.int .i64 0, .int .i64 0, .int .i64 0, .int .i64 0, .int .i64 0, .int .i64 0, .int .i64 0, .int .i64 0, .int .i64 0, .int .i64 0, .slice none 0 0, .slice none 0 0, .slice none 0 0, .slice none 0 0, .int .i64 0, .int .i64 0, .slice none 0 0, .slice none 0 0] 46)).setRow w7.heap.size T9 = w7.alloc (.cells T9 46)) := World.setRow_alloc_new _ _ _ _
        have HRW : Hid ((w7.alloc (.cells T9 46)).rowIs w7.heap.size 46 18 (wtc y)) := by rw [hT9]; exact World.rowIs_list w7 (wtL y) 46
        have f8 := fresh_alloc w7 (.cells T9 46)
        have HT9 := hidd hT9
        clear hT9
        go_upto_region 23 with (refine wpList_store_row rfl 46 _ _ rfl w7.heap.size T9 rfl rfl 46 _ HZH.out S18.out HOZ.out H1.out ?_)
        rw [HEQ.out]
        clear HEQ HZH HOZ H1 S18
        generalize w7.alloc (.cells T9 46) = w8 at *
        have hQn : y.Q.n = R * C := by rw [HCP.out.bs.Q.2.2.1]; exact HQN.out
        have hQ0 : 0 < y.Q.n := by
          rw [hQn]
          exact Nat.mul_pos hR1 hC1
        obtain ⟨g, hQO, hg1, hg2, _, _⟩ := Own.at_ HCP.out.Q hQ0
        have hg3 : w7.heap.size ≠ g := by omega
        have HS0 : Hid (R2 w8 w8 x y g w7.heap.size C k x.Q.f) := by
          refine hidd ⟨?_, HRW.out, fun _ _ => rfl, rfl, fun _ _ => rfl, fun j hj => ?_⟩
          · have h9 := (Own.kept HCP.out.Q f8).weaken (Nat.zero_le _)
            rw [← hQO]
            rw [HCP.out.bs.Q.2.2.2] at h9
            exact h9
          · rw [HCP.out.bs.Q.2.2.1] at hj
            exact ⟨HMP.out.2.Q.1.2 j hj, (HX.out.Q.bd j hj).2⟩
        have HF8 := hidd f8
        have HB8 : Hid (Below w6.heap.size w6 w8) := fresh_trans HCP.out.low f8
        have hqb : y.Q.n ≤ 1048576 := by rw [HCP.out.bs.Q.2.2.1]; exact (HMP.out.2.b HMP.out.1).Q
        have HQO := hidd hQO
        have HQn := hidd hQn
        have hg4 : w6.heap.size ≤ g := by omega
        clear f8 HRW hQO hQn hQ0 hg1 hg2
        go_wp2
        refine loop_invP (c := loopR2) (fun q a wz => ∃ (i : Nat) (qf : Nat → Int), q + i = min C no ∧ LR2 w7.heap.size oo no oc hu C hcc bl R k i a ∧ Hid (R2 w8 wz x y g w7.heap.size C k qf) ∧ Hid (Below w6.heap.size w6 wz)) (min C no) ⟨0, x.Q.f, by omega, LR2.of rfl rfl rfl rfl rfl rfl rfl (by first | rfl | simp), HS0.out, HB8.out⟩ ?_
        clear HS0 HB8
        rintro q a wr ⟨i, qf, hq, ha, HS, HB⟩
        by_cases hlt : i < C ∧ i < no
        · refine then_only (fun _ _ h => h) (roundR2 HS HQO.out HQn.out hk hg3 hqb (hidd ((HOT.out.fresh F6.out).fresh HB.out)) HOB hlt.1 hlt.2 hg4 a ha _ (hidd fun a' w' qf' h1 h2 h3 => ?_))
          exact ⟨q - 1, by omega, i + 1, qf', by omega, h1, h2, HB.out.trans h3⟩
        · refine Code.wp_mono ?_ (exitR2 hlt a ha)
          intro e a' w' hq'
          cases e with
          | normal => exact hq'.elim
          | exit m9 =>
            obtain ⟨he, hf', hw'⟩ := hq'
            cases he
            subst hw'
            obtain ⟨u, e3, e13, e14, e18, e22, e23, e24, rfl⟩ := hf'
            rw [e3, e13, e14, e18, e22, e23, e24]
            clear e3 e13 e14 e18 e22 e23 e24 hq ha hlt
            obtain ⟨m, hm⟩ : ∃ m : MtD, m = { y.Q with f := qf } := ⟨_, rfl⟩
            obtain ⟨v, hv⟩ : ∃ v : WtD, v = { y with Q := m } := ⟨_, rfl⟩
            have HV : Hid (WtR w' v ∧ v.may ∧ WtP v ∧ v.V = (R : Int) ∧ v.W = (C : Int) ∧ v.Q.f = qf) := by
              obtain ⟨a1, a2, _⟩ := HCP.out.bs.cfg
              have h1 := HCP.out.sm.may HMP.out.1
              have h2 := HCP.out.sm.wtp HMP.out.2
              have hmr : MtR w' m := by
                rw [hm]
                exact ⟨by have := HS.out.own.rda; rw [← HQO.out] at this; exact this, fun i hi => ⟨by have h9 := (HS.out.bd i hi).1; show -128 ≤ qf i; omega, (HS.out.bd i hi).2⟩⟩
              have h3 := (HCP.out.v.fresh HF8.out).but HX.out HNQ.out HQO.out HS.out.but m hmr
              have hQi : m.isa y.V y.W := by
                rw [hm]
                have h9 := h2.Q
                exact ⟨⟨h9.1.1, fun i hi => (HS.out.bd i hi).1⟩, h9.2⟩
              rw [hv]
              exact ⟨h3, h1, ⟨h2.E, hQi, h2.F, h2.T, h2.yn, h2.mn, h2.y, h2.m⟩, a1.trans HVW.out.1, a2.trans HVW.out.2, by rw [hm]⟩
            have RG : Hid (w'.rangeAt w7.heap.size 0 T9.toList) := by rw [HT9.out]; exact row_range HS.out.box rfl
            have HNW : Hid (Calls Try.prog 20 #[.agg T9] w' fun e w9 => ∃ y' g, e = .returned (.tuple #[.pointer (some ⟨g, 0, none⟩), .int .i64 0]) ∧ Mdl w9 g v y' ∧ w'.heap.size ≤ g ∧ Below w'.heap.size w' w9) := by
              have h9 := new_ok HV.out.1 HV.out.2.1 HV.out.2.2.1
              have e9 : T9 = wtA v := by rw [HT9.out, hv, hm]; rfl
              show Calls _ _ _ _ _
              rw [e9]
              exact h9
            have HSAME : Hid (∀ t, t ≠ k → mv qf (fitF f n) C t = mv x.Q.f (fitF f n) C t) := fun t ht => by
              unfold mv
              refine dot_congr (fun c hc => HS.out.same _ ?_) (fun _ _ => rfl)
              have h9 : 0 < C := hC1
              rw [Nat.mul_comm, Nat.mul_add_div h9, Nat.div_eq_of_lt hc, Nat.add_zero]
              exact ht
            have HB' := HB
            clear hm hv HS HCP HNQ HF8 HQO HQn
            go_wp2_with (refine wpList_load_mid rfl 46 _ rfl w7.heap.size 0 rfl T9.toList _ RG.out Try.underlying46 rfl SL9.out ?_)
            refine HNW.out.mono ?_
            rintro e w9 ⟨y', g', rfl, hmd, _, f9⟩
            have HM9 := hidd hmd
            have F9 := hidd (HB'.out.trans (f9.mono HB'.out.size))
            clear hmd f9 HNW RG SL9
            have HLG : Hid (Calls Try.prog 17 #[.pointer (some ⟨g', 0, none⟩), .slice hu C hcc] w9 fun e w' => ∃ b F, e = .returned (.tuple #[.slice (some ⟨b, 0, none⟩) R R, .int .i64 0]) ∧ w9.heap.size ≤ b ∧ w'.rowIs b 2 R F ∧ (∀ r, r < R → F r = .int .i64 (mv qf (fitF f n) C r)) ∧ Below w9.heap.size w9 w') := by
              have h9 := HV.out
              have := logits_ok HM9.out (HM9.out.b h9.2.1 h9.2.2.1) h9.2.2.2.1 h9.2.2.2.2.1 hR2 h9.2.2.1.Q (HO6.out.fresh F9.out) (fun i _ => fitF_bd HG.out i)
              rw [h9.2.2.2.2.2] at this
              exact this
            go_wp2_with fail
            refine HLG.out.mono ?_
            rintro e w10 ⟨bq, F, rfl, _, hrow, hF, f10⟩
            have HRQ := hidd ((rowIs_rd hrow (by unfold maxLen; omega)).congr (cs' := fun r => .int .i64 (mv qf (fitF f n) C r)) (fun j hj => hF j (by omega)))
            have F10 := hidd (fresh_trans F9.out f10)
            have HRL := hidd (HL6.out.fresh F10.out)
            clear HLG HM9 f10 hrow hF F9 HV HB'
            go_wp2
            refine loop_invP (c := loopR3) (fun q a wz => ∃ t : Nat, q + t = R ∧ LR3 bl bq R k t a ∧ Hid (Below w10.heap.size w10 wz)) R ⟨0, by omega, LR3.of rfl rfl rfl rfl (by first | rfl | simp), Below.refl _ _⟩ ?_
            rintro q a wr ⟨t, hq, ha, HB3⟩
            by_cases hlt : t < R
            · refine then_only (fun _ _ h => h) (roundR3 (hidd (HRL.out.fresh HB3.out)) (hidd (HRQ.out.fresh HB3.out)) hR2 hlt (hidd (HSAME.out t)) a ha _ (hidd fun a' n' h1 => ?_))
              exact ⟨q - 1, by omega, t + 1, by omega, h1, fresh_trans HB3.out (fresh_drewN _ _)⟩
            · obtain rfl : t = R := by omega
              obtain ⟨u, e14, e22, e26, e27, rfl⟩ := ha
              rw [e14, e22, e26, e27]
              clear e14 e22 e26 e27 hq
              conv => arg 2; whnf
              have hnl : ¬ ((t : Int) < (t : Int)) := by omega
              go_wp2
              go_ret
              exact ⟨rfl, fresh_trans (fresh_trans F6.out F10.out) HB3.out⟩
          | _ =>
            have he := hq'.1
            cases he
  · have hie : ∃ er, IsE x er ∧ er ≠ 0 := by
      by_cases hm : x.may
      · exact ⟨41, .inr (.inl ⟨hm, fun hp => hfit ⟨hm, hp⟩, rfl⟩), by decide⟩
      · exact ⟨40, .inl ⟨hm, rfl⟩, by decide⟩
    obtain ⟨er, he, h0⟩ := hie
    have HMD : Hid (∀ z, Below w.heap.size w z → Calls Try.prog 15 #[.agg T] z fun e w' => e = .returned (.tuple #[.pointer none, .bool false, .bool true]) ∧ Below z.heap.size z w') := fun z hz => by rw [HT.out]; exact made_bad (HX.out.fresh hz) he h0
    clear he h0 hfit
    go_enter Try.func6, Try.ntmps6
    go_upto_region 1 with fail
    have HR1 := hidd (HR.out)
    generalize hwa : w.alloc (.cells #[.int .i64 x.V, .int .i64 x.W, .int .i64 x.H, .int .i64 x.K, .int .i64 x.L, .int .i64 x.D, .int .i64 x.N, .int .i64 x.M, .int .i64 x.E.R, .int .i64 x.E.C, .slice x.E.O x.E.n x.E.c, .slice x.tO x.tn x.tc, .slice x.yO x.yn x.yc, .slice x.F.O x.F.n x.F.c, .int .i64 x.Q.R, .int .i64 x.Q.C, .slice x.Q.O x.Q.n x.Q.c, .slice x.mO x.mn x.mc] 46) = wa at *
    clear hwa HR
    go_wp2_with fail
    refine (HFX.out _).mono ?_
    rintro e w0 ⟨rfl, f0⟩
    have F0 := hidd (fresh_trans f1 f0)
    have RG := hidd (HRG.out w0 f0)
    have HR0 := hidd (row_fresh HR1.out f0)
    clear f1 f0 HR1
    go_wp2_with (refine wpList_load_mid rfl 46 _ rfl w.heap.size 0 rfl T.toList _ RG.out Try.underlying46 rfl SL.out ?_)
    refine (HMD.out _ F0.out).mono ?_
    rintro e w1 ⟨rfl, f2⟩
    have F1 := hidd (fresh_trans F0.out f2)
    clear f2 HMD RG SL F0
    go_wp2
    go_ret
    exact ⟨rfl, F1.out⟩
end Go.Proofs.Ytlnbbnojkpdccaa
namespace Go.Proofs.Ytlnbbnojkpdccaa
open Go.ChangeShapes Go.WideShapes Go.ChangeAt Go.RowKit Go.Deep
/-! The law HeadsRows, from what came in. -/
set_option maxRecDepth 100000 in
theorem headsRows_walk {H : Type} {enc : TypeId × Value → H} {base : Nat} {sp : Nat → Bool} {held : Bool} {r : Reach} {b0 b1 b3 : Nat} {v0 v1 v3 : Value} {d0 d1 d3 : DataW H} {ps0 ps1 ps3 : List MemPlace} (a2 : Int) (W : World)
    (hval0 : Value.okWide Try.prog W r b0 46 v0) (h0 : DataW.Trod enc Try.prog W base sp held 46 v0 d0 ps0) (hval1 : Value.okWide Try.prog W r b1 39 v1) (h1 : DataW.Trod enc Try.prog W base sp held 39 v1 d1 ps1)
    (_ : -9223372036854775808 ≤ a2) (_ : a2 ≤ 9223372036854775807) (hval3 : Value.okWide Try.prog W r b3 39 v3) (h3 : DataW.Trod enc Try.prog W base sp held 39 v3 d3 ps3) :
    Calls Try.prog 6 #[v0, v1, .int .i64 a2, v3] W fun e w' => e = .returned (.bool true) ∧ Below W.heap.size W w' := by
  obtain ⟨x, rfl, hx⟩ := open_weights hval0 h0
  obtain ⟨l, rfl, hl⟩ := open_narrow hval1 h1
  obtain ⟨o, rfl, ho⟩ := open_narrow hval3 h3
  exact rows_law hx hl.rd hl.bd a2 ho.rd ho.bd
end Go.Proofs.Ytlnbbnojkpdccaa
