import Derived.Test.YtilghknalbhacaaCpH
import Derived.Test.YtilghknalbhacaaCpE
import Derived.Test.YtilghknalbhacaaCpD
import Derived.Test.YtilghknalbhacaaEVX
import Derived.Deep.DeepCutAuto
namespace Go.Proofs.Ytilghknalbhacaa
open Go.RowKit
/-! ModelDecodes: the walk, over what its calls give. -/
def tlL : List Int := (List.range 64).map (fun (i : Nat) => 200 + (i : Int) % 3)
theorem tlL_len : tlL.length = 64 := by simp [tlL]
theorem tlL_at {i : Nat} (h : i < 64) : tlL.getD i 0 = 200 + (i : Int) % 3 := by
  unfold tlL
  rw [List.getD_eq_getElem?_getD, List.getElem?_map, List.getElem?_range h]
  rfl
set_option maxRecDepth 100000 in
set_option maxHeartbeats 8000000 in
theorem decodes_core {w : World} {ao : Option Addr} {cap nB : Nat} {B : List Int} {er : Int} (PP : World → WtD → Prop) (QQ : World → Option Addr → Prop) (hnB : nB = B.length) (hB : RdA w ao 1 nB cap (bV B)) (l1 : nB ≤ 140737488351232)
    (hPP : ∀ z z' x, PP z x → Below z.heap.size z z' → PP z' x) (hQQ : ∀ z z' p, QQ z p → Below z.heap.size z z' → QQ z' p)
    (hw : ∀ z, Calls Try.prog 11 #[] z fun e w' => e = .returned (.bool true) ∧ Below z.heap.size z w')
    (hcp : ∀ z u c, RdA z u 1 nB c (bV B) → Calls Try.prog 26 #[.slice u nB c] z fun e w' => ∃ q, e = .returned q ∧ Own w' z.heap.size 5 1 q nB (bV B) ∧ Below z.heap.size z w')
    (hdec : ∀ z u c, RdA z u 1 nB c (bV B) → Calls Try.prog 13 #[.slice u nB c] z fun e w' => ∃ x, e = .returned (.tuple #[.agg (wtA x), .int .i64 er]) ∧ PP w' x ∧ Below z.heap.size z w')
    (hrdc : ∀ z u c, RdA z u 1 nB c (bV B) → Calls Try.prog 27 #[.slice u nB c] z fun e w' => ∃ x, e = .returned (.tuple #[.agg (wtA x), .int .i64 er]) ∧ PP w' x ∧ Below z.heap.size z w')
    (hld : ∀ z u c, RdA z u 1 nB c (bV B) → Calls Try.prog 14 #[.slice u nB c] z fun e w' => ∃ p, e = .returned (.tuple #[.pointer p, .int .i64 er]) ∧ QQ w' p ∧ Below z.heap.size z w')
    (hmw : ∀ z p, QQ z p → Calls Try.prog 15 #[.pointer p] z fun e w' => ∃ x, e = .returned (.agg (wtA x)) ∧ PP w' x ∧ Below z.heap.size z w')
    (hpq : ∀ z p, QQ z p → (er = 0 ∧ ∃ g, p = some ⟨g, 0, none⟩) ∨ (er = 42 ∧ p = none))
    (heq : ∀ z x y, PP z x → PP z y → Calls Try.prog 16 #[.agg (wtA x), .agg (wtA y)] z fun e w' => e = .returned (.bool true) ∧ Below z.heap.size z w')
    (hqb : ∀ z u v c d, RdA z u 1 nB c (bV B) → RdA z v 1 nB d (bV B) → Calls Try.prog 17 #[.slice u nB c, .slice v nB d] z fun e w' => e = .returned (.bool true) ∧ Below z.heap.size z w') :
    Calls Try.prog 8 #[.slice ao nB cap] w fun e w' => e = .returned (.bool true) ∧ Below w.heap.size w w' := by
  have HB := hidd hB
  have HPP := hidd hPP
  have HQQ := hidd hQQ
  have HW := hidd hw
  have HCP := hidd hcp
  have HDEC := hidd hdec
  have HRDC := hidd hrdc
  have HLD := hidd hld
  have HMW := hidd hmw
  have HPQ := hidd hpq
  have HEQ := hidd heq
  have HQB := hidd hqb
  have HNB := hidd hnB
  clear hB hPP hQQ hw hcp hdec hrdc hld hmw hpq heq hqb hnB
  go_enter Try.func8, Try.ntmps8
  go_upto_region 2 with (go_at_call 11; refine (HW.out _).mono ?_; rintro e w1 ⟨rfl, f1⟩; have HB1 := hidd (HB.out.fresh f1); have F1 := hidd f1; clear f1)
  go_upto_region 3 with (go_at_call 26; refine (HCP.out _ _ _ HB1.out).mono ?_; rintro e w2 ⟨q2, rfl, ho2, f2⟩; have HO2 := hidd ho2; have F2 := hidd f2; clear ho2 f2)
  clear HW HCP
  go_wp2_with fail
  go_loopw [4, 5] (fun v4 v5 wr => ∃ i : Nat, i ≤ 64 ∧ v5 = .int .i64 i ∧ Hid (Own wr w1.heap.size 5 1 v4 (nB + i) (bV (B ++ tlL))) ∧ Hid (Below w1.heap.size w1 wr)) (fun _ v5 _ => 64 - (intOf v5).toNat)
  case atStart => exact ⟨0, by omega, rfl, HO2.out.congr (fun j hj => bV_pre B tlL (by rw [← HNB.out]; omega)), F2.out⟩
  case round =>
    clear HO2 F2
    obtain ⟨i, hi, rfl, HO, HF⟩ := hrel
    have hsz := HF.out.size
    by_cases hlt : i < 64
    · have hbv : bV (B ++ tlL) (nB + i) = .int .u8 (200 + (i : Int) % 3) := by
        rw [HNB.out, bV_suf]
        unfold bV
        rw [tlL_at hlt]
      have HBV := hidd hbv
      clear hbv
      go_wp2_with (at_builtin; refine wpList_app1 _ rfl _ _ 35 rfl _ 5 (.int .u8 0) 1 Try.underlying35 infoU8 rfl _ (nB + i) _ rfl (HO.out.kept (fresh_alloc _ _)) _ 1 rfl (by rw [HBV.out]; exact new_cell _ _ _) (by rw [HBV.out]; rfl) (by omega) (by omega) (by simp; omega) ?_)
      intro v' w6 hown' happ
      have hf6 := hidd (happ.below (HF.out.alloc hsz _) (HO.out.kept (fresh_alloc _ _)) (Nat.le_refl _) (by simp; omega))
      have HO6 := hidd hown'
      clear happ hown' HO HF HBV
      go_wp2_with fail
      go_roundw
      case rel => exact ⟨i + 1, by omega, by go_num, HO6.out, hf6.out⟩
      case measure => simp [intOf]; omega
    · obtain rfl : i = 64 := by omega
      clear hlt hi
      obtain ⟨uf, cf, e4, hrf⟩ := HO.out.rd
      subst e4
      have n4 := hrf.le
      have t4 := hrf.top
      unfold maxLen at t4
      have HRF := hidd hrf
      have HBr := hidd (HB1.out.fresh HF.out)
      have F5 := hidd (fresh_trans F1.out HF.out)
      have HIN : Hid (RdA wr uf 1 nB cf (bV B)) := ⟨by omega, hrf.top, fun h0 => by
        obtain ⟨b, o, e, hc⟩ := hrf.at_ (by omega)
        refine ⟨b, o, e, fun j hj => ?_⟩
        rw [hc j (by omega), bV_pre B tlL (by rw [← HNB.out]; omega)]⟩
      clear hrf HO HF hsz HB1 F1
      have HDE := hidd (HDEC.out _ _ _ HIN.out)
      go_upto_region 9 with (first
        | (go_at_call 13; refine HDE.out.mono ?_; rintro e w3 ⟨x1, rfl, hp, f⟩; have HP1 := hidd hp; have G3 := hidd f; clear hp f)
        | (refine wpList_store_row rfl 34 _ _ rfl w3.heap.size (wtA x1) rfl rfl 34 _ (heap_new _ _) sizeW rfl (wtA_one _) ?_))
      try rw [World.setRow_alloc_new]
      try simp only [Act.put]
      have f3 := fresh_alloc w3 (.cells (wtA x1) 34)
      have HP1' := hidd (HPP.out _ _ _ HP1.out f3)
      have HR1 : Hid ((w3.alloc (.cells (wtA x1) 34)).rowIs w3.heap.size 34 18 (wtc x1)) := World.rowIs_list w3 (wtL x1) 34
      have G4 := hidd (fresh_trans G3.out f3)
      clear HDE HP1 f3 G3 HDEC
      generalize (w3.alloc (.cells (wtA x1) 34)) = w4 at *
      generalize w3.heap.size = b1 at *
      have HLO := hidd (HLD.out _ _ _ (HIN.out.fresh G4.out))
      go_upto_region 10 with (go_at_call 14; refine HLO.out.mono ?_; rintro e w5 ⟨p, rfl, hq, f⟩; have HQ5 := hidd hq; have H5 := hidd f; clear hq f)
      have HP5 := hidd (HPP.out _ _ _ HP1'.out H5.out)
      have HR5 := hidd (row_fresh HR1.out H5.out)
      have G5 := hidd (fresh_trans G4.out H5.out)
      clear HLO HP1' HR1 G4 H5 HLD
      have HRD := hidd (HRDC.out _ _ _ (HBr.out.fresh G5.out))
      go_upto_region 11 with (first
        | (go_at_call 27; refine HRD.out.mono ?_; rintro e w6 ⟨x2, rfl, hp, f⟩; have HP6 := hidd hp; have H6 := hidd f; clear hp f)
        | (refine wpList_store_row rfl 34 _ _ rfl w6.heap.size (wtA x2) rfl rfl 34 _ (heap_new _ _) sizeW rfl (wtA_one _) ?_))
      try rw [World.setRow_alloc_new]
      try simp only [Act.put]
      have f6 := fresh_alloc w6 (.cells (wtA x2) 34)
      have H7 := hidd (fresh_trans H6.out f6)
      have HP2 := hidd (HPP.out _ _ _ HP6.out f6)
      have HP1 := hidd (HPP.out _ _ _ HP5.out H7.out)
      have HR1 := hidd (row_fresh HR5.out H7.out)
      have HR2 : Hid ((w6.alloc (.cells (wtA x2) 34)).rowIs w6.heap.size 34 18 (wtc x2)) := World.rowIs_list w6 (wtL x2) 34
      have HQ7 := hidd (HQQ.out _ _ _ HQ5.out H7.out)
      have G7 := hidd (fresh_trans G5.out H7.out)
      clear HRD HP6 f6 H6 HP5 HR5 HQ5 G5 H7 HRDC
      generalize (w6.alloc (.cells (wtA x2) 34)) = w7 at *
      generalize w6.heap.size = b2 at *
      have HMW7 := hidd (HMW.out _ _ HQ7.out)
      go_upto_region 12 with (first
        | (go_at_call 15; refine HMW7.out.mono ?_; rintro e w8 ⟨x3, rfl, hp, f⟩; have HP8 := hidd hp; have H8 := hidd f; clear hp f)
        | (refine wpList_store_row rfl 34 _ _ rfl w8.heap.size (wtA x3) rfl rfl 34 _ (heap_new _ _) sizeW rfl (wtA_one _) ?_))
      try rw [World.setRow_alloc_new]
      try simp only [Act.put]
      have f8 := fresh_alloc w8 (.cells (wtA x3) 34)
      have H9 := hidd (fresh_trans H8.out f8)
      have HP3 := hidd (HPP.out _ _ _ HP8.out f8)
      have HP1b := hidd (HPP.out _ _ _ HP1.out H9.out)
      have HP2b := hidd (HPP.out _ _ _ HP2.out H9.out)
      have HR1b := hidd (row_fresh HR1.out H9.out)
      have HR2b := hidd (row_fresh HR2.out H9.out)
      have HR3 : Hid ((w8.alloc (.cells (wtA x3) 34)).rowIs w8.heap.size 34 18 (wtc x3)) := World.rowIs_list w8 (wtL x3) 34
      have G9 := hidd (fresh_trans G7.out H9.out)
      clear HMW7 HP8 f8 H8 HP1 HP2 HR1 HR2 G7 H9 HMW
      generalize (w8.alloc (.cells (wtA x3) 34)) = w9 at *
      generalize w8.heap.size = b3 at *
      have hpq := HPQ.out _ _ HQ7.out
      clear HPQ HQ7 HQQ
      obtain ⟨T1, hT1⟩ : ∃ T, T = wtA x1 := ⟨_, rfl⟩
      obtain ⟨T2, hT2⟩ : ∃ T, T = wtA x2 := ⟨_, rfl⟩
      obtain ⟨T3, hT3⟩ : ∃ T, T = wtA x3 := ⟨_, rfl⟩
      have SL1 : Hid ((Try.prog.info? 34).map (·.size) = some T1.toList.length) := by rw [hT1]; exact sizeW
      have SL2 : Hid ((Try.prog.info? 34).map (·.size) = some T2.toList.length) := by rw [hT2]; exact sizeW
      have SL3 : Hid ((Try.prog.info? 34).map (·.size) = some T3.toList.length) := by rw [hT3]; exact sizeW
      have RG1 : Hid (w9.rangeAt b1 0 T1.toList) := by rw [hT1]; exact row_range (L := wtL x1) HR1b.out rfl
      have RG2 : Hid (∀ z, Below w9.heap.size w9 z → z.rangeAt b2 0 T2.toList) := fun z hz => by rw [hT2]; exact row_range (L := wtL x2) (row_fresh HR2b.out hz) rfl
      have RG3 : Hid (∀ z, Below w9.heap.size w9 z → z.rangeAt b3 0 T3.toList) := fun z hz => by rw [hT3]; exact row_range (L := wtL x3) (row_fresh HR3.out hz) rfl
      have RG2a := hidd (RG2.out w9 (Below.refl _ _))
      have HEQ1 : Hid (Calls Try.prog 16 #[.agg T1, .agg T2] w9 fun e w' => e = .returned (.bool true) ∧ Below w9.heap.size w9 w') := by rw [hT1, hT2]; exact HEQ.out _ _ _ HP1b.out HP2b.out
      have HEQ2 : Hid (∀ z, Below w9.heap.size w9 z → Calls Try.prog 16 #[.agg T3, .agg T2] z fun e w' => e = .returned (.bool true) ∧ Below z.heap.size z w') := fun z hz => by rw [hT3, hT2]; exact HEQ.out _ _ _ (HPP.out _ _ _ HP3.out hz) (HPP.out _ _ _ HP2b.out hz)
      clear hT1 hT2 hT3 HR1b HR2b HR3 HP1b HP2b HP3 HEQ HPP
      go_upto_region 13 with (first
        | refine wpList_load_mid rfl 34 _ rfl b1 0 rfl T1.toList _ RG1.out Try.underlying34 rfl SL1.out ?_
        | refine wpList_load_mid rfl 34 _ rfl b2 0 rfl T2.toList _ RG2a.out Try.underlying34 rfl SL2.out ?_
        | (go_at_call 16; refine HEQ1.out.mono ?_; rintro e wa ⟨rfl, fa⟩; have FA := hidd fa; have RG3a := hidd (RG3.out wa fa); have RG2b := hidd (RG2.out wa fa); have HEQa := hidd (HEQ2.out wa fa); clear fa HEQ1 HEQ2 RG3 RG2)
        | refine wpList_load_midG rfl 34 _ rfl b3 0 rfl T3.toList _ RG3a.out Try.underlying34 rfl SL3.out ?_
        | refine wpList_load_midG rfl 34 _ rfl b2 0 rfl T2.toList _ RG2b.out Try.underlying34 rfl SL2.out ?_
        | (go_at_call 16; refine HEQa.out.mono ?_; rintro e wb ⟨rfl, fb⟩; have FB := hidd (fresh_trans FA.out fb); clear fb)
        | fail)
      have GB := hidd (fresh_trans G9.out FB.out)
      have HRFb := hidd (HRF.out.fresh GB.out)
      have HINb := hidd (HIN.out.fresh GB.out)
      have HBb := hidd (HBr.out.fresh GB.out)
      have F9 := hidd (fresh_trans F5.out GB.out)
      clear RG1 RG2a RG3a RG2b HEQa FA FB G9 GB HRF HIN HBr F5 SL1 SL2 SL3
      go_wp2_with fail
      go_loopw [14, 15] (fun v14 v15 wr2 => ∃ i : Nat, i ≤ 64 ∧ v15 = .int .i64 i ∧ v14 = .bool true ∧ Hid (Below wb.heap.size wb wr2)) (fun _ v15 _ => 64 - (intOf v15).toNat)
      case atStart => exact ⟨0, by omega, rfl, rfl, Below.refl _ _⟩
      case round =>
        obtain ⟨i, hi, rfl, rfl, HF2⟩ := hrel
        by_cases hlt : i < 64
        · have hbv : bV (B ++ tlL) (nB + i) = .int .u8 (200 + (i : Int) % 3) := by
            rw [HNB.out, bV_suf]
            unfold bV
            rw [tlL_at hlt]
          obtain ⟨g, o, hu, hc⟩ := (HRFb.out.fresh HF2.out).at_ (by omega)
          have c1 := hc (nB + i) (by omega)
          rw [hbv] at c1
          clear hc hbv
          subst hu
          have hk1 : (0 : Int) ≤ (nB : Int) + (i : Int) := by omega
          have hk2 : ((nB : Int) + (i : Int)).toNat = nB + i := by omega
          have hk3 : (nB : Int) + (i : Int) < ((nB + 64 : Nat) : Int) := by omega
          go_wp2_with fail
          go_roundw
          case rel => exact ⟨i + 1, by omega, by go_num, rfl, HF2.out⟩
          case measure => simp [intOf]; omega
        · obtain rfl : i = 64 := by omega
          clear hlt hi
          have HQ := hidd (HQB.out _ _ _ _ _ (HINb.out.fresh HF2.out) (HBb.out.fresh HF2.out))
          have F10 := hidd (fresh_trans F9.out HF2.out)
          clear HRFb HINb HBb HQB F9 HF2
          rcases hpq with ⟨rfl, g, rfl⟩ | ⟨rfl, rfl⟩
          · go_wp2_with (go_at_call 17; refine HQ.out.mono ?_; rintro e wz ⟨rfl, fz⟩; have FZ := hidd (fresh_trans F10.out fz); clear fz)
            go_ret
            exact ⟨rfl, FZ.out⟩
          · go_wp2_with (go_at_call 17; refine HQ.out.mono ?_; rintro e wz ⟨rfl, fz⟩; have FZ := hidd (fresh_trans F10.out fz); clear fz)
            go_ret
            exact ⟨rfl, FZ.out⟩
end Go.Proofs.Ytilghknalbhacaa
