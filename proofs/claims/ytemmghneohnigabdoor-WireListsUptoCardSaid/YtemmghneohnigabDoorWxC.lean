import Derived.Test.YtemmghneohnigabDoorWX
namespace Go.Proofs.YtemmghneohnigabDoor
open Go.ChangeShapes Go.WideShapes Go.ChangeAt Go.RowKit
/-! WireLists, the law. -/
set_option maxRecDepth 20000 in
set_option maxHeartbeats 16000000 in
theorem lists_law {w : World} {text : List Int} (hB : Byt text) (hmax : text.length ≤ 35184372080000) (hE : Env w) :
    Calls Tryd.prog 4 #[.string (strOfNums text)] w fun e w' => e = .returned (.bool true) ∧ Below w.heap.size w w' := by
  obtain ⟨wd, gd, n, sd, er, t, nums, st, her, lt, ln, ls, hP, hR⟩ := par_one hB (by omega)
  obtain ⟨ub, um, ue, lu, hU, hV⟩ := unq_one hB hmax
  have HWK := hidd (works_any hE)
  have HP := hidd hP
  have HR := hidd hR
  have HU := hidd hU
  have HV := hidd hV
  have HE := hidd hE
  clear hE hB hmax hP hR hU hV
  generalize strOfNums text = tx at *
  have EQL : Hid (∀ (w1 : World) (ao bo co ao' bo' co' : Option Addr) (ac bc cc ac' bc' cc' : Nat), RdA w1 ao 1 t.length ac (byc t) → RdA w1 ao' 1 t.length ac' (byc t) → RdA w1 bo 1 nums.length bc (mkN nums) → RdA w1 bo' 1 nums.length bc' (mkN nums) → RdA w1 co 1 st.length cc (stc st) → RdA w1 co' 1 st.length cc' (stc st) → Calls Tryd.prog 8 #[.agg (lnA wd n ao t.length ac bo nums.length bc sd gd co st.length cc), .agg (lnA wd n ao' t.length ac' bo' nums.length bc' sd gd co' st.length cc')] w1 fun e w' => e = .returned (.bool true) ∧ Below w1.heap.size w1 w') :=
    fun w1 ao bo co ao' bo' co' ac bc cc ac' bc' cc' a1 a2 a3 a4 a5 a6 => eqLines_same (f := fun i => t.getD i 0) (h := fun i => nums.getD i 0) (s := fun i => strOfNums (st.getD i [])) a1 a2 a3 a4 a5 a6
  have EQB : Hid (∀ (w1 : World) (ao bo : Option Addr) (ac bc : Nat), RdA w1 ao 1 ub.length ac (byc ub) → RdA w1 bo 1 ub.length bc (byc ub) → Calls Tryd.prog 11 #[.slice ao ub.length ac, .slice bo ub.length bc] w1 fun e w' => e = .returned (.bool true) ∧ Below w1.heap.size w1 w') :=
    fun w1 ao bo ac bc a1 a2 => eqBytes_same (f := fun i => ub.getD i 0) (g := fun i => ub.getD i 0) a1 a2 (fun _ _ => rfl)
  generalize byc t = ct at *
  generalize mkN nums = cn at *
  generalize stc st = cst at *
  generalize byc ub = cu at *
  generalize t.length = tl at *
  generalize nums.length = nl at *
  generalize st.length = sl at *
  generalize ub.length = ul at *
  clear t nums st ub text
  go_enter Tryd.func4, Tryd.ntmps4
  go_upto_region 2 with (go_at_call 5; with_reducible refine (HWK.out).mono ?_; rintro e w1 ⟨rfl, f1⟩; have F1 := hidd f1; have K1 := hidd (HR.out w1); clear f1 HWK)
  go_upto_region 3 with (go_at_call 7; (with_reducible refine (K1.out).mono ?_); rintro e w2 ⟨ao2, ac2, bo2, bc2, co2, cc2, rfl, oa2, ob2, oc2, f2⟩)
  have fa := fresh_alloc w2 (.cells (lnA wd n ao2 tl ac2 bo2 nl bc2 sd gd co2 sl cc2) 32)
  have I2 : Hid (LnI (w2.alloc (.cells (lnA wd n ao2 tl ac2 bo2 nl bc2 sd gd co2 sl cc2) 32)) w1.heap.size (lnA wd n ao2 tl ac2 bo2 nl bc2 sd gd co2 sl cc2) w2.heap.size 32 (.slice ao2 tl ac2) (.slice bo2 nl bc2) (.slice co2 sl cc2) tl nl sl ct cn cst) := ⟨Blk.new w2 32 (lnA wd n ao2 tl ac2 bo2 nl bc2 sd gd co2 sl cc2), oa2.kept fa, ob2.kept fa, oc2.kept fa⟩
  have z2 : (w2.alloc (.cells (lnA wd n ao2 tl ac2 bo2 nl bc2 sd gd co2 sl cc2) 32)).heap.size = w2.heap.size + 1 := by simp
  have GT2 : Hid (Rng w1.heap.size w2.heap.size (.slice ao2 tl ac2)) := oa2.lt
  have GN2 : Hid (Rng w1.heap.size w2.heap.size (.slice bo2 nl bc2)) := ob2.lt
  have GS2 : Hid (Rng w1.heap.size w2.heap.size (.slice co2 sl cc2)) := oc2.lt
  have s2 := f2.size
  have f2' := fresh_trans f2 fa
  have F3 := hidd (fresh_trans F1.out f2')
  clear oa2 ob2 oc2 f2 fa K1 F1
  generalize w2.alloc (.cells (lnA wd n ao2 tl ac2 bo2 nl bc2 sd gd co2 sl cc2) 32) = w3 at *
  obtain ⟨l4, el4⟩ : ∃ l, l = w2.heap.size := ⟨_, rfl⟩
  rw [← el4] at I2 ⊢
  have El4 := hidd el4
  clear el4
  clear f2'
  have K3 := hidd (HV.out w3)
  go_upto_region 4 with (go_at_call 9; (with_reducible refine (K3.out).mono ?_); rintro e w4 ⟨uo, uc, rfl, ou, f4⟩)
  have J2 := hidd (I2.out.fresh f4)
  have OU := hidd ou
  have GU : Hid (Rng w3.heap.size w4.heap.size (.slice uo ul uc)) := ou.lt
  have F4 := hidd (fresh_trans F3.out f4)
  have s4 := f4.size
  have sww4 := F4.out.size
  have K4 := hidd (HP.out w4 (HE.out.fresh F4.out))
  clear ou f4 I2 F3 K3
  go_upto_region 5 with (go_at_call 6; (with_reducible refine (K4.out).mono ?_); rintro e w5 ⟨ao5, ac5, bo5, bc5, co5, cc5, rfl, oa5, ob5, oc5, f5⟩)
  have fa := fresh_alloc w5 (.cells (lnA wd n ao5 tl ac5 bo5 nl bc5 sd gd co5 sl cc5) 28)
  have I5 : Hid (LnI (w5.alloc (.cells (lnA wd n ao5 tl ac5 bo5 nl bc5 sd gd co5 sl cc5) 28)) w4.heap.size (lnA wd n ao5 tl ac5 bo5 nl bc5 sd gd co5 sl cc5) w5.heap.size 28 (.slice ao5 tl ac5) (.slice bo5 nl bc5) (.slice co5 sl cc5) tl nl sl ct cn cst) := ⟨Blk.new w5 28 (lnA wd n ao5 tl ac5 bo5 nl bc5 sd gd co5 sl cc5), oa5.kept fa, ob5.kept fa, oc5.kept fa⟩
  have z5 : (w5.alloc (.cells (lnA wd n ao5 tl ac5 bo5 nl bc5 sd gd co5 sl cc5) 28)).heap.size = w5.heap.size + 1 := by simp
  have GT5 : Hid (Rng w4.heap.size w5.heap.size (.slice ao5 tl ac5)) := oa5.lt
  have GN5 : Hid (Rng w4.heap.size w5.heap.size (.slice bo5 nl bc5)) := ob5.lt
  have GS5 : Hid (Rng w4.heap.size w5.heap.size (.slice co5 sl cc5)) := oc5.lt
  have s5 := f5.size
  have f5' := fresh_trans f5 fa
  have F6 := hidd (fresh_trans F4.out f5')
  clear oa5 ob5 oc5 f5 fa K4 F4
  generalize w5.alloc (.cells (lnA wd n ao5 tl ac5 bo5 nl bc5 sd gd co5 sl cc5) 28) = w6 at *
  obtain ⟨l9, el9⟩ : ∃ l, l = w5.heap.size := ⟨_, rfl⟩
  rw [← el9] at I5 ⊢
  have El9 := hidd el9
  clear el9
  have M2 := hidd (J2.out.fresh f5')
  have OU6 := hidd (OU.out.kept f5')
  clear J2 OU f5'
  have K6 := hidd (HP.out w6 (HE.out.fresh F6.out))
  go_upto_region 6 with (go_at_call 6; (with_reducible refine (K6.out).mono ?_); rintro e w7 ⟨ao7, ac7, bo7, bc7, co7, cc7, rfl, oa7, ob7, oc7, f7⟩)
  have fa := fresh_alloc w7 (.cells (lnA wd n ao7 tl ac7 bo7 nl bc7 sd gd co7 sl cc7) 28)
  have I7 : Hid (LnI (w7.alloc (.cells (lnA wd n ao7 tl ac7 bo7 nl bc7 sd gd co7 sl cc7) 28)) w6.heap.size (lnA wd n ao7 tl ac7 bo7 nl bc7 sd gd co7 sl cc7) w7.heap.size 28 (.slice ao7 tl ac7) (.slice bo7 nl bc7) (.slice co7 sl cc7) tl nl sl ct cn cst) := ⟨Blk.new w7 28 (lnA wd n ao7 tl ac7 bo7 nl bc7 sd gd co7 sl cc7), oa7.kept fa, ob7.kept fa, oc7.kept fa⟩
  have z7 : (w7.alloc (.cells (lnA wd n ao7 tl ac7 bo7 nl bc7 sd gd co7 sl cc7) 28)).heap.size = w7.heap.size + 1 := by simp
  have GT7 : Hid (Rng w6.heap.size w7.heap.size (.slice ao7 tl ac7)) := oa7.lt
  have GN7 : Hid (Rng w6.heap.size w7.heap.size (.slice bo7 nl bc7)) := ob7.lt
  have GS7 : Hid (Rng w6.heap.size w7.heap.size (.slice co7 sl cc7)) := oc7.lt
  have s7 := f7.size
  have f7' := fresh_trans f7 fa
  have F8 := hidd (fresh_trans F6.out f7')
  clear oa7 ob7 oc7 f7 fa K6 F6
  generalize w7.alloc (.cells (lnA wd n ao7 tl ac7 bo7 nl bc7 sd gd co7 sl cc7) 28) = w8 at *
  obtain ⟨l11, el11⟩ : ∃ l, l = w7.heap.size := ⟨_, rfl⟩
  rw [← el11] at I7 ⊢
  have El11 := hidd el11
  clear el11
  have N2 := hidd (M2.out.fresh f7')
  have N5 := hidd (I5.out.fresh f7')
  have OU8 := hidd (OU6.out.kept f7')
  clear M2 I5 OU6 f7'
  have K8 := hidd (HU.out w8 (HE.out.fresh F8.out))
  go_upto_region 7 with (go_at_call 10; (with_reducible refine (K8.out).mono ?_); rintro e w9 ⟨co, cc, rfl, oc, f9⟩)
  have GC : Hid (Rng w8.heap.size w9.heap.size (.slice co ul cc)) := oc.lt
  have OC := hidd oc
  have s9 := f9.size
  have F9 := hidd (fresh_trans F8.out f9)
  have O2 := hidd (N2.out.fresh f9)
  have O5 := hidd (N5.out.fresh f9)
  have O7 := hidd (I7.out.fresh f9)
  have OU9 := hidd (OU8.out.kept f9)
  have K9 := hidd (HU.out w9 (HE.out.fresh F9.out))
  clear N2 N5 I7 OU8 F8 K8 oc f9
  go_upto_region 8 with (go_at_call 10; (with_reducible refine (K9.out).mono ?_); rintro e w10 ⟨dO, dc, rfl, od, f10⟩)
  have GD : Hid (Rng w9.heap.size w10.heap.size (.slice dO ul dc)) := od.lt
  have sX := f10.size
  have FX := hidd (fresh_trans F9.out f10)
  have R2 := hidd (O2.out.fresh f10)
  have A0 := hidd (O5.out.fresh f10)
  have B0 := hidd (O7.out.fresh f10)
  have U0 := hidd (OU9.out.kept f10)
  have C0 := hidd (OC.out.kept f10)
  have D0 := hidd od
  clear O2 O5 O7 OU9 OC F9 K9 od f10 HU HV HR
  have sw := FX.out.size
  obtain ⟨S, ES⟩ : ∃ S : Nat → Prop, Hid (S = fun b => (w4.heap.size ≤ b ∧ b < w5.heap.size) ∨ (w8.heap.size ≤ b ∧ b < w9.heap.size)) := ⟨_, rfl⟩
  have SA : Hid (∀ k, w4.heap.size ≤ k → k < w5.heap.size → S k) := fun k h1 h2 => by rw [ES.out]; exact .inl ⟨h1, h2⟩
  have SC : Hid (∀ k, w8.heap.size ≤ k → k < w9.heap.size → S k) := fun k h1 h2 => by rw [ES.out]; exact .inr ⟨h1, h2⟩
  have KEEP : Hid (∀ w' : World, Chg w10 w' S → LnI w' w1.heap.size (lnA wd n ao2 tl ac2 bo2 nl bc2 sd gd co2 sl cc2) l4 32 (.slice ao2 tl ac2) (.slice bo2 nl bc2) (.slice co2 sl cc2) tl nl sl ct cn cst ∧ Blk w' l9 28 (lnA wd n ao5 tl ac5 bo5 nl bc5 sd gd co5 sl cc5) ∧ LnI w' w6.heap.size (lnA wd n ao7 tl ac7 bo7 nl bc7 sd gd co7 sl cc7) l11 28 (.slice ao7 tl ac7) (.slice bo7 nl bc7) (.slice co7 sl cc7) tl nl sl ct cn cst ∧ Own w' w3.heap.size 5 1 (.slice uo ul uc) ul cu ∧ Own w' w9.heap.size 5 1 (.slice dO ul dc) ul cu ∧ Below w.heap.size w w') := fun w' c => by
    have q4 := El4.out
    have q9 := El9.out
    have q11 := El11.out
    have hno : ∀ k, ¬ (w4.heap.size ≤ k ∧ k < w5.heap.size) → ¬ (w8.heap.size ≤ k ∧ k < w9.heap.size) → ¬ S k := fun k h1 h2 => by rw [ES.out]; exact fun h => h.elim h1 h2
    refine ⟨R2.out.chg c (hno _ (by omega) (by omega)) (GT2.out.no fun k h1 h2 => hno k (by omega) (by omega)) (GN2.out.no fun k h1 h2 => hno k (by omega) (by omega)) (GS2.out.no fun k h1 h2 => hno k (by omega) (by omega)), A0.out.row.chg c (hno _ (by omega) (by omega)), B0.out.chg c (hno _ (by omega) (by omega)) (GT7.out.no fun k h1 h2 => hno k (by omega) (by omega)) (GN7.out.no fun k h1 h2 => hno k (by omega) (by omega)) (GS7.out.no fun k h1 h2 => hno k (by omega) (by omega)), U0.out.chg c (GU.out.no fun k h1 h2 => hno k (by omega) (by omega)), D0.out.chg c (GD.out.no fun k h1 h2 => hno k (by omega) (by omega)), c.below FX.out sw fun x hx => by rw [ES.out] at hx; rcases hx with hx | hx <;> omega⟩
  have OAN : Hid (Off (.slice ao5 tl ac5) (.slice bo5 nl bc5)) := apart_tyW A0.out.t A0.out.n (by decide)
  have OAS : Hid (Off (.slice ao5 tl ac5) (.slice co5 sl cc5)) := apart_tyW A0.out.t A0.out.s (by decide)
  have ONS : Hid (Off (.slice bo5 nl bc5) (.slice co5 sl cc5)) := apart_tyW A0.out.n A0.out.s (by decide)
  have OAC : Hid (Off (.slice ao5 tl ac5) (.slice co ul cc)) := GT5.out.off GC.out (.inl (by omega))
  have ONC : Hid (Off (.slice bo5 nl bc5) (.slice co ul cc)) := GN5.out.off GC.out (.inl (by omega))
  have OSC : Hid (Off (.slice co5 sl cc5) (.slice co ul cc)) := GS5.out.off GC.out (.inl (by omega))
  have X0 := hidd (Chg.refl w10 S)
  clear GT2 GN2 GS2 GT7 GN7 GS7 GU GD R2 B0 U0 D0 FX ES
  go_wp2
  go_loopw [19] (fun i wr => ∃ k : Nat, k ≤ tl ∧ i = .int .i64 (k : Int) ∧ Hid (Own wr w4.heap.size 5 1 (.slice ao5 tl ac5) tl (fun j => if j < k then .int .u8 1 else ct j)) ∧ Hid (Chg w10 wr (fun b => (Value.slice ao5 tl ac5).ownBlock = some b))) (fun i _ => tl - (intOf i).toNat)
  case atStart => exact ⟨0, by omega, rfl, A0.out.t.congr (fun j _ => by
    show ct j = if j < 0 then _ else ct j
    rw [if_neg (by omega)]), Chg.refl _ _⟩
  case round =>
    obtain ⟨k, hk, rfl, HO, HC⟩ := hrel
    have HL := hidd (KEEP.out _ ((X0.out.trans (GT5.out.imp HC.out SA.out) (fun _ _ h => h)))).2.1
    have y2 := HL.out.cell 2
    simp at y2
    by_cases hlt : k < tl
    · obtain ⟨g, rfl, _, _⟩ := own_blkW HO.out (by omega)
      obtain ⟨b1, o1, e1, h1⟩ := HO.out.rdaW.one (by omega)
      cases e1
      have x1 := h1 k (by omega)
      simp only [Nat.zero_add] at x1
      have fz := own_fzW HO.out
      have k0 : (0 : Int) ≤ (k : Int) := by omega
      have k1 : (k : Int) < (tl : Int) := by omega
      have HP1 := hidd ((HO.out.putW k (.int .u8 1)).congr (cs' := fun j => if j < k + 1 then .int .u8 1 else ct j) (fun j _ => by
        show (if j = k then _ else if j < k then _ else _) = if j < k + 1 then _ else _
        by_cases h1 : j = k
        · rw [if_pos h1, if_pos (by omega)]
        · rw [if_neg h1]
          by_cases h2 : j < k
          · rw [if_pos h2, if_pos (by omega)]
          · rw [if_neg h2, if_neg (by omega)]))
      have HC2 := hidd (HC.out.trans (Chg.of_set wr g k (.int .u8 1)) (fun b _ e => by rw [e]; rfl))
      clear h1 HC HO
      go_wp2
      go_roundw
      case rel => exact ⟨k + 1, by omega, by go_num, HP1, HC2⟩
      case measure => simp [intOf]; omega
    · obtain rfl : tl = k := by omega
      rename World => w11
      have H0 : Hid (Own w11 w4.heap.size 5 1 (.slice ao5 tl ac5) tl (fun _ => .int .u8 1)) := HO.out.congr (fun j hj => by
        show (if j < tl then _ else _) = _
        rw [if_pos (by omega)])
      have A1 := H0
      have N1 := hidd (A0.out.n.chg HC.out OAN.out.symm)
      have S1 := hidd (A0.out.s.chg HC.out OAS.out.symm)
      have C1 := hidd (C0.out.chg HC.out OAC.out.symm)
      have X1 := hidd (X0.out.trans (GT5.out.imp HC.out SA.out) (fun _ _ h => h))
      clear HO HC A0 C0 X0 H0
      go_wp2
      go_loopw [20] (fun i wr => ∃ k : Nat, k ≤ ul ∧ i = .int .i64 (k : Int) ∧ Hid (Own wr w8.heap.size 5 1 (.slice co ul cc) ul (fun j => if j < k then .int .u8 2 else cu j)) ∧ Hid (Chg w11 wr (fun b => (Value.slice co ul cc).ownBlock = some b))) (fun i _ => ul - (intOf i).toNat)
      case atStart => exact ⟨0, by omega, rfl, C1.out.congr (fun j _ => by
        show cu j = if j < 0 then _ else cu j
        rw [if_neg (by omega)]), Chg.refl _ _⟩
      case round =>
        obtain ⟨k, hk, rfl, HO, HC⟩ := hrel
        by_cases hlt : k < ul
        · obtain ⟨g, rfl, _, _⟩ := own_blkW HO.out (by omega)
          obtain ⟨b1, o1, e1, h1⟩ := HO.out.rdaW.one (by omega)
          cases e1
          have x1 := h1 k (by omega)
          simp only [Nat.zero_add] at x1
          have fz := own_fzW HO.out
          have k0 : (0 : Int) ≤ (k : Int) := by omega
          have k1 : (k : Int) < (ul : Int) := by omega
          have HP1 := hidd ((HO.out.putW k (.int .u8 2)).congr (cs' := fun j => if j < k + 1 then .int .u8 2 else cu j) (fun j _ => by
            show (if j = k then _ else if j < k then _ else _) = if j < k + 1 then _ else _
            by_cases h1 : j = k
            · rw [if_pos h1, if_pos (by omega)]
            · rw [if_neg h1]
              by_cases h2 : j < k
              · rw [if_pos h2, if_pos (by omega)]
              · rw [if_neg h2, if_neg (by omega)]))
          have HC2 := hidd (HC.out.trans (Chg.of_set wr g k (.int .u8 2)) (fun b _ e => by rw [e]; rfl))
          clear h1 HC HO
          go_wp2
          go_roundw
          case rel => exact ⟨k + 1, by omega, by go_num, HP1, HC2⟩
          case measure => simp [intOf]; omega
        · obtain rfl : ul = k := by omega
          rename World => w12
          have H0 : Hid (Own w12 w8.heap.size 5 1 (.slice co ul cc) ul (fun _ => .int .u8 2)) := HO.out.congr (fun j hj => by
            show (if j < ul then _ else _) = _
            rw [if_pos (by omega)])
          have C2 := H0
          have A2 := hidd (A1.out.chg HC.out OAC.out)
          have N2 := hidd (N1.out.chg HC.out ONC.out)
          have S2 := hidd (S1.out.chg HC.out OSC.out)
          have X2 := hidd (X1.out.trans (GC.out.imp HC.out SC.out) (fun _ _ h => h))
          clear HO HC A1 N1 S1 C1 X1 H0
          go_wp2
          go_loopw [21] (fun i wr => ∃ k : Nat, k ≤ nl ∧ i = .int .i64 (k : Int) ∧ Hid (Own wr w4.heap.size 3 1 (.slice bo5 nl bc5) nl (fun j => if j < k then .int .i64 (-3) else cn j)) ∧ Hid (Chg w12 wr (fun b => (Value.slice bo5 nl bc5).ownBlock = some b))) (fun i _ => nl - (intOf i).toNat)
          case atStart => exact ⟨0, by omega, rfl, N2.out.congr (fun j _ => by
            show cn j = if j < 0 then _ else cn j
            rw [if_neg (by omega)]), Chg.refl _ _⟩
          case round =>
            obtain ⟨k, hk, rfl, HO, HC⟩ := hrel
            have HL := hidd (KEEP.out _ ((X2.out.trans (GN5.out.imp HC.out SA.out) (fun _ _ h => h)))).2.1
            have y3 := HL.out.cell 3
            simp at y3
            by_cases hlt : k < nl
            · obtain ⟨g, rfl, _, _⟩ := own_blkW HO.out (by omega)
              obtain ⟨b1, o1, e1, h1⟩ := HO.out.rdaW.one (by omega)
              cases e1
              have x1 := h1 k (by omega)
              simp only [Nat.zero_add] at x1
              have fz := own_fzW HO.out
              have k0 : (0 : Int) ≤ (k : Int) := by omega
              have k1 : (k : Int) < (nl : Int) := by omega
              have HP1 := hidd ((HO.out.putW k (.int .i64 (-3))).congr (cs' := fun j => if j < k + 1 then .int .i64 (-3) else cn j) (fun j _ => by
                show (if j = k then _ else if j < k then _ else _) = if j < k + 1 then _ else _
                by_cases h1 : j = k
                · rw [if_pos h1, if_pos (by omega)]
                · rw [if_neg h1]
                  by_cases h2 : j < k
                  · rw [if_pos h2, if_pos (by omega)]
                  · rw [if_neg h2, if_neg (by omega)]))
              have HC2 := hidd (HC.out.trans (Chg.of_set wr g k (.int .i64 (-3))) (fun b _ e => by rw [e]; rfl))
              clear h1 HC HO
              go_wp2
              go_roundw
              case rel => exact ⟨k + 1, by omega, by go_num, HP1, HC2⟩
              case measure => simp [intOf]; omega
            · obtain rfl : nl = k := by omega
              rename World => w13
              have H0 : Hid (Own w13 w4.heap.size 3 1 (.slice bo5 nl bc5) nl (fun _ => .int .i64 (-3))) := HO.out.congr (fun j hj => by
                show (if j < nl then _ else _) = _
                rw [if_pos (by omega)])
              have N3 := H0
              have A3 := hidd (A2.out.chg HC.out OAN.out)
              have C3 := hidd (C2.out.chg HC.out ONC.out.symm)
              have S3 := hidd (S2.out.chg HC.out ONS.out.symm)
              have X3 := hidd (X2.out.trans (GN5.out.imp HC.out SA.out) (fun _ _ h => h))
              clear HO HC A2 N2 S2 C2 X2 H0
              go_wp2
              go_loopw [22] (fun i wr => ∃ k : Nat, k ≤ sl ∧ i = .int .i64 (k : Int) ∧ Hid (Own wr w4.heap.size 9 1 (.slice co5 sl cc5) sl (fun j => if j < k then .string ⟨#[109, 97, 114, 107]⟩ else cst j)) ∧ Hid (Chg w13 wr (fun b => (Value.slice co5 sl cc5).ownBlock = some b))) (fun i _ => sl - (intOf i).toNat)
              case atStart => exact ⟨0, by omega, rfl, S3.out.congr (fun j _ => by
                show cst j = if j < 0 then _ else cst j
                rw [if_neg (by omega)]), Chg.refl _ _⟩
              case round =>
                obtain ⟨k, hk, rfl, HO, HC⟩ := hrel
                have HL := hidd (KEEP.out _ ((X3.out.trans (GS5.out.imp HC.out SA.out) (fun _ _ h => h)))).2.1
                have y6 := HL.out.cell 6
                simp at y6
                by_cases hlt : k < sl
                · obtain ⟨g, rfl, _, _⟩ := own_blkW HO.out (by omega)
                  obtain ⟨b1, o1, e1, h1⟩ := HO.out.rdaW.one (by omega)
                  cases e1
                  have x1 := h1 k (by omega)
                  simp only [Nat.zero_add] at x1
                  have fz := own_fzW HO.out
                  have k0 : (0 : Int) ≤ (k : Int) := by omega
                  have k1 : (k : Int) < (sl : Int) := by omega
                  have HP1 := hidd ((HO.out.putW k (.string ⟨#[109, 97, 114, 107]⟩)).congr (cs' := fun j => if j < k + 1 then .string ⟨#[109, 97, 114, 107]⟩ else cst j) (fun j _ => by
                    show (if j = k then _ else if j < k then _ else _) = if j < k + 1 then _ else _
                    by_cases h1 : j = k
                    · rw [if_pos h1, if_pos (by omega)]
                    · rw [if_neg h1]
                      by_cases h2 : j < k
                      · rw [if_pos h2, if_pos (by omega)]
                      · rw [if_neg h2, if_neg (by omega)]))
                  have HC2 := hidd (HC.out.trans (Chg.of_set wr g k (.string ⟨#[109, 97, 114, 107]⟩)) (fun b _ e => by rw [e]; rfl))
                  clear h1 HC HO
                  go_wp2
                  go_roundw
                  case rel => exact ⟨k + 1, by omega, by go_num, HP1, HC2⟩
                  case measure => simp [intOf]; omega
                · obtain rfl : sl = k := by omega
                  rename World => w14
                  have H0 : Hid (Own w14 w4.heap.size 9 1 (.slice co5 sl cc5) sl (fun _ => .string ⟨#[109, 97, 114, 107]⟩)) := HO.out.congr (fun j hj => by
                    show (if j < sl then _ else _) = _
                    rw [if_pos (by omega)])
                  have S4 := H0
                  have A4 := hidd (A3.out.chg HC.out OAS.out)
                  have C4 := hidd (C3.out.chg HC.out OSC.out.symm)
                  have N4 := hidd (N3.out.chg HC.out ONS.out)
                  have X4 := hidd (X3.out.trans (GS5.out.imp HC.out SA.out) (fun _ _ h => h))
                  clear HO HC A3 N3 S3 C3 X3 H0
                  have K4 : Hid (St4 w10 w14 S (.slice ao5 tl ac5) (.slice co ul cc) (.slice bo5 nl bc5) (.slice co5 sl cc5) tl ul nl sl (.int .u8 1) (.int .u8 2) (.int .i64 (-3)) (.string ⟨#[109, 97, 114, 107]⟩)) := ⟨⟨_, A4.out⟩, ⟨_, C4.out⟩, ⟨_, N4.out⟩, ⟨_, S4.out⟩, OAC.out, OAN.out, OAS.out, ONC.out.symm, OSC.out.symm, ONS.out, fun k hk => SA.out k (GT5.out k hk).1 (GT5.out k hk).2, fun k hk => SC.out k (GC.out k hk).1 (GC.out k hk).2, fun k hk => SA.out k (GN5.out k hk).1 (GN5.out k hk).2, fun k hk => SA.out k (GS5.out k hk).1 (GS5.out k hk).2, X4.out⟩
                  have HL4 := (KEEP.out _ X4.out).2.1
                  have v2 := HL4.cell 2
                  have v3 := HL4.cell 3
                  have v6 := HL4.cell 6
                  simp at v2 v3 v6
                  clear A4 C4 N4 S4 X4 HL4 OAN OAS ONS OAC ONC OSC GT5 GN5 GS5 GC SA SC
                  go_wp2
                  go_loopw [23, 24, 25, 26, 27] (fun tv uv nv sv i wr => ∃ q : Nat, q ≤ 64 ∧ i = .int .i64 (q : Int) ∧ Hid (Gr4 w10 w14 wr S (.slice ao5 tl ac5) (.slice co ul cc) (.slice bo5 nl bc5) (.slice co5 sl cc5) tv uv nv sv tl ul nl sl q q q q (.int .u8 1) (.int .u8 4) (.int .u8 2) (.int .u8 5) (.int .i64 (-3)) (.int .i64 (-6)) (.string ⟨#[109, 97, 114, 107]⟩) (.string ⟨#[109, 111, 114, 101]⟩))) (fun _ _ _ _ i _ => 64 - (intOf i).toNat)
                  case atStart => exact ⟨0, by omega, rfl, K4.out.start⟩
                  case round =>
                    obtain ⟨q, hq, rfl, G⟩ := hrel
                    by_cases hlt : q < 64
                    · have q1 : (q : Int) < 64 := by omega
                      clear v2 v3 v6
                      go_wp2_with (at_builtin; refine wpList_app1X _ rfl _ _ 23 rfl 0 5 (.int .u8 0) 1 Tryd.underlying23 infoB rfl _ (tl + q) _ rfl (G.out.A.own.kept (fresh_alloc _ _)) _ 1 rfl (new_gr _ _ _ _ _ _) (one_gr _ _ _ _ rfl) (by omega) (by omega) (Nat.zero_le _) ?_)
                      intro v1 wA hown happ hmov
                      have G1 := hidd (G.out.stepA K4.out (fresh_alloc _ _) hown happ (hmov.imp id (fun h => by simpa using h)))
                      clear hown happ hmov G
                      go_wp2_with (at_builtin; refine wpList_app1X _ rfl _ _ 23 rfl 0 5 (.int .u8 0) 1 Tryd.underlying23 infoB rfl _ (ul + q) _ rfl (G1.out.C.own.kept (fresh_alloc _ _)) _ 1 rfl (new_gr _ _ _ _ _ _) (one_gr _ _ _ _ rfl) (by omega) (by omega) (Nat.zero_le _) ?_)
                      intro v2 wB hown happ hmov
                      have G2 := hidd (G1.out.stepC K4.out (fresh_alloc _ _) hown happ (hmov.imp id (fun h => by simpa using h)))
                      clear hown happ hmov G1
                      go_wp2_with (at_builtin; refine wpList_app1X _ rfl _ _ 24 rfl 0 3 (.int .i64 0) 8 Tryd.underlying24 infoI rfl _ (nl + q) _ rfl (G2.out.N.own.kept (fresh_alloc _ _)) _ 1 rfl (new_gr _ _ _ _ _ _) (one_gr _ _ _ _ rfl) (by omega) (by omega) (Nat.zero_le _) ?_)
                      intro v3 wC hown happ hmov
                      have G3 := hidd (G2.out.stepN K4.out (fresh_alloc _ _) hown happ (hmov.imp id (fun h => by simpa using h)))
                      clear hown happ hmov G2
                      go_wp2_with (at_builtin; refine wpList_app1X _ rfl _ _ 26 rfl 0 9 (.string ⟨#[]⟩) 16 Tryd.underlying26 infoS rfl _ (sl + q) _ rfl (G3.out.Z.own.kept (fresh_alloc _ _)) _ 1 rfl (new_gr _ _ _ _ _ _) (one_gr _ _ _ _ rfl) (by omega) (by omega) (Nat.zero_le _) ?_)
                      intro v4 wD hown happ hmov
                      have G4 := hidd (G3.out.stepS K4.out (fresh_alloc _ _) hown happ (hmov.imp id (fun h => by simpa using h)))
                      clear hown happ hmov G3
                      go_wp2
                      go_roundw
                      case rel => exact ⟨q + 1, by omega, by go_num, G4⟩
                      case measure => simp [intOf]; omega
                    · obtain rfl : q = 64 := by omega
                      rename World => w15
                      obtain ⟨tO, tc, rfl, rt⟩ := G.out.A.own.rd
                      obtain ⟨vO, vc, rfl, rv⟩ := G.out.C.own.rd
                      obtain ⟨nO, nc, rfl, rn⟩ := G.out.N.own.rd
                      obtain ⟨sO, sc, rfl, rs⟩ := G.out.Z.own.rd
                      obtain ⟨ao', ac', eA, ra⟩ := G.out.A.old
                      cases eA
                      obtain ⟨co', cc', eC, rc⟩ := G.out.C.old
                      cases eC
                      have RT := hidd rt
                      have RV := hidd rv
                      have RA := hidd ra
                      have RC := hidd rc
                      have CH := hidd G.out.chg
                      clear rt rv rn rs ra rc G K4 v2 v3 v6
                      go_wp2
                      go_loopw [3, 28] (fun o i wr => ∃ k : Nat, k ≤ tl ∧ i = .int .i64 (k : Int) ∧ o = .bool true ∧ Hid (Below w15.heap.size w15 wr)) (fun _ i _ => tl - (intOf i).toNat)
                      case atStart => exact ⟨0, by omega, rfl, rfl, Below.refl _ _⟩
                      case round =>
                        obtain ⟨k, hk, rfl, rfl, HF⟩ := hrel
                        have HL := (KEEP.out _ (CH.out.post HF.out)).2.1
                        have y2 := HL.cell 2
                        simp at y2
                        by_cases hlt : k < tl
                        · obtain ⟨b1, o1, rfl, h1⟩ := (RA.out.fresh HF.out).one (by omega)
                          obtain ⟨b2, o2, rfl, h2⟩ := (RT.out.fresh HF.out).one (by omega)
                          have x1 := h1 k (by omega)
                          have x2 := h2 k (by omega)
                          rw [if_pos hlt] at x2
                          have k0 : (0 : Int) ≤ (k : Int) := by omega
                          have k1 : (k : Int) < (tl : Int) := by omega
                          have k2 : (k : Int) < (tl : Int) + 64 := by omega
                          have k3 : k < tl + 64 := by omega
                          clear h1 h2 HL
                          go_wp2
                          go_roundw
                          case rel => exact ⟨k + 1, by omega, by go_num, rfl, HF⟩
                          case measure => simp [intOf]; omega
                        · obtain rfl : tl = k := by omega
                          rename World => w16
                          have CH6 := hidd (CH.out.post HF.out)
                          have RV6 := hidd (RV.out.fresh HF.out)
                          have RC6 := hidd (RC.out.fresh HF.out)
                          clear RT RV RA RC CH HF HL
                          go_wp2
                          clear y2
                          go_loopw [3, 29] (fun o i wr => ∃ k : Nat, k ≤ ul ∧ i = .int .i64 (k : Int) ∧ o = .bool true ∧ Hid (Below w16.heap.size w16 wr)) (fun _ i _ => ul - (intOf i).toNat)
                          case atStart => exact ⟨0, by omega, rfl, rfl, Below.refl _ _⟩
                          case round =>
                            obtain ⟨k, hk, rfl, rfl, HF⟩ := hrel
                            by_cases hlt : k < ul
                            · obtain ⟨b1, o1, rfl, h1⟩ := (RC6.out.fresh HF.out).one (by omega)
                              obtain ⟨b2, o2, rfl, h2⟩ := (RV6.out.fresh HF.out).one (by omega)
                              have x1 := h1 k (by omega)
                              have x2 := h2 k (by omega)
                              rw [if_pos hlt] at x2
                              have k0 : (0 : Int) ≤ (k : Int) := by omega
                              have k1 : (k : Int) < (ul : Int) := by omega
                              have k2 : (k : Int) < (ul : Int) + 64 := by omega
                              have k3 : k < ul + 64 := by omega
                              clear h1 h2
                              go_wp2
                              go_roundw
                              case rel => exact ⟨k + 1, by omega, by go_num, rfl, HF⟩
                              case measure => simp [intOf]; omega
                            · obtain rfl : ul = k := by omega
                              rename World => w17
                              obtain ⟨jR, jA, jB, jU, jD, jF⟩ := KEEP.out _ (CH6.out.post HF.out)
                              have JR := hidd jR
                              have JA := hidd jA
                              have JB := hidd jB
                              have JU := hidd jU
                              have JD := hidd jD
                              have JF := hidd jF
                              have K17 := hidd (HP.out w17 (HE.out.fresh jF))
                              clear jR jA jB jU jD jF CH6 RV6 RC6 HF KEEP HP
                              go_upto_region 44 with (go_at_call 6; (with_reducible refine (K17.out).mono ?_); rintro e w18 ⟨ao8, ac8, bo8, bc8, co8, cc8, rfl, oa8, ob8, oc8, f8⟩)
                              have fa := fresh_alloc w18 (.cells (lnA wd n ao8 tl ac8 bo8 nl bc8 sd gd co8 sl cc8) 28)
                              have f8' := fresh_trans f8 fa
                              have LM := hidd (Blk.new w18 28 (lnA wd n ao8 tl ac8 bo8 nl bc8 sd gd co8 sl cc8))
                              have IR := hidd (JR.out.fresh f8')
                              have IB := hidd (JB.out.fresh f8')
                              have IA := hidd (JA.out.fresh f8')
                              have IU := hidd (JU.out.kept f8')
                              have ID := hidd (JD.out.kept f8')
                              have IF := hidd (fresh_trans JF.out f8')
                              have ma := hidd (oa8.kept fa).rdaW
                              have mb := hidd (ob8.kept fa).rdaW
                              have mc := hidd (oc8.kept fa).rdaW
                              clear JR JA JB JU JD JF oa8 ob8 oc8 f8 fa f8' K17
                              generalize w18.alloc (.cells (lnA wd n ao8 tl ac8 bo8 nl bc8 sd gd co8 sl cc8) 28) = w19 at *
                              obtain ⟨l30, e30⟩ : ∃ l, l = w18.heap.size := ⟨_, rfl⟩
                              rw [← e30] at LM ⊢
                              clear e30
                              have E1 := hidd (EQL.out w19 _ _ _ _ _ _ _ _ _ _ _ _ IB.out.t.rdaW IR.out.t.rdaW IB.out.n.rdaW IR.out.n.rdaW IB.out.s.rdaW IR.out.s.rdaW)
                              have E2 : Hid (∀ wz : World, Below w19.heap.size w19 wz → Calls Tryd.prog 8 #[.agg (lnA wd n ao8 tl ac8 bo8 nl bc8 sd gd co8 sl cc8), .agg (lnA wd n ao2 tl ac2 bo2 nl bc2 sd gd co2 sl cc2)] wz fun e w' => e = .returned (.bool true) ∧ Below wz.heap.size wz w') := fun wz f => EQL.out wz _ _ _ _ _ _ _ _ _ _ _ _ (ma.out.fresh f) (IR.out.t.rdaW.fresh f) (mb.out.fresh f) (IR.out.n.rdaW.fresh f) (mc.out.fresh f) (IR.out.s.rdaW.fresh f)
                              have E3 : Hid (∀ wz : World, Below w19.heap.size w19 wz → Calls Tryd.prog 11 #[.slice dO ul dc, .slice uo ul uc] wz fun e w' => e = .returned (.bool true) ∧ Below wz.heap.size wz w') := fun wz f => EQB.out wz _ _ _ _ (ID.out.rdaW.fresh f) (IU.out.rdaW.fresh f)
                              have B4 := hidd IR.out.row
                              have B11 := hidd IB.out.row
                              have SLB : Hid ((Tryd.prog.info? 28).map (·.size) = some (lnA wd n ao7 tl ac7 bo7 nl bc7 sd gd co7 sl cc7).size) := sizeLn
                              have SLM : Hid ((Tryd.prog.info? 28).map (·.size) = some (lnA wd n ao8 tl ac8 bo8 nl bc8 sd gd co8 sl cc8).size) := sizeLn
                              have SLR : Hid ((Tryd.prog.info? 32).map (·.size) = some (lnA wd n ao2 tl ac2 bo2 nl bc2 sd gd co2 sl cc2).size) := sizeRg
                              clear ma mb mc IR IB IU ID EQL EQB
                              generalize lnA wd n ao7 tl ac7 bo7 nl bc7 sd gd co7 sl cc7 = LB at *
                              generalize lnA wd n ao8 tl ac8 bo8 nl bc8 sd gd co8 sl cc8 = LM8 at *
                              generalize lnA wd n ao2 tl ac2 bo2 nl bc2 sd gd co2 sl cc2 = LR at *
                              go_upto_region 45 with (first
                                | refine wpList_load_row rfl 28 _ rfl l11 rfl 28 _ (0, 0) _ B11.out Tryd.underlying28 rfl SLB.out ?_
                                | refine wpList_load_row rfl 32 _ rfl l4 rfl 32 _ (0, 0) _ B4.out Tryd.underlying32 rfl SLR.out ?_
                                | (go_at_call 8; with_reducible refine (E1.out).mono ?_; rintro e w20 ⟨rfl, f20⟩; have F20 := hidd f20; have B4x := hidd (B4.out.fresh f20); have LMx := hidd (LM.out.fresh f20); clear E1 f20 B4 LM B11)
                                | refine wpList_load_rowG rfl 28 _ rfl l30 rfl 28 _ (0, 0) _ LMx.out Tryd.underlying28 rfl SLM.out ?_
                                | refine wpList_load_rowG rfl 32 _ rfl l4 rfl 32 _ (0, 0) _ B4x.out Tryd.underlying32 rfl SLR.out ?_
                                | (go_at_call 8; with_reducible refine ((E2.out _ F20.out)).mono ?_; rintro e w21 ⟨rfl, f21⟩; have F21 := hidd (fresh_trans F20.out f21); clear E2 f21 LMx B4x)
                                | (go_at_call 11; with_reducible refine ((E3.out _ F21.out)).mono ?_; rintro e w22 ⟨rfl, f22⟩; have F22 := hidd (fresh_trans F21.out f22); clear E3 f22))
                              have HL := IA.out.fresh F22.out
                              have y3 := HL.cell 3
                              have y6 := HL.cell 6
                              simp at y3 y6
                              have FF := hidd (fresh_trans IF.out F22.out)
                              clear HL IA IF F20 F21 F22
                              rcases her with rfl | rfl
                              all_goals
                                go_wp2
                                go_ret
                                exact ⟨rfl, FF.out⟩
end Go.Proofs.YtemmghneohnigabDoor
