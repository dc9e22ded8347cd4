import Derived.Test.YtbpldnlafilbbaaNgLc
import Derived.Test.YtbpldnlafilbbaaNgRb
import Derived.Test.YtbpldnlafilbbaaNgK
namespace Go.Proofs.Ytbpldnlafilbbaa
open Go.RowKit Go.Shelf
attribute [local go_sem] Oper.semAt_some
/-! NgramLists: where New answers an error; up to the range over the places. -/
set_option maxRecDepth 20000 in
set_option maxHeartbeats 4000000 in
theorem lists_bad {w : World} (most : Int) (hbad : most < 1 ∨ 4 < most) (wy dp : Int) (ao bo : Option Addr) (na nb ca cb : Nat) :
    Calls Try.prog 8 #[.int .i64 most, .slice ao na ca, .slice bo nb cb, .int .i64 wy, .int .i64 dp] w fun e w' => e = .returned (.bool true) ∧ Below w.heap.size w w' := by
  have HW : Hid (∀ w : World, Calls Try.prog 9 #[] w fun e w' => e = .returned (.bool true) ∧ Below w.heap.size w w') := works_any
  have HN : Hid (∀ w : World, Calls Try.prog 21 #[.int .i64 most] w fun e w' => e = .returned (.tuple #[.pointer none, .int .i64 1]) ∧ w' = w) := fun w => new_bad most hbad w
  have HRN : Hid (∀ w : World, Calls Try.prog 22 #[.int .i64 most] w fun e w' => e = .returned (.tuple #[.pointer none, .int .i64 1]) ∧ w' = w) := fun w => rnew_bad most hbad w
  refine (callsIn_wide (n := 5)).1 ?_
  refine callsIn_of_wp_marks Try.func8 rfl trivial ?_ rfl
  refine wpIn_wide.2 ?_
  simp only [Try.ntmps8, List.size_toArray, List.length_cons, List.length_nil, Nat.reduceAdd, Nat.reduceSub, Array.replicate_succ, Array.replicate_zero, List.push_toArray, List.append_toArray, List.nil_append, List.cons_append]
  go_wp2_with (go_at_call 9; with_reducible refine (HW.out _).mono ?_; rintro e w1 ⟨rfl, hb1⟩)
  have HB1 : Hid (Below w.heap.size w w1) := (((Below.refl _ w).alloc (Nat.le_refl _) _).alloc (by simp) _).trans (hb1.mono (by simp; omega))
  clear hb1
  go_wp2_with (first
    | (go_at_call 21; with_reducible refine (HN.out _).mono ?_; rintro e w9 ⟨rfl, h9⟩; rw [h9]; clear h9 w9)
    | (go_at_call 22; with_reducible refine (HRN.out _).mono ?_; rintro e w9 ⟨rfl, h9⟩; rw [h9]; clear h9 w9))
  exact ⟨.bool true, by simp [results, Try.f8, go_sem], rfl, HB1.out.alloc HB1.out.size _⟩
set_option maxRecDepth 100000 in
set_option maxHeartbeats 8000000 in
theorem lists_ok {w : World} {k : Nat} (hk : 1 ≤ k ∧ k ≤ 4) (wy dp : Int) (hw1 : -9223372036854775808 ≤ wy ∧ wy ≤ 9223372036854775807) (hd1 : -9223372036854775808 ≤ dp ∧ dp ≤ 9223372036854775807) {ao bo : Option Addr} {na nb ca cb : Nat} {fa fb : Nat → Int} (ha : RdA w ao 1 na ca (fun i => .int .i64 (fa i))) (hb : RdA w bo 1 nb cb (fun i => .int .i64 (fb i))) (hfa : ∀ i, i < na → fits (fa i)) (hfb : ∀ i, i < nb → fits (fb i)) (hna : na ≤ 1048576) (hnb : nb ≤ 1048576) :
    Calls Try.prog 8 #[.int .i64 k, .slice ao na ca, .slice bo nb cb, .int .i64 wy, .int .i64 dp] w fun e w' => e = .returned (.bool true) ∧ Below w.heap.size w w' := by
  have HA := hidd ha
  have HBB := hidd hb
  have HFA := hidd hfa
  have HFB := hidd hfb
  have HLA : Hid (∀ b o, ao = some ⟨b, o, none⟩ → 0 < na → b < w.heap.size) := rda_low ha
  have HLB : Hid (∀ b o, bo = some ⟨b, o, none⟩ → 0 < nb → b < w.heap.size) := rda_low hb
  have HW : Hid (∀ w : World, Calls Try.prog 9 #[] w fun e w' => e = .returned (.bool true) ∧ Below w.heap.size w w') := works_any
  have HN : Hid (∀ w : World, Calls Try.prog 21 #[.int .i64 k] w fun e w' => e = .returned (.tuple #[.pointer (some ⟨w.heap.size + 1, 0, none⟩), .int .i64 0]) ∧ Idx w' (w.heap.size + 1) (fun b => w.heap.size ≤ b ∧ b < w'.heap.size) k 0 fa (fun _ => 0) ∧ Below w.heap.size w w') := fun w => new_ok k hk w fa _
  have HRN : Hid (∀ w : World, Calls Try.prog 22 #[.int .i64 k] w fun e w' => e = .returned (.tuple #[.pointer (some ⟨w.heap.size, 0, none⟩), .int .i64 0]) ∧ Ri w' w.heap.size (fun b => b = w.heap.size) k 0 fa ∧ Below w.heap.size w w') := fun w => rnew_ok k hk w fa
  have hca := ha.le
  have hcat := ha.top
  have hcb := hb.le
  have hcbt := hb.top
  unfold maxLen at hcat hcbt
  clear ha hb hfa hfb
  refine (callsIn_wide (n := 5)).1 ?_
  refine callsIn_of_wp_marks Try.func8 rfl trivial ?_ rfl
  refine wpIn_wide.2 ?_
  simp only [Try.ntmps8, List.size_toArray, List.length_cons, List.length_nil, Nat.reduceAdd, Nat.reduceSub, Array.replicate_succ, Array.replicate_zero, List.push_toArray, List.append_toArray, List.nil_append, List.cons_append]
  go_wp2_with (go_at_call 9; with_reducible refine (HW.out _).mono ?_; rintro e w1 ⟨rfl, hb1⟩)
  have HB1 : Hid (Below w.heap.size w w1) := (((Below.refl _ w).alloc (Nat.le_refl _) _).alloc (by simp) _).trans (hb1.mono (by simp; omega))
  have hcA1 : w1.cell? ⟨w.heap.size, 0, none⟩ = some (.slice ao na ca) := fresh_cell hb1 (box2a _ _ _ _ _)
  have hcB1 : w1.cell? ⟨w.heap.size + 1, 0, none⟩ = some (.slice bo nb cb) := fresh_cell hb1 (box2b _ _ _ _ _)
  have hs1 : w.heap.size + 2 ≤ w1.heap.size := by have := hb1.size; simp at this; omega
  obtain ⟨sa, HSA⟩ : ∃ s, Hid (s = w.heap.size) := ⟨_, rfl⟩
  obtain ⟨sb, HSB⟩ : ∃ s, Hid (s = w.heap.size + 1) := ⟨_, rfl⟩
  rw [← HSB.out] at hcB1 ⊢
  rw [← HSA.out] at hcA1 ⊢
  have HC1 := hidd (And.intro hcA1 hcB1)
  have hsab : w.heap.size ≤ sa ∧ sa < sb ∧ sb < w1.heap.size := by have := HSA.out; have := HSB.out; omega
  clear hb1 HW hcA1 hcB1 hs1 HSA HSB
  go_wp2_with (go_at_call 21; with_reducible refine (HN.out _).mono ?_; rintro e w2 ⟨rfl, hi2, hb2⟩)
  obtain ⟨X, HXE⟩ : ∃ X, Hid (X = w1.heap.size + 1) := ⟨_, rfl⟩
  rw [← HXE.out] at hi2 ⊢
  obtain ⟨M, Lb, hm2⟩ := hi2.idm
  have HM2 := hidd hm2
  have HB2 := hidd (HB1.out.trans (hb2.mono HB1.out.size))
  have hs2 : w1.heap.size ≤ w2.heap.size := hb2.size
  have HC2 : Hid (w2.cell? ⟨sa, 0, none⟩ = some (.slice ao na ca) ∧ w2.cell? ⟨sb, 0, none⟩ = some (.slice bo nb cb)) := ⟨fresh_cell hb2 HC1.out.1, fresh_cell hb2 HC1.out.2⟩
  clear hi2 hb2 HN hm2 HC1 HXE
  go_upto_region 6 with (go_at_call 22; with_reducible refine (HRN.out _).mono ?_; rintro e w4 ⟨rfl, hr4, hb4⟩)
  have fa3 := fresh_alloc w2 (.cells #[.pointer (some ⟨X, 0, none⟩)] 24)
  have f4 : Below w2.heap.size w2 w4 := fa3.trans (hb4.mono (by simp))
  obtain ⟨sx, HSX⟩ : ∃ s, Hid (s = w2.heap.size) := ⟨_, rfl⟩
  obtain ⟨Y, HYE⟩ : ∃ Y, Hid (Y = w2.heap.size + 1) := ⟨_, rfl⟩
  have hs4 : w2.heap.size + 1 < w4.heap.size := by have h1 := hr4.low _ hr4.sY; simp at h1; omega
  have hr4' : Ri w4 Y (fun b => b = Y) k 0 fa := by rw [HYE.out]; simpa using hr4
  have HFX : Hid (Fx w4 sa sb sx X (.slice ao na ca) (.slice bo nb cb)) := ⟨fresh_cell f4 HC2.out.1, fresh_cell f4 HC2.out.2, by rw [HSX.out]; exact fresh_cell hb4 (new_cell _ _ _)⟩
  rw [← HYE.out, ← HSX.out]
  have HM4 := hidd (HM2.out.fresh f4)
  have HR4 := hidd hr4'
  have HB4 := hidd (HB2.out.trans (f4.mono HB2.out.size))
  have hsy : w2.heap.size ≤ sx ∧ sx < Y ∧ Y < w4.heap.size ∧ Y ≤ w2.heap.size + 1 := by have := HSX.out; have := HYE.out; omega
  clear hr4 hb4 hr4' fa3 f4 HRN HM2 HC2 HSX HYE hs4 HB1
  -- in := CopyInts(a)
  have cA := HFX.out.ca
  have HCP := hidd (copyI_any (HA.out.fresh HB4.out) (by omega))
  go_upto_region 7 with (go_at_call 23; with_reducible refine HCP.out.mono ?_; rintro e w5 ⟨u, uc, rfl, hin, hb5⟩)
  have HIN := hidd hin
  have HM5 := hidd (HM4.out.fresh hb5)
  have HR5 := hidd (HR4.out.fresh hb5)
  have HFX5 := hidd (HFX.out.fresh hb5)
  have HB5 := hidd (HB4.out.trans (hb5.mono HB4.out.size))
  have hs5 : w4.heap.size ≤ w5.heap.size := hb5.size
  have HU : Hid (∀ b, (Value.slice u na uc).ownBlock = some b → w4.heap.size ≤ b ∧ b < w5.heap.size) := fun b h => hin.lt b h
  have hcu : na ≤ uc ∧ uc ≤ 9223372036854775807 := by
    obtain ⟨u', c', e', hr⟩ := hin.rd
    cases e'
    have h1 := hr.le
    have h2 := hr.top
    unfold maxLen at h2
    omega
  clear cA HCP hin hb5 HFX HM4 HR4
  -- x.Append(in...), y.Append(a)
  have cX := HFX5.out.cx
  have HAP := hidd (appendP_any HM5.out (own_rda HIN.out) (fun b o e h0 hs => by have h1 := HU.out b (by rw [e]; rfl); have := hs.2; omega) HFA.out (by omega))
  go_upto_region 8 with (go_at_call 14; with_reducible refine HAP.out.mono ?_; rintro e w6 ⟨rfl, S6, A6, hm6, hc6, _, hS6, _⟩)
  have HM6 : Hid (IdM w6 X S6 k na fa A6 M Lb) := by have := hm6.text (ty := fa) (fun j _ => apT_zero fa fa j); rw [Nat.zero_add] at this; exact this
  have HS6 : Hid (∀ b, S6 b → (w1.heap.size ≤ b ∧ b < w2.heap.size) ∨ (w5.heap.size ≤ b ∧ b < w6.heap.size)) := fun b h => by
    have := hm6.low b h
    rcases hS6 b h with q | q
    · exact .inl q
    · exact .inr ⟨q, this⟩
  have c6 := hc6.chg
  have hs6 : w5.heap.size ≤ w6.heap.size := c6.size
  have HIN6 := hidd (HIN.out.chg c6 (fun b hb hs => by have h1 := HU.out b hb; have := hs.2; omega))
  have HR6 := hidd (HR5.out.chg c6 (fun b e h => by have := h.2; omega))
  have HFX6 := hidd (HFX5.out.chg c6 (fun b e h => by have h1 := h.1; have h2 := h.2; omega))
  have HB6 := hidd (c6.below HB5.out HB5.out.size (fun b h => by have := h.1; omega))
  clear cX HAP hm6 hc6 hS6 c6 HM5 HIN HR5 HFX5 HB5
  have cA := HFX6.out.ca
  have HAP := hidd (rappend_any HR6.out (HA.out.fresh HB6.out) (fun b o e h0 hs => by have h1 := HLA.out b o e h0; omega) (by omega))
  go_upto_region 9 with (go_at_call 24; with_reducible refine HAP.out.mono ?_; rintro e w7 ⟨rfl, S7, hr7, hc7, _, hS7⟩)
  have HR7 : Hid (Ri w7 Y S7 k na fa) := by have := hr7.text (ty := fa) (fun j _ => apT_zero fa fa j); rw [Nat.zero_add] at this; exact this
  have HS7 : Hid (∀ b, S7 b → b = Y ∨ (w6.heap.size ≤ b ∧ b < w7.heap.size)) := fun b h => by
    have := hr7.low b h
    rcases hS7 b h with q | q
    · exact .inl q
    · exact .inr ⟨q, this⟩
  have hs7 : w6.heap.size ≤ w7.heap.size := hc7.size
  have HM7 := hidd (HM6.out.chg hc7 (fun b h e => by have h1 := HS6.out b h; omega))
  have HIN7 := hidd (HIN6.out.chg hc7 (fun b hb hs => by have h1 := HU.out b hb; omega))
  have HFX7 := hidd (HFX6.out.chg hc7 (fun b e h => by omega))
  have HB7 := hidd (hc7.below HB6.out HB6.out.size (fun b h => by omega))
  clear cA HAP hr7 hc7 hS7 HM6 HIN6 HR6 HFX6 HB6
  -- in is written over
  go_wp2
  go_loopw [17] (fun i wr => ∃ j1 : Nat, j1 ≤ na ∧ i = .int .i64 j1 ∧ Hid (Own wr w4.heap.size 3 1 (.slice u na uc) na (fun q => if q < j1 then .int .i64 (-9) else .int .i64 (fa q))) ∧ Hid (Chg w7 wr (fun b => (Value.slice u na uc).ownBlock = some b))) (fun i _ => na - (intOf i).toNat)
  case atStart => exact ⟨0, by omega, rfl, HIN7.out.congr (fun q _ => (if_neg (by omega)).symm), Chg.refl _ _⟩
  case round =>
    clear HIN7
    obtain ⟨j1, hj, rfl, HO, HC⟩ := hrel
    by_cases hlt : j1 < na
    · obtain ⟨g, rfl, hg1, hg2⟩ := own_blkW HO.out (by omega)
      have i1 : (j1 : Int) < (na : Int) := by omega
      have fz := own_fzW HO.out
      have HO2 := hidd ((HO.out.put j1 (.int .i64 (-9))).congr (cs' := fun q => if q < j1 + 1 then .int .i64 (-9) else .int .i64 (fa q)) (fun q _ => by
        by_cases e : q = j1
        · rw [if_pos e, if_pos (by omega)]
        · rw [if_neg e]
          by_cases e2 : q < j1
          · rw [if_pos e2, if_pos (by omega)]
          · rw [if_neg e2, if_neg (by omega)]))
      have HC2 : Hid (Chg w7 (wr.setCell ⟨g, j1, none⟩ (.int .i64 (-9))) (fun b => (Value.slice (some ⟨g, 0, none⟩) na uc).ownBlock = some b)) := HC.out.trans (Chg.of_set wr g j1 _) (fun b _ e => by rw [e]; rfl)
      have cg : wr.cell? ⟨g, j1, none⟩ = some (.int .i64 (fa j1)) := by
        have h9 := (own_rda HO.out).one (by omega)
        obtain ⟨b, o, e, hc⟩ := h9
        cases e
        have := hc j1 hlt
        rw [if_neg (by omega)] at this
        simpa using this
      go_wp2
      go_roundw
      case rel => exact ⟨j1 + 1, by omega, by go_num, HO2, HC2⟩
      case measure => simp [intOf]; omega
    · have i1 : ¬ (j1 : Int) < (na : Int) := by omega
      have HIN8 := hidd (HO.out.congr (cs' := m9 na) (fun q hq => by unfold m9; rw [if_pos (by omega), if_pos (by omega)]))
      have HC8 := HC
      have hs8 : w7.heap.size ≤ wr.heap.size := HC.out.size
      obtain ⟨w8, hw8⟩ : ∃ x, x = wr := ⟨_, rfl⟩
      subst hw8
      have HM8 := hidd (HM7.out.chg HC.out (fun b h e => by have h1 := HS6.out b h; have h2 := HU.out b e; omega))
      have HR8 := hidd (HR7.out.chg HC.out (fun b h e => by have h1 := HS7.out b h; have h2 := HU.out b e; omega))
      have HFX8 := hidd (HFX7.out.chg HC.out (fun b h e => by have h2 := HU.out b e; omega))
      have HB8 := hidd (HC.out.below HB7.out HB7.out.size (fun b e => by have h2 := HU.out b e; omega))
      clear HO HC HC8 HM7 HR7 HFX7 HB7
      go_upto_region 14 with fail
      -- wide
      go_wp2
      go_loopw [18, 19] (fun v i wr => ∃ j : Nat, j ≤ 64 ∧ i = .int .i64 j ∧ Hid (Grw w8 wr 3 1 (.slice u na uc) v na j (m9 na))) (fun _ i _ => 64 - (intOf i).toNat)
      case atStart => exact ⟨0, by omega, rfl, Grw.start HIN8.out (fun _ _ => rfl)⟩
      case round =>
        obtain ⟨j, hj, rfl, HG⟩ := hrel
        by_cases hlt : j < 64
        · have i2 : (j : Int) < 64 := by omega
          have HNC : Hid (∀ q, q < 1 * 1 → (wr.alloc (.cells #[.int .i64 (-8)] 3)).cell? ⟨wr.heap.size, q, none⟩ = some (m9 na ((na + j) * 1 + q))) := fun q hq => by
            obtain rfl : q = 0 := by omega
            rw [new_cell]
            unfold m9
            rw [if_neg (by omega)]
          have HONE : Hid (∀ q, q < 1 * 1 → (m9 na ((na + j) * 1 + q)).oneCell' = true) := fun q _ => m9_one _ _
          go_wp2_with (at_builtin; refine wpList_appX _ rfl _ _ 22 rfl 0 3 (.int .i64 0) 1 8 Try.underlying22 infoI rfl (by decide) _ (na + j) (m9 na) rfl (HG.out.own.kept (fresh_alloc _ _)) _ 1 1 rfl HNC.out HONE.out (by decide) (by unfold maxLen; omega) (by omega) (Nat.zero_le _) ?_)
          intro v' w9 ho happ hmv
          have HG2 := hidd (HG.out.next (fresh_alloc _ _) HIN8.out ho happ (by simpa using hmv))
          clear ho happ hmv HNC HONE HG
          go_wp2
          go_roundw
          case rel => exact ⟨j + 1, by omega, by go_num, HG2⟩
          case measure => simp [intOf]; omega
        · have i2 : ¬ (j : Int) < 64 := by omega
          have ej : j = 64 := by omega
          subst ej
          obtain ⟨wu, wc, hv, _⟩ := HG.out.own.rd
          subst hv
          have c9 := HG.out.chg
          have hs9 : w8.heap.size ≤ wr.heap.size := c9.size
          have HIN9 : Hid (RdA wr u 1 na uc (fun _ => .int .i64 (-9))) := by
            obtain ⟨u', c', e', hr⟩ := HG.out.old
            cases e'
            exact hr.congr (fun q hq => by unfold m9; rw [if_pos (by omega)])
          obtain ⟨w9, hw9⟩ : ∃ x, x = wr := ⟨_, rfl⟩
          subst hw9
          have HM9 := hidd (HM8.out.chg c9 (fun b h e => by have h1 := HS6.out b h; have h2 := HU.out b e; omega))
          have HR9 := hidd (HR8.out.chg c9 (fun b h e => by have h1 := HS7.out b h; have h2 := HU.out b e; omega))
          have HFX9 := hidd (HFX8.out.chg c9 (fun b h e => by have h2 := HU.out b e; omega))
          have HB9 := hidd (c9.below HB8.out HB8.out.size (fun b e => by have h2 := HU.out b e; omega))
          clear HG c9 HM8 HR8 HFX8 HB8 HIN8
          -- want, p, p2
          have HPR := hidd (rpropose_any HR9.out hk (by omega) wy dp)
          obtain ⟨R, HRR⟩ : ∃ R, Hid (R = prO fa k na wy dp) := ⟨_, rfl⟩
          rw [← HRR.out] at HPR
          go_upto_region 19 with (go_at_call 25; with_reducible refine HPR.out.mono ?_; rintro e w10 ⟨tu, tc, rfl, hwt, hb10⟩)
          have HWT := hidd hwt
          have HM10 := hidd (HM9.out.fresh hb10)
          have HR10 := hidd (HR9.out.fresh hb10)
          have HFX10 := hidd (HFX9.out.fresh hb10)
          have HB10 := hidd (HB9.out.trans (hb10.mono HB9.out.size))
          have HIN10 := hidd (HIN9.out.fresh hb10)
          have hs10 : w9.heap.size ≤ w10.heap.size := hb10.size
          have HTB : Hid (∀ b, (Value.slice tu R.length tc).ownBlock = some b → w9.heap.size ≤ b ∧ b < w10.heap.size) := fun b h => hwt.lt b h
          clear HPR hwt hb10 HM9 HR9 HFX9 HB9 HIN9
          have cX := HFX10.out.cx
          have HPR := hidd (propose_any HM10.out.idx (by omega) wy dp hw1 hd1)
          rw [← HRR.out] at HPR
          go_upto_region 20 with (go_at_call 13; with_reducible refine HPR.out.mono ?_; rintro e w11 ⟨pv, rfl, hp, hb11⟩)
          obtain ⟨pu, pc, hpv, _⟩ := hp.rd
          subst hpv
          have HP := hidd hp
          have HWT11 := hidd (HWT.out.kept hb11)
          have HM11 := hidd (HM10.out.fresh hb11)
          have HR11 := hidd (HR10.out.fresh hb11)
          have HFX11 := hidd (HFX10.out.fresh hb11)
          have HB11 := hidd (HB10.out.trans (hb11.mono HB10.out.size))
          have HIN11 := hidd (HIN10.out.fresh hb11)
          have hs11 : w10.heap.size ≤ w11.heap.size := hb11.size
          have HPB : Hid (∀ b, (Value.slice pu R.length pc).ownBlock = some b → w10.heap.size ≤ b ∧ b < w11.heap.size) := fun b h => hp.lt b h
          clear HPR cX hp hb11 HM10 HR10 HFX10 HB10 HIN10 HWT
          have cX := HFX11.out.cx
          have HPR := hidd (propose_any HM11.out.idx (by omega) wy dp hw1 hd1)
          rw [← HRR.out] at HPR
          go_upto_region 21 with (go_at_call 13; with_reducible refine HPR.out.mono ?_; rintro e w12 ⟨pv2, rfl, hp2, hb12⟩)
          obtain ⟨pu2, pc2, hpv2, _⟩ := hp2.rd
          subst hpv2
          have HP2 := hidd hp2
          have HP12 := hidd (HP.out.kept hb12)
          have HWT12 := hidd (HWT11.out.kept hb12)
          have HM12 := hidd (HM11.out.fresh hb12)
          have HR12 := hidd (HR11.out.fresh hb12)
          have HFX12 := hidd (HFX11.out.fresh hb12)
          have HB12 := hidd (HB11.out.trans (hb12.mono HB11.out.size))
          have HIN12 := hidd (HIN11.out.fresh hb12)
          have hs12 : w11.heap.size ≤ w12.heap.size := hb12.size
          have HPB2 : Hid (∀ b, (Value.slice pu2 R.length pc2).ownBlock = some b → w11.heap.size ≤ b ∧ b < w12.heap.size) := fun b h => hp2.lt b h
          clear HPR cX hp2 hb12 HM11 HR11 HFX11 HB11 HIN11 HWT11 HP
          have HEQ := hidd (eqRaw_same (own_rda HP12.out) (own_rda HWT12.out))
          go_upto_region 22 with (go_at_call 20; with_reducible refine HEQ.out.mono ?_; rintro e w13 ⟨rfl, hb13⟩)
          have HP13 := hidd (HP12.out.kept hb13)
          have HP2c := hidd (HP2.out.kept hb13)
          have HWT13 := hidd (HWT12.out.kept hb13)
          have HM13 := hidd (HM12.out.fresh hb13)
          have HR13 := hidd (HR12.out.fresh hb13)
          have HFX13 := hidd (HFX12.out.fresh hb13)
          have HB13 := hidd (HB12.out.trans (hb13.mono HB12.out.size))
          have HIN13 := hidd (HIN12.out.fresh hb13)
          have hs13 : w12.heap.size ≤ w13.heap.size := hb13.size
          clear HEQ hb13 HM12 HR12 HFX12 HB12 HIN12 HWT12 HP12 HP2
          -- p is written over
          go_wp2
          go_loopw [24] (fun i wr => ∃ j3 : Nat, j3 ≤ R.length ∧ i = .int .i64 j3 ∧ Hid (Own wr w10.heap.size 31 2 (.slice pu R.length pc) R.length (fun q => if q < j3 * 2 then r9 R.length q else rwF R q)) ∧ Hid (Chg w13 wr (fun b => (Value.slice pu R.length pc).ownBlock = some b))) (fun i _ => R.length - (intOf i).toNat)
          case atStart => exact ⟨0, by omega, rfl, HP13.out.congr (fun q _ => (if_neg (by omega)).symm), Chg.refl _ _⟩
          case round =>
            clear HP13
            obtain ⟨j3, hj, rfl, HO, HC⟩ := hrel
            by_cases hlt : j3 < R.length
            · obtain ⟨g, rfl, hg1, hg2⟩ := own_blkW HO.out (by omega)
              have i3 : (j3 : Int) < (R.length : Int) := by omega
              have hlp := (own_rda HO.out).le
              have hlt2 := (own_rda HO.out).top
              unfold maxLen at hlt2
              have fz := own_fzW HO.out
              have HO2 := hidd (((HO.out.put (j3 * 2) (.int .i64 5)).put (j3 * 2 + 1) (.int .i64 (-7))).congr (cs' := fun q => if q < (j3 + 1) * 2 then r9 R.length q else rwF R q) (fun q hq => by
                by_cases e1 : q = j3 * 2 + 1
                · rw [if_pos e1, if_pos (by omega)]
                  unfold r9
                  rw [if_pos (by omega), if_neg (by omega)]
                · rw [if_neg e1]
                  by_cases e : q = j3 * 2
                  · rw [if_pos e, if_pos (by omega)]
                    unfold r9
                    rw [if_pos (by omega), if_pos (by omega)]
                  · rw [if_neg e]
                    by_cases e2 : q < j3 * 2
                    · rw [if_pos e2, if_pos (by omega)]
                    · rw [if_neg e2, if_neg (by omega)]))
              have HC2 : Hid (Chg w13 ((wr.setCell ⟨g, j3 * 2, none⟩ (.int .i64 5)).setCell ⟨g, j3 * 2 + 1, none⟩ (.int .i64 (-7))) (fun b => (Value.slice (some ⟨g, 0, none⟩) R.length pc).ownBlock = some b)) := (HC.out.trans (Chg.of_set wr g (j3 * 2) _) (fun b _ e => by rw [e]; rfl)).trans (Chg.of_set _ g (j3 * 2 + 1) _) (fun b _ e => by rw [e]; rfl)
              obtain ⟨cg0, cg1⟩ : (∃ v, wr.cell? ⟨g, j3 * 2, none⟩ = some v) ∧ (∃ v, wr.cell? ⟨g, j3 * 2 + 1, none⟩ = some v) := by
                obtain ⟨b, o, e, hc⟩ := (own_rda HO.out).at_ (by omega)
                cases e
                have h1 := hc (j3 * 2) (by omega)
                have h2 := hc (j3 * 2 + 1) (by omega)
                rw [Nat.zero_add] at h1 h2
                exact ⟨⟨_, h1⟩, ⟨_, h2⟩⟩
              obtain ⟨v0, cg0⟩ := cg0
              obtain ⟨v1, cg1⟩ := cg1
              go_wp2
              go_roundw
              case rel => exact ⟨j3 + 1, by omega, by go_num, HO2, HC2⟩
              case measure => simp [intOf]; omega
            · have i3 : ¬ (j3 : Int) < (R.length : Int) := by omega
              have HP14 := hidd (HO.out.congr (cs' := r9 R.length) (fun q hq => by rw [if_pos (by omega)]))
              obtain ⟨w14, hw14⟩ : ∃ x, x = wr := ⟨_, rfl⟩
              subst hw14
              have c14 := HC.out
              have hs14 : w13.heap.size ≤ w14.heap.size := c14.size
              have HM14 := hidd (HM13.out.chg c14 (fun b h e => by have h1 := HS6.out b h; have h2 := HPB.out b e; omega))
              have HR14 := hidd (HR13.out.chg c14 (fun b h e => by have h1 := HS7.out b h; have h2 := HPB.out b e; omega))
              have HFX14 := hidd (HFX13.out.chg c14 (fun b h e => by have h2 := HPB.out b e; omega))
              have HB14 := hidd (c14.below HB13.out HB13.out.size (fun b e => by have h2 := HPB.out b e; omega))
              have HIN14 := hidd (HIN13.out.chg c14 (fun b o e h0 h => by have h1 := HU.out b (by rw [e]; rfl); have h2 := HPB.out b h; omega))
              have HWT14 := hidd (HWT13.out.chg c14 (fun b h e => by have h1 := HTB.out b h; have h2 := HPB.out b e; omega))
              have HP214 := hidd (HP2c.out.chg c14 (fun b h e => by have h1 := HPB2.out b h; have h2 := HPB.out b e; omega))
              clear HO HC c14 HM13 HR13 HFX13 HB13 HIN13 HWT13 HP2c
              go_upto_region 27 with fail
              -- more
              have hR96 : R.length ≤ 96 := by rw [HRR.out]; unfold prO; exact prR_len _ _ _ _
              go_wp2
              go_loopw [25, 26] (fun v i wr => ∃ j : Nat, j ≤ 64 ∧ i = .int .i64 j ∧ Hid (Grw w14 wr 31 2 (.slice pu R.length pc) v R.length j (r9 R.length))) (fun _ i _ => 64 - (intOf i).toNat)
              case atStart => exact ⟨0, by omega, rfl, Grw.start HP14.out (fun _ _ => rfl)⟩
              case round =>
                obtain ⟨j, hj, rfl, HG⟩ := hrel
                by_cases hlt : j < 64
                · have i4 : (j : Int) < 64 := by omega
                  have HNC : Hid (∀ q, q < 1 * 2 → (wr.alloc (.cells #[.int .i64 0, .int .i64 (-6)] 31)).cell? ⟨wr.heap.size, q, none⟩ = some (r9 R.length ((R.length + j) * 2 + q))) := fun q hq => by
                    unfold r9
                    rw [if_neg (by omega)]
                    rcases q with _ | _ | q
                    · rw [if_pos (by omega)]; simp
                    · rw [if_neg (by omega)]; simp
                    · omega
                  have HONE : Hid (∀ q, q < 1 * 2 → (r9 R.length ((R.length + j) * 2 + q)).oneCell' = true) := fun q _ => r9_one _ _
                  go_wp2_with (at_builtin; refine wpList_appX _ rfl _ _ 28 rfl 0 31 (.agg #[.int .i64 0, .int .i64 0]) 2 16 Try.underlying28 infoR rfl (by decide) _ (R.length + j) (r9 R.length) rfl (HG.out.own.kept (fresh_alloc _ _)) _ 1 1 rfl HNC.out HONE.out (by decide) (by unfold maxLen; omega) (by omega) (Nat.zero_le _) ?_)
                  intro v' w15 ho happ hmv
                  have HG2 := hidd (HG.out.next (fresh_alloc _ _) HP14.out ho happ (by simpa using hmv))
                  clear ho happ hmv HNC HONE HG
                  go_wp2
                  go_roundw
                  case rel => exact ⟨j + 1, by omega, by go_num, HG2⟩
                  case measure => simp [intOf]; omega
                · have i4 : ¬ (j : Int) < 64 := by omega
                  have ej : j = 64 := by omega
                  subst ej
                  obtain ⟨mu, mc, hv, _⟩ := HG.out.own.rd
                  subst hv
                  have c15 := HG.out.chg
                  have hs15 : w14.heap.size ≤ wr.heap.size := c15.size
                  obtain ⟨w15, hw15⟩ : ∃ x, x = wr := ⟨_, rfl⟩
                  subst hw15
                  have HM15 := hidd (HM14.out.chg c15 (fun b h e => by have h1 := HS6.out b h; have h2 := HPB.out b e; omega))
                  have HR15 := hidd (HR14.out.chg c15 (fun b h e => by have h1 := HS7.out b h; have h2 := HPB.out b e; omega))
                  have HFX15 := hidd (HFX14.out.chg c15 (fun b h e => by have h2 := HPB.out b e; omega))
                  have HB15 := hidd (c15.below HB14.out HB14.out.size (fun b e => by have h2 := HPB.out b e; omega))
                  have HIN15 := hidd (HIN14.out.chg c15 (fun b o e h0 h => by have h1 := HU.out b (by rw [e]; rfl); have h2 := HPB.out b h; omega))
                  have HWT15 := hidd (HWT14.out.chg c15 (fun b h e => by have h1 := HTB.out b h; have h2 := HPB.out b e; omega))
                  have HP215 := hidd (HP214.out.chg c15 (fun b h e => by have h1 := HPB2.out b h; have h2 := HPB.out b e; omega))
                  clear HG c15 HM14 HR14 HFX14 HB14 HIN14 HWT14 HP214 HP14
                  -- q; both are what was wanted
                  have cX := HFX15.out.cx
                  have HPR := hidd (propose_any HM15.out.idx (by omega) wy dp hw1 hd1)
                  rw [← HRR.out] at HPR
                  go_upto_region 32 with (go_at_call 13; with_reducible refine HPR.out.mono ?_; rintro e w16 ⟨qv, rfl, hq, hb16⟩)
                  obtain ⟨qu, qc, hqv, _⟩ := hq.rd
                  subst hqv
                  have HEQ1 := hidd (eqRaw_same (own_rda hq) (own_rda (HWT15.out.kept hb16)))
                  have HEQ2 : Hid (∀ w17, Below w16.heap.size w16 w17 → Calls Try.prog 20 #[.slice pu2 R.length pc2, .slice tu R.length tc] w17 fun e w' => e = .returned (.bool true) ∧ Below w17.heap.size w17 w') := fun w17 f => eqRaw_same (own_rda ((HP215.out.kept hb16).kept f)) (own_rda ((HWT15.out.kept hb16).kept f))
                  have HM16 := hidd (HM15.out.fresh hb16)
                  have HR16 := hidd (HR15.out.fresh hb16)
                  have HFX16 := hidd (HFX15.out.fresh hb16)
                  have HB16 := hidd (HB15.out.trans (hb16.mono HB15.out.size))
                  have HIN16 := hidd (HIN15.out.fresh hb16)
                  have hs16 : w15.heap.size ≤ w16.heap.size := hb16.size
                  clear HPR cX hq hb16 HM15 HR15 HFX15 HB15 HIN15 HWT15 HP215
                  go_upto_region 33 with (first
                    | (go_at_call 20; with_reducible refine HEQ1.out.mono ?_; rintro e w17 ⟨rfl, hb17⟩; have HF17 := hidd hb17; clear hb17)
                    | (go_at_call 20; with_reducible refine (HEQ2.out _ HF17.out).mono ?_; rintro e w18 ⟨rfl, hb18⟩))
                  have f18 : Below w16.heap.size w16 w18 := HF17.out.trans (hb18.mono HF17.out.size)
                  have HM18 := hidd (HM16.out.fresh f18)
                  have HR18 := hidd (HR16.out.fresh f18)
                  have HFX18 := hidd (HFX16.out.fresh f18)
                  have HB18 := hidd (HB16.out.trans (f18.mono HB16.out.size))
                  have HIN18 := hidd (HIN16.out.fresh f18)
                  have hs18 : w16.heap.size ≤ w18.heap.size := f18.size
                  clear HEQ1 HEQ2 HF17 hb18 f18 HM16 HR16 HFX16 HB16 HIN16
                  -- in is appended again
                  obtain ⟨ty, HTY⟩ : ∃ ty, Hid (ty = apT fa na (fun _ => -9)) := ⟨_, rfl⟩
                  have cX := HFX18.out.cx
                  have HAP := hidd (appendP_any HM18.out HIN18.out (fun b o e h0 hs => by have h1 := HU.out b (by rw [e]; rfl); have h2 := HS6.out b hs; omega) (fun i _ => by unfold fits; omega) (by omega))
                  rw [← HTY.out] at HAP
                  go_upto_region 34 with (go_at_call 14; with_reducible refine HAP.out.mono ?_; rintro e w19 ⟨rfl, S9, A9, hm9, hc9, _, hS9, _⟩)
                  have HM19 := hidd hm9
                  have HS9 : Hid (∀ b, S9 b → (w1.heap.size ≤ b ∧ b < w2.heap.size) ∨ (w5.heap.size ≤ b ∧ b < w6.heap.size) ∨ (w18.heap.size ≤ b ∧ b < w19.heap.size)) := fun b h => by
                    have := hm9.low b h
                    rcases hS9 b h with q | q
                    · rcases HS6.out b q with q | q
                      · exact .inl q
                      · exact .inr (.inl q)
                    · exact .inr (.inr ⟨q, this⟩)
                  have c9 := hc9.chg
                  have hs19 : w18.heap.size ≤ w19.heap.size := c9.size
                  have HIN19 := hidd (HIN18.out.chg c9 (fun b o e h0 h => by have h1 := HU.out b (by rw [e]; rfl); have h2 := HS6.out b h; omega))
                  have HR19 := hidd (HR18.out.chg c9 (fun b e h => by have h1 := HS7.out b e; have h2 := HS6.out b h; omega))
                  have HFX19 := hidd (HFX18.out.chg c9 (fun b e h => by have h2 := HS6.out b h; omega))
                  have HB19 := hidd (c9.below HB18.out HB18.out.size (fun b h => by have h2 := HS6.out b h; omega))
                  clear cX HAP hm9 hc9 hS9 c9 HM18 HIN18 HR18 HFX18 HB18
                  have HAP := hidd (rappend_any HR19.out HIN19.out (fun b o e h0 hs => by have h1 := HU.out b (by rw [e]; rfl); have h2 := HS7.out b hs; omega) (by omega))
                  rw [← HTY.out] at HAP
                  go_upto_region 35 with (go_at_call 24; with_reducible refine HAP.out.mono ?_; rintro e w20 ⟨rfl, S10, hr20, hc20, _, hS10⟩)
                  have hs20 : w19.heap.size ≤ w20.heap.size := hc20.size
                  have HR20 := hidd hr20
                  have HM20 := hidd (HM19.out.chg hc20 (fun b h e => by have h1 := HS9.out b h; have h2 := HS7.out b e; omega))
                  have HFX20 := hidd (HFX19.out.chg hc20 (fun b e h => by have h2 := HS7.out b h; omega))
                  have HB20 := hidd (hc20.below HB19.out HB19.out.size (fun b h => by have h2 := HS7.out b h; omega))
                  clear HAP hr20 hc20 hS10 HM19 HIN19 HR19 HFX19 HB19
                  obtain ⟨L, HL⟩ : ∃ L, Hid (L = plL ty k (na + na)) := ⟨_, rfl⟩
                  have hLn : L.length ≤ 2097152 := by rw [HL.out]; have := plL_len ty k (na + na); omega
                  have HPL := hidd (rplaces_any HR20.out hk (by omega))
                  rw [← HL.out] at HPL
                  go_upto_region 36 with (go_at_call 26; with_reducible refine HPL.out.mono ?_; rintro e w21 ⟨su, sc, rfl, hws, hb21⟩)
                  have hs21 : w20.heap.size ≤ w21.heap.size := hb21.size
                  have HWS := hidd hws
                  have HWB : Hid (∀ b, (Value.slice su L.length sc).ownBlock = some b → w20.heap.size ≤ b ∧ b < w21.heap.size) := fun b h => hws.lt b h
                  have HM21 := hidd (HM20.out.fresh hb21)
                  have HFX21 := hidd (HFX20.out.fresh hb21)
                  have HB21 := hidd (HB20.out.trans (hb21.mono HB20.out.size))
                  clear HPL hws hb21 HR20 HM20 HFX20 HB20
                  have fa22 := fresh_alloc w21 (.cells #[.slice none 0 0] 22)
                  have hbx22 := Boxed.new w21 22 (.slice none 0 0)
                  obtain ⟨w22, HW22⟩ : ∃ x, Hid (x = w21.alloc (.cells #[.slice none 0 0] 22)) := ⟨_, rfl⟩
                  have hs22 : w22.heap.size = w21.heap.size + 1 := by rw [HW22.out]; simp
                  rw [← HW22.out] at fa22 hbx22
                  obtain ⟨sl, HSL⟩ : ∃ s, Hid (s = w21.heap.size) := ⟨_, rfl⟩
                  rw [← HSL.out] at hbx22
                  go_upto_region 37 with fail
                  rw [← HW22.out, ← HSL.out]
                  have hsl : w21.heap.size ≤ sl ∧ sl < w22.heap.size := by have := HSL.out; omega
                  have HM22 := hidd (HM21.out.fresh fa22)
                  have HFX22 := hidd (HFX21.out.fresh fa22)
                  have HB22 := hidd (HB21.out.trans (fa22.mono HB21.out.size))
                  have HWS22 := hidd (HWS.out.kept fa22)
                  have HBX22 := hidd hbx22
                  have hs22' : w21.heap.size ≤ w22.heap.size := by omega
                  clear hs22 fa22 hbx22 HW22 HSL HM21 HFX21 HB21 HWS
                  have cX := HFX22.out.cx
                  have HPF := hidd (placesF_any w22 (some ⟨X, 0, none⟩))
                  obtain ⟨Bn, HBn⟩ : ∃ s, Hid (s = w22.heap.size) := ⟨_, rfl⟩
                  rw [← HBn.out] at HPF
                  go_upto_region 38 with (go_at_call 27; with_reducible refine HPF.out.mono ?_; rintro e w23 ⟨rfl, hcl, hsz, f23⟩)
                  rw [HBn.out] at f23
                  have HCL := hidd hcl
                  have hbn : w22.heap.size ≤ Bn ∧ Bn < w23.heap.size := by have := HBn.out; omega
                  have HM23 := hidd (HM22.out.fresh f23)
                  have HFX23 := hidd (HFX22.out.fresh f23)
                  have HB23 := hidd (HB22.out.trans (f23.mono HB22.out.size))
                  have HWS23 := hidd (HWS22.out.kept f23)
                  have HBX23 := hidd (Boxed.trans' HBX22.out f23)
                  have hs23 : w22.heap.size ≤ w23.heap.size := by omega
                  have hfn := fn_nil
                  clear cX HPF hcl hsz f23 HBn HM22 HFX22 HB22 HWS22 HBX22
                  go_wp2
                  -- the range over the places
                  have HSLN : Hid (¬ S9 sl ∧ sl < w23.heap.size) := ⟨fun h => by have h1 := HS9.out sl h; omega, by omega⟩
                  obtain ⟨tv23, pv23, hx23⟩ := HM23.out.ex
                  have HMM : Hid (∀ i, i < k → M i < w23.heap.size) := fun i hi => HM23.out.low _ (hx23.sM i hi)
                  have HDL : Hid (∀ b, plD A9 (na + na) b → b < w23.heap.size) := fun b ⟨q, h1, h2, e⟩ => by rw [e]; exact (hx23.pls q h1 h2).lt
                  have HDS : Hid (∀ b, plD A9 (na + na) b → ¬ b = sl) := fun b ⟨q, h1, h2, e⟩ e2 => HSLN.out.1 (by rw [← e2, e]; exact hx23.sA q h1 h2)
                  have H0 : Hid (LsJ w23 sl X k 4194304 M Lb S9 (plD A9 (na + na)) [] (.slice none 0 0) S9 (na + na) ty A9 w23) := LsJ.start HM23.out HBX23.out (by omega)
                  have HSQ := hidd (iter_stops Bn X S9 k (na + na) ty A9 L HL.out w23 (by omega) HCL.out HM23.out.idx)
                  clear hx23
                  refine (wpIn_wide (n := 5)).1 ?_
                  refine wpIn_rangeFunc_ownH (α := Nat) rfl (by decide) (gf := 31) (lb := #[.pointer (some ⟨Bn, 0, none⟩)]) rfl trivial (enters_of Try.func31 (by kernel_rfl) rfl)
                    (HSQ.out) KpD.trans (fun V l o o' hl hV hc _ => ⟨by simp, fun b hb => World.putObj_heap_other (by have := HDL.out b hb; omega)⟩) (Below.refl _ _) (fun _ => rfl)
                    (fun pre W => ∃ v S n tx A, LsJ w23 sl X k 4194304 M Lb S9 (plD A9 (na + na)) pre v S n tx A W)
                    (fun cd pre W => cd = .exit 0 ∧ False)
                    ?hI ?hIx ?h0
                    (fun z a' _ => a' = { tmps := #[Value.int .i64 (k : Int), Value.slice ao na ca, Value.slice bo nb cb, Value.int .i64 wy, Value.int .i64 dp, undef, Value.pointer (some ⟨sa, 0, none⟩), Value.pointer (some ⟨sb, 0, none⟩), undef, undef, Value.bool false, Value.bool true, Value.pointer (some ⟨sx, 0, none⟩), Value.int .i64 0, Value.pointer (some ⟨Y, 0, none⟩), Value.int .i64 0, Value.slice u na uc, Value.int .i64 (j1 : Int), Value.slice wu (na + 64) wc, Value.int .i64 64, Value.slice tu R.length tc, Value.slice pu R.length pc, Value.slice pu2 R.length pc2, Value.bool true, Value.int .i64 (j3 : Int), Value.slice mu (R.length + 64) mc, Value.int .i64 64, Value.slice qu R.length qc, Value.bool true, Value.slice su L.length sc, Value.pointer (some ⟨sl, 0, none⟩), Value.func (Fn.func 31) #[] #[Value.pointer (some ⟨Bn, 0, none⟩)], .int .i64 (z : Int), Value.bool true, Value.tuple #[Value.pointer (some ⟨X, 0, none⟩), Value.int .i64 0], Value.int .i64 (k : Int), Value.tuple #[Value.pointer (some ⟨X, 0, none⟩), Value.int .i64 0], Value.pointer (some ⟨X, 0, none⟩), Value.int .i64 0, Value.tuple #[Value.pointer (some ⟨Y, 0, none⟩), Value.int .i64 0], Value.int .i64 (k : Int), Value.tuple #[Value.pointer (some ⟨Y, 0, none⟩), Value.int .i64 0], Value.pointer (some ⟨Y, 0, none⟩), Value.int .i64 0, Value.int .i64 0, Value.bool false, undef, undef, undef, undef, undef, undef, undef, undef, undef, undef, Value.slice ao na ca, Value.slice u na uc, Value.pointer (some ⟨X, 0, none⟩), Value.slice u na uc, Value.tuple #[], Value.pointer (some ⟨Y, 0, none⟩), Value.slice ao na ca, Value.tuple #[], Value.int .i64 (j1 : Int), Value.slice u na uc, Value.int .i64 (na : Int), Value.bool false, u68, u69, u70, u71, u72, Value.slice u na uc, Value.int .i64 64, Value.bool false, u76, u77, u78, u79, u80, Value.pointer (some ⟨Y, 0, none⟩), Value.int .i64 wy, Value.int .i64 dp, Value.slice tu R.length tc, Value.pointer (some ⟨X, 0, none⟩), Value.int .i64 wy, Value.int .i64 dp, Value.slice pu R.length pc, Value.pointer (some ⟨X, 0, none⟩), Value.int .i64 wy, Value.int .i64 dp, Value.slice pu2 R.length pc2, Value.slice pu R.length pc, Value.slice tu R.length tc, Value.bool true, Value.int .i64 (j3 : Int), Value.slice pu R.length pc, Value.int .i64 (R.length : Int), Value.bool false, u100, u101, u102, u103, u104, u105, Value.slice pu R.length pc, Value.int .i64 64, Value.bool false, u109, u110, u111, u112, u113, u114, Value.pointer (some ⟨X, 0, none⟩), Value.int .i64 wy, Value.int .i64 dp, Value.slice qu R.length qc, Value.slice qu R.length qc, Value.slice tu R.length tc, Value.bool true, Value.bool true, Value.slice pu2 R.length pc2, Value.slice tu R.length tc, Value.bool true, Value.bool true, Value.pointer (some ⟨X, 0, none⟩), Value.slice u na uc, Value.tuple #[], Value.pointer (some ⟨Y, 0, none⟩), Value.slice u na uc, Value.tuple #[], Value.pointer (some ⟨Y, 0, none⟩), Value.slice su L.length sc, Value.pointer (some ⟨X, 0, none⟩), Value.func (Fn.func 31) #[] #[Value.pointer (some ⟨Bn, 0, none⟩)], Value.func (Fn.func 31) #[] #[Value.pointer (some ⟨Bn, 0, none⟩)], Value.bool false, Value.func (Fn.func 31) #[] #[Value.pointer (some ⟨Bn, 0, none⟩)], .int .i64 (z : Int), undef, undef, undef, undef, undef, undef, undef, undef, undef, undef, undef, undef, undef, undef, undef, undef, undef, undef, undef, undef, undef, undef, undef, undef, undef, undef, undef, undef, undef, undef, undef, undef, undef, undef, undef, undef, undef, undef, undef, undef, undef, undef, undef, undef], defers := [] })
                    ?hAx ?assign ?body ?done ?stop
                  case hI =>
                    rintro pre X' Y' row ⟨v, S, n, tx, A, h1⟩ hg hr
                    exact ⟨v, S, n, tx, A, LsJ.from_ () X' Y' row h1 hg hr⟩
                  case hIx =>
                    rintro cd pre X' Y' row ⟨h1, h2⟩ hg hr
                    exact h2.elim
                  case h0 => exact ⟨_, _, _, _, _, H0.out⟩
                  case hAx =>
                    rintro z a' u' X' Y' row e1 hg hr
                    exact e1
                  case assign =>
                    rintro l pre x W K hi hK
                    have HI := hidd hi
                    clear hi
                    unfold encQ
                    gi_wp2
                    exact hK _ _ (KeepsFrom.refl _ _) (KpD.refl _ _) HI.out rfl
                  case body =>
                    rintro l pre x a' W hl hlr ⟨v, S, n, tx, A, hJ⟩ rfl hlt
                    have hO2 := hJ.own
                    obtain ⟨lu, lc, hv, hrd⟩ := hO2.rd
                    subst hv
                    have HJ := hidd hJ
                    have c1 := hJ.box.cell
                    have hszW := hJ.chg.size
                    have HX : Hid (∀ (w0 : World) (t : TypeId), (w0.alloc (.cells #[.int .i64 (x : Int)] t)).cell? ⟨w0.heap.size, 0, none⟩ = some (qF (pre ++ [x]) pre.length)) := fun w0 t => by rw [new_cell]; unfold qF; simp
                    have HO3 : Hid (Own (W.alloc (.cells #[.int .i64 (x : Int)] 3)) w23.heap.size 3 1 (.slice lu pre.length lc) pre.length (qF (pre ++ [x]))) := (hO2.kept (fresh_alloc _ _)).congr (fun j hj => by unfold qF; rw [List.getD_eq_getElem?_getD, List.getD_eq_getElem?_getD, List.getElem?_append_left (by omega)])
                    have HONE : Hid ((qF (pre ++ [x]) pre.length).oneCell' = true) := by show _ = _; unfold qF; rfl
                    have HFW : Hid (Fx W sa sb sx X (.slice ao na ca) (.slice bo nb cb)) := HFX23.out.chg hJ.chg (fun b e h => by
                      rcases h with h | h
                      · have h1 := HS9.out b h; omega
                      · omega)
                    have HBW : Hid (Below w.heap.size w W) := hJ.chg.below HB23.out HB23.out.size (fun b h => by
                      rcases h with h | h
                      · have h1 := HS9.out b h; omega
                      · omega)
                    have HKO0 := hidd (KeepsOthers.alloc W (.cells #[.int .i64 (x : Int)] 3))
                    clear hJ hO2 hrd
                    gi_upto_region 43 with (gi_at_builtin; refine wpListIn_own1A _ rfl _ _ 22 rfl w23.heap.size 3 (.int .i64 0) 8 Try.underlying22 infoI rfl (.slice lu pre.length lc) pre.length (qF (pre ++ [x])) rfl HO3.out _ 1 rfl (HX.out _ _) HONE.out (by omega) (by omega) (by simp; omega) ?_; intro lu' lc' w24 hown' hgr hblk; have b9 := (HJ.out.box.alloc (.cells #[.int .i64 (x : Int)] 3)).kept hgr (fun e => by have h8 := (HO3.out.lt _ e.symm).1; have h9 := HSLN.out.2; omega); have c9 := b9.cell; have f9 := b9.frozen)
                    have hmo := HJ.out.more (v' := .slice lu' (pre.length + 1) lc') HSLN.out HDS.out (fresh_alloc W _) hgr hown' (by simpa using hblk)
                    have hkf : KeepsFrom w23.heap.size W (w24.setCell ⟨sl, 0, none⟩ (.slice lu' (pre.length + 1) lc')) := ((HKO0.out.trans (keeps_app hgr (fun r e => HO3.out.cells_ e))).trans (KeepsOthers.setCell _ _ _)).from _
                    obtain ⟨W1, HW1⟩ : ∃ x, Hid (x = w24.setCell ⟨sl, 0, none⟩ (.slice lu' (pre.length + 1) lc')) := ⟨_, rfl⟩
                    rw [← HW1.out] at hmo hkf ⊢
                    have HJ1 := hidd hmo.1
                    have HKD1 := hidd hmo.2
                    have HKF1 := hidd hkf
                    have HF1 : Hid (Fx W1 sa sb sx X (.slice ao na ca) (.slice bo nb cb)) := HFX23.out.chg hmo.1.chg (fun b e h => by
                      rcases h with h | h
                      · have h1 := HS9.out b h; omega
                      · omega)
                    have cA := HF1.out.ca
                    have cX := HF1.out.cx
                    have HCUT : Hid (∀ kk : Int, Calls Try.prog 18 #[.pointer (some ⟨X, 0, none⟩), .int .i64 kk] W1 fun e w' => e = .returned (.tuple #[]) ∧ IdM w' X S k (Nat.min n kk.toNat) tx A M Lb ∧ ChgP W1 w' S) := fun kk => cutP_any hmo.1.idm kk
                    clear hmo hkf hown' hgr hblk b9 c9 f9 c1 HX HO3 HONE HKO0 HJ HW1 HFW HBW
                    gi_upto_region 44 with (refine ⟨trivial, ?_⟩; gi_at_call 18; refine (CallsIn.inRound l (callsIn_wide.2 (HCUT.out _))).mono ?_; rintro e W2 ⟨rfl, hm2, hc2⟩)
                    obtain ⟨S2, hJ2, hkf2, hkd2⟩ := HJ1.out.call HMM.out HSLN.out hc2 hm2 (fun b h => .inl h) (Nat.le_trans (Nat.min_le_left _ _) HJ1.out.hn)
                    have hmin : Nat.min n ((na : Int) / 2).toNat ≤ na := Nat.le_trans (Nat.min_le_right _ _) (by omega)
                    obtain ⟨n2, HN2⟩ : ∃ x, Hid (x = Nat.min n ((na : Int) / 2).toNat) := ⟨_, rfl⟩
                    rw [← HN2.out] at hJ2 hmin
                    have HJ2 := hidd hJ2
                    have HKF2 := hidd (HKF1.out.trans hkf2)
                    have HKD2 := hidd (HKD1.out.trans hkd2)
                    have HF2 : Hid (Fx W2 sa sb sx X (.slice ao na ca) (.slice bo nb cb)) := HFX23.out.chg hJ2.chg (fun b e h => by
                      rcases h with h | h
                      · have h1 := HS9.out b h; omega
                      · omega)
                    have HBW2 : Hid (Below w.heap.size w W2) := hJ2.chg.below HB23.out HB23.out.size (fun b h => by
                      rcases h with h | h
                      · have h1 := HS9.out b h; omega
                      · omega)
                    have cB := HF2.out.cb
                    have cX2 := HF2.out.cx
                    have HAP := hidd (appendP_any hJ2.idm (HBB.out.fresh HBW2.out) (fun b o e h0 hs => by
                      have h1 := HLB.out b o e h0
                      rcases hJ2.sub b hs with q | q
                      · have h2 := HS9.out b q; omega
                      · have h3 := HB23.out.size; omega) HFB.out (by omega))
                    clear hJ2 hkf2 hkd2 hm2 hc2 cA cX HCUT HJ1 HKF1 HKD1 HF1 HN2
                    gi_wp2_with (refine ⟨trivial, ?_⟩; gi_at_call 14; refine (CallsIn.inRound l (callsIn_wide.2 HAP.out)).mono ?_; rintro e W3 ⟨rfl, S3, A3, hm3, hc3, _, hS3, _⟩)
                    obtain ⟨S4, hJ3, hkf3, hkd3⟩ := HJ2.out.call HMM.out HSLN.out hc3 hm3 hS3 (by omega)
                    exact ⟨HKF2.out.trans hkf3, HKD2.out.trans hkd3, _, _, _, _, _, hJ3⟩
                  case stop =>
                    rintro D cd pre W hD hp ⟨rfl, h⟩ hW
                    exact h.elim
                  case done =>
                    rintro D xs W hD hxs ⟨v, S, n, tx, A, hJ⟩ hW
                    have HW := hidd hW
                    have hO := hJ.own
                    rw [hxs] at hO
                    obtain ⟨lu, lc, hv, _⟩ := hO.rd
                    subst hv
                    have c1 := hJ.box.cell
                    have HWSW : Hid (Own W w20.heap.size 3 1 (.slice su L.length sc) L.length (qF L)) := HWS23.out.chg hJ.chg (fun b hb h => by
                      have h1 := HWB.out b hb
                      rcases h with h | h
                      · have h2 := HS9.out b h; omega
                      · omega)
                    have HBW : Hid (Below w.heap.size w W) := hJ.chg.below HB23.out HB23.out.size (fun b h => by
                      rcases h with h | h
                      · have h1 := HS9.out b h; omega
                      · omega)
                    have HEQ := hidd (eqInts_same (own_rda hO) (own_rda HWSW.out))
                    have hDl : D < W.heap.size := (Array.getElem?_eq_some_iff.1 hW).1
                    clear hJ hO hW hxs
                    go_wp2_with (go_at_call 19; with_reducible refine HEQ.out.mono ?_; rintro e W9 ⟨rfl, hb9⟩)
                    have hW9 : W9.heap[D]? = some (.deferred (some [])) := (hb9.block D hDl).trans HW.out
                    have hB9 : Below w.heap.size w W9 := HBW.out.trans (hb9.mono HBW.out.size)
                    refine ⟨by simp, .inl ⟨_, _, rfl, run_takeDeferred hW9, ?_⟩⟩
                    exact ⟨.bool true, by simp [results, Try.f8, go_sem], rfl, hB9.trans (belowK_b (w := w) (Nat.le_refl _) W9 D _ _ (by have := HB23.out.size; omega) hW9 rfl rfl)⟩
end Go.Proofs.Ytbpldnlafilbbaa
