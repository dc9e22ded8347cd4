import Derived.Test.YtjjfbpjejhjdiaaDoorPkO
namespace Go.Proofs.YtjjfbpjejhjdiaaDoor
open Go.RowKit
/-! PickDraws: the law. -/
theorem chL_head (p : Prm) (g : Nat → Int) (n : Nat) (M : Nat → Bool) (h : 0 < (chL p g n M).length) : ((chL p g n M).getD 0 (0, 0)).2 = 65536 := by
  unfold chL at h ⊢
  split
  · rename_i h0
    rw [if_pos h0] at h
    cases hc : canL g n M with
    | nil => rw [hc] at h; simp at h
    | cons x r => rfl
  · rename_i h0
    rw [if_neg h0] at h
    rw [List.length_take] at h
    generalize cutN (goalOf p.topp (weL p.temp (topL p.topk (canL g n M)))) (weL p.temp (topL p.topk (canL g n M))) = k at *
    cases hc : topL p.topk (canL g n M) with
    | nil => rw [hc] at h; simp [weL] at h
    | cons x r =>
      cases k with
      | zero => omega
      | succ k =>
        show wt p.temp x.2 x.2 = 65536
        exact wt_self _ _
set_option maxRecDepth 20000 in
set_option maxHeartbeats 3200000 in
theorem draws_bad (p : Prm) (bad : ¬ p.Ok) {w : World} (v1 v2 v3 : Value) (hF : Holds w) (hD : Dw.Holds w) (pos : Int) :
    Calls Tryd.prog 3 #[.agg #[.int .i64 p.temp, .int .i64 p.topk, .int .i64 p.topp, .int .i64 p.pen, .int .u64 (p.seed : Int)], v1, v2, .int .i64 pos, v3] w fun e w' => e = .returned (.bool true) ∧ Below w.heap.size w w' := by
  have f1 := fresh_alloc w (.cells #[.int .i64 p.temp, .int .i64 p.topk, .int .i64 p.topp, .int .i64 p.pen, .int .u64 (p.seed : Int)] 24)
  have HWK := hidd (works_any (hF.fresh f1) (hD.fresh f1))
  have HP0 := hidd (PrmAt.new w p 24)
  have HC := hidd (fun w1 => chances_bad p bad w1 v1 v2 v3)
  have HO := hidd (fun w1 => choose_bad p bad w1 v1 v2 v3 pos)
  clear hF hD
  go_enter Tryd.func3, Tryd.ntmps3
  go_wp2_with fail
  refine HWK.out.mono ?_
  rintro e w1 ⟨rfl, f2⟩
  have hp1 := HP0.out.fresh f2
  have F1 := hidd (fresh_trans f1 f2)
  have r0 := hp1.c0
  have r1 := hp1.c1
  have r2 := hp1.c2
  have r3 := hp1.c3
  have r4 := hp1.c4
  clear hp1 f1 f2 HWK HP0
  go_wp2_with fail
  refine (HC.out _).mono ?_
  rintro e w2 ⟨rfl, f3⟩
  replace r0 := fresh_cell f3 r0
  replace r1 := fresh_cell f3 r1
  replace r2 := fresh_cell f3 r2
  replace r3 := fresh_cell f3 r3
  replace r4 := fresh_cell f3 r4
  have F2 := hidd (fresh_trans F1.out f3)
  clear f3
  go_wp2_with fail
  refine (HO.out _).mono ?_
  rintro e w3 ⟨rfl, f4⟩
  go_wp2
  go_ret
  exact ⟨rfl, fresh_trans F2.out f4⟩
set_option maxRecDepth 20000 in
set_option maxHeartbeats 3200000 in
theorem draws_ok (p : Prm) (ok : p.Ok) {w : World} {ao so bo : Option Addr} {n ca m cb l cl : Nat} {f s : Nat → Int} {b : Nat → Bool} (h : In3 w ao so bo n ca m cb l cl f s b) (hD : Dw.Holds w) (pos : Int) :
    Calls Tryd.prog 3 #[.agg #[.int .i64 p.temp, .int .i64 p.topk, .int .i64 p.topp, .int .i64 p.pen, .int .u64 (p.seed : Int)], .slice ao n ca, .slice so m cb, .int .i64 pos, .slice bo l cl] w fun e w' => e = .returned (.bool true) ∧ Below w.heap.size w w' := by
  have f1 := fresh_alloc w (.cells #[.int .i64 p.temp, .int .i64 p.topk, .int .i64 p.topp, .int .i64 p.pen, .int .u64 (p.seed : Int)] 24)
  have HWK := hidd (works_any (h.ta.fresh f1) (hD.fresh f1))
  have HP0 := hidd (PrmAt.new w p 24)
  have HC : Hid (∀ w1, Below w.heap.size w w1 → Calls Tryd.prog 9 #[.agg #[.int .i64 p.temp, .int .i64 p.topk, .int .i64 p.topp, .int .i64 p.pen, .int .u64 (p.seed : Int)], .slice ao n ca, .slice so m cb, .slice bo l cl] w1 fun e w' => ∃ u c, e = .returned (.tuple #[.slice u (chOf p n m l f s b).length c, .int .i64 0]) ∧ PL w' w1.heap.size u c (chOf p n m l f s b) ∧ Below w1.heap.size w1 w') := fun w1 k => chances_ok p ok (h.fresh k)
  have HO : Hid (∀ w1, Below w.heap.size w w1 → Calls Tryd.prog 10 #[.agg #[.int .i64 p.temp, .int .i64 p.topk, .int .i64 p.topp, .int .i64 p.pen, .int .u64 (p.seed : Int)], .slice ao n ca, .slice so m cb, .int .i64 pos, .slice bo l cl] w1 fun e w' => e = .returned (.tuple #[.int .i64 (choi p pos (chOf p n m l f s b)), .int .i64 0]) ∧ Below w1.heap.size w1 w') := fun w1 k => choose_ok p ok (h.fresh k) (hD.fresh k) pos
  have HD := hidd hD
  have hbd : ∀ x ∈ chOf p n m l f s b, 0 ≤ x.2 ∧ x.2 ≤ 65536 := chL_bd _ _ _ _
  have hhd : 0 < (chOf p n m l f s b).length → ((chOf p n m l f s b).getD 0 (0, 0)).2 = 65536 := chL_head _ _ _ _
  have hlen : (chOf p n m l f s b).length ≤ 1048576 := by have := chL_len p (scF p.pen f (seenB s m)) n (mayB l b); have := h.hn; unfold chOf; omega
  clear h hD
  generalize chOf p n m l f s b = L at *
  have HP : Hid (∀ k, k < L.length → pre L (k + 1) = pre L k + (L.getD k (0, 0)).2) := fun k hk => pre_succ L k hk
  have HB : Hid (∀ k, k ≤ L.length → 0 ≤ pre L k ∧ pre L k ≤ 68719476736) := fun k hk => by
    have := pre_bd hbd (k := k) hk
    omega
  have HW : Hid (∀ k, k < L.length → 0 ≤ (L.getD k (0, 0)).2 ∧ (L.getD k (0, 0)).2 ≤ 65536) := fun k hk => hbd _ (getD_mem hk)
  have hP0 : pre L 0 = 0 := pre_zero _
  have HK : Hid (∀ k, k < L.length → ∀ u, pkL (L.drop k) u = if u < (L.getD k (0, 0)).2 then (L.getD k (0, 0)).1 else pkL (L.drop (k + 1)) (u - (L.getD k (0, 0)).2)) := fun k hk u => pkL_drop hk u
  obtain ⟨S, hS⟩ := Int.eq_ofNat_of_zero_le (HB.out L.length (Nat.le_refl _)).1
  have hSb := (HB.out L.length (Nat.le_refl _)).2
  have eC : choi p pos L = pkL L (drw p pos S : Nat) := by unfold choi; rw [hS]; rfl
  have hlt : 0 < L.length → drw p pos S < S := fun h0 => drw_lt p pos (by
    have h1 := pre_mono hbd (j := 1) (k := L.length) (by omega) (Nat.le_refl _)
    rw [pre_succ L 0 h0, hP0, hhd h0, hS] at h1
    omega)
  have HLT := hidd hlt
  have HS := hidd hS
  rw [hS] at hSb
  have HA : Hid (∀ w1, Dw.Holds w1 → Calls Tryd.prog 12 #[.int .u64 (p.seed : Int), .int .i64 pos, .int .i64 0] w1 fun e w' => e = .returned (.int .u64 ((Dw.atN p.seed (Dw.num pos) (Dw.num 0) : Nat) : Int)) ∧ Below w1.heap.size w1 w') := fun w1 hd => (Dw.at_any p.seed pos 0 w1 hd).mono fun e w' ⟨h1, h2⟩ => ⟨h1, h2.below⟩
  have HBL : Hid (∀ w1, Calls Tryd.prog 11 #[.int .u64 ((Dw.atN p.seed (Dw.num pos) (Dw.num 0) : Nat) : Int), .int .u64 (S : Int)] w1 fun e w' => e = .returned (.int .u64 ((drw p pos S : Nat) : Int)) ∧ Below w1.heap.size w1 w') := fun w1 => (Dw.below_any _ S w1 Dw.atN_lt (by omega)).mono fun e w' ⟨h1, h2⟩ => ⟨h1, h2.below⟩
  rw [eC] at HO
  clear hbd hhd hS eC hlt
  generalize Dw.atN p.seed (Dw.num pos) (Dw.num 0) = at0 at *
  generalize drw p pos S = U at *
  obtain ⟨T, hT⟩ : ∃ T, T = pkL L (U : Int) := ⟨_, rfl⟩
  rw [← hT] at HO
  have HT := hidd hT
  clear hT
  go_enter Tryd.func3, Tryd.ntmps3
  go_wp2_with fail
  refine HWK.out.mono ?_
  rintro e w1 ⟨rfl, f2⟩
  have hp1 := HP0.out.fresh f2
  have F1 := hidd (fresh_trans f1 f2)
  have r0 := hp1.c0
  have r1 := hp1.c1
  have r2 := hp1.c2
  have r3 := hp1.c3
  have r4 := hp1.c4
  clear hp1 f1 f2 HWK HP0
  go_wp2_with fail
  refine (HC.out _ F1.out).mono ?_
  rintro e w2 ⟨u, c, rfl, hpl, f3⟩
  replace r0 := fresh_cell f3 r0
  replace r1 := fresh_cell f3 r1
  replace r2 := fresh_cell f3 r2
  replace r3 := fresh_cell f3 r3
  replace r4 := fresh_cell f3 r4
  have F2 := hidd (fresh_trans F1.out f3)
  have HL2 := hidd hpl
  have hls := Own.les hpl
  clear f3 hpl
  go_wp2_with fail
  refine (HO.out _ F2.out).mono ?_
  rintro e w3 ⟨rfl, f4⟩
  have s4 := fresh_cell f4 r4
  have F3 := hidd (fresh_trans F2.out f4)
  have HL := hidd (HL2.out.kept f4)
  clear f4 HL2 r0 r1 r2 r3 r4
  by_cases h0 : L.length = 0
  · have hL : L = [] := List.length_eq_zero_iff.1 h0
    have hT0 : T = 0 := by rw [HT.out, hL]; rfl
    clear HT HK HW HP HB HLT HS hP0
    subst hL
    subst hT0
    go_wp2
    go_ret
    exact ⟨rfl, F3.out⟩
  · have l0 : ¬ (L.length : Int) = 0 := by omega
    have l1 : ((L.length : Int) == 0) = false := by simpa using h0
    have l2 : ¬ L = [] := fun q => h0 (by rw [q]; rfl)
    go_wp2
    go_loopw [16, 17] (fun v i wz => ∃ k : Nat, k ≤ L.length ∧ i = .int .i64 (k : Int) ∧ v = .int .u64 (pre L k) ∧ wz = w3) (fun _ i _ => L.length - (intOf i).toNat)
    case atStart => exact ⟨0, Nat.zero_le _, by simp, by rw [hP0], rfl⟩
    case round =>
      obtain ⟨k, hk, rfl, rfl, rfl⟩ := hrel
      by_cases hlt : k < L.length
      · obtain ⟨g, rfl, g1, g2, g3, g4⟩ := PL.cells HL.out (by omega)
        obtain ⟨d0, d1⟩ := g3 k hlt
        have b1 := HW.out k hlt
        have b2 := HB.out k hk
        have hs := HP.out k hlt
        clear g3 g4
        generalize (L.getD k (0, 0)).1 = tk at *
        generalize (L.getD k (0, 0)).2 = wk at *
        have HQ := hidd hs
        clear hs
        have i0 : (0 : Int) ≤ (k : Int) := by omega
        have i1 : (k : Int) < (L.length : Int) := by omega
        have e1 : IntKind.u64.wrap wk = wk := by rw [IntKind.wrap_u64]; omega
        have e2 : IntKind.u64.wrap (pre L k + wk) = pre L k + wk := by rw [IntKind.wrap_u64]; omega
        go_wp2
        go_roundw
        case rel => exact ⟨k + 1, by omega, by go_num, by rw [HQ.out], by first | rfl | trivial⟩
        case measure => simp [intOf]; omega
      · obtain rfl : k = L.length := by omega
        rw [HS.out]
        have HDw := hidd (HD.out.fresh F3.out)
        go_wp2_with fail
        refine (HA.out _ HDw.out).mono ?_
        rintro e w4 ⟨rfl, f5⟩
        go_wp2_with fail
        refine (HBL.out _).mono ?_
        rintro e w5 ⟨rfl, f6⟩
        have F5 := hidd (fresh_trans (fresh_trans F3.out f5) f6)
        have HL5 := hidd ((HL.out.kept f5).kept f6)
        clear f5 f6 HL
        go_wp2
        go_loopw [19, 20] (fun v i wz => ∃ k : Nat, k ≤ L.length ∧ i = .int .i64 (k : Int) ∧ v = .int .u64 (pre L k) ∧ pre L k ≤ (U : Int) ∧ Hid (pkL (L.drop k) ((U : Int) - pre L k) = T) ∧ wz = w5) (fun _ i _ => L.length - (intOf i).toNat)
        case atStart => exact ⟨0, Nat.zero_le _, by simp, by rw [hP0], by rw [hP0]; omega, by show pkL (L.drop 0) _ = _; rw [List.drop_zero, hP0, Int.sub_zero]; exact HT.out.symm, rfl⟩
        case round =>
          obtain ⟨k, hk2, rfl, rfl, hU, HJ, rfl⟩ := hrel
          by_cases hlt : k < L.length
          · obtain ⟨g, rfl, g1, g2, g3, g4⟩ := PL.cells HL5.out (by omega)
            obtain ⟨d0, d1⟩ := g3 k hlt
            have b1 := HW.out k hlt
            have b2 := HB.out k hk2
            have hs := HP.out k hlt
            have hkk := HK.out k hlt ((U : Int) - pre L k)
            rw [HJ.out] at hkk
            clear g3 g4
            generalize (L.getD k (0, 0)).1 = tk at *
            generalize (L.getD k (0, 0)).2 = wk at *
            have HQ := hidd hs
            clear hs
            have i0 : (0 : Int) ≤ (k : Int) := by omega
            have i1 : (k : Int) < (L.length : Int) := by omega
            have e1 : IntKind.u64.wrap wk = wk := by rw [IntKind.wrap_u64]; omega
            have e2 : IntKind.u64.wrap (pre L k + wk) = pre L k + wk := by rw [IntKind.wrap_u64]; omega
            by_cases q : (U : Int) < pre L k + wk
            · rw [if_pos (by omega)] at hkk
              clear HJ HT
              subst hkk
              go_wp2
              go_ret
              exact ⟨rfl, F5.out⟩
            · rw [if_neg (by omega)] at hkk
              have HQ2 : Hid (pkL (L.drop (k + 1)) ((U : Int) - (pre L k + wk)) = T) := by rw [hkk]; show pkL _ _ = pkL _ _; congr 1; omega
              clear hkk HJ
              go_wp2
              go_roundw
              case rel => exact ⟨k + 1, by omega, by go_num, by rw [HQ.out], by rw [HQ.out]; omega, by rw [HQ.out]; exact HQ2.out, by first | rfl | trivial⟩
              case measure => simp [intOf]; omega
          · obtain rfl : k = L.length := by omega
            have := HLT.out (by omega)
            rw [HS.out] at hU
            omega
theorem draws_law (p : Prm) {w : World} {ao so bo : Option Addr} {n ca m cb l cl : Nat} {f s : Nat → Int} {b : Nat → Bool} (h : In3 w ao so bo n ca m cb l cl f s b) (hD : Dw.Holds w) (pos : Int) :
    Calls Tryd.prog 3 #[.agg #[.int .i64 p.temp, .int .i64 p.topk, .int .i64 p.topp, .int .i64 p.pen, .int .u64 (p.seed : Int)], .slice ao n ca, .slice so m cb, .int .i64 pos, .slice bo l cl] w fun e w' => e = .returned (.bool true) ∧ Below w.heap.size w w' := by
  by_cases ok : p.Ok
  · exact draws_ok p ok h hD pos
  · exact draws_bad p ok _ _ _ h.ta hD pos
end Go.Proofs.YtjjfbpjejhjdiaaDoor
