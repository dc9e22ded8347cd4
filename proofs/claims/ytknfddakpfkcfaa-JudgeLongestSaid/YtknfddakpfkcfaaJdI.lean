import Derived.Test.YtknfddakpfkcfaaJdH
namespace Go.Proofs.Ytknfddakpfkcfaa
open Go.RowKit
/-! The reference's Take. -/
set_option maxRecDepth 20000 in
set_option maxHeartbeats 1600000 in
theorem rtake_any {w : World} {ao bo : Option Addr} {n l ca cb : Nat} {P T D W : Nat → Int} {next most : Int} (h : RdA w ao 3 n ca (nds P T D)) (hc : RdA w bo 1 l cb (fun i => .int .i64 (W i))) :
    Calls Try.prog 25 #[.slice ao n ca, .slice bo l cb, .int .i64 next, .int .i64 most] w (TkP n P T D l W next most w) := by
  have HH := hidd h
  have HC := hidd hc
  have HCK := hidd (rcheck_any h)
  have hl : l ≤ 9223372036854775807 := by have := hc.le; have := hc.top; unfold maxLen at this; omega
  have hn : n ≤ 9223372036854775807 := by have := h.le; have := h.top; unfold maxLen at this; omega
  clear h hc
  by_cases ht : okT n P T D
  · rw [erT_ok ht] at HCK
    have HT := hidd ht
    have hn1 := ht.1
    have hn2 := ht.2.1
    have HIW : Hid (∀ b : Bool, (b = true ↔ isW n P l W) → ∀ w1, Below w.heap.size w w1 → Calls Try.prog 17 #[.slice ao n ca, .slice bo l cb] w1 fun e w' => e = .returned (.bool b) ∧ Below w1.heap.size w1 w') := fun b hb w1 f1 => (risWay_any (HH.out.fresh f1) (HC.out.fresh f1) hn1 hn2).mono (fun e w2 q => by
      obtain ⟨⟨r, e1, e2⟩, q2⟩ := q
      have : r = b := Bool.eq_iff_iff.2 (e2.trans hb.symm)
      rw [this] at e1
      exact ⟨e1, q2⟩)
    clear ht
    by_cases hw : isW n P l W
    · have HI1 := hidd (HIW.out true ⟨fun _ => hw, fun _ => rfl⟩)
      have HIS := hidd hw
      have hl1 := hw.1
      have hl2 := hw.len HT.out
      have HWs : Hid (∀ i, i + 1 < l → 0 ≤ W (i + 1) ∧ W (i + 1) < (n : Int)) := fun i hi => ⟨(hw.2.2 i hi).1, (hw.2.2 i hi).2.1⟩
      clear hw HIW
      by_cases hm : most < 1
      · have d1 : decide (most < 1) = true := decide_eq_true hm
        have HM := hidd hm
        go_enter Try.func25, Try.ntmps25
        go_wp2_with (first
          | (go_at_call 37; with_reducible refine HCK.out.mono ?_; rintro e w1 ⟨rfl, hb1⟩; have HB1 := hidd hb1; have HI2 := hidd (HI1.out _ hb1); clear HCK hb1 HI1)
          | (go_at_call 17; with_reducible refine HI2.out.mono ?_; rintro e w2 ⟨rfl, hb2⟩; have HB2 := hidd (HB1.out.trans (hb2.mono HB1.out.size)); clear HI2 hb2))
        go_ret3
        exact TkP.mk (0) (ov := false) (er := 1) rfl ⟨HB2.out, fun h => absurd HT.out h, fun _ h => absurd HIS.out h, fun _ _ _ => ⟨rfl, rfl, rfl, rfl⟩, fun _ _ h => absurd h (by have := HM.out; omega), own_nil _ _ _ _ _⟩
      · have d1 : decide (most < 1) = false := decide_eq_false hm
        have HM := hidd hm
        go_enter Try.func25, Try.ntmps25
        go_wp2_with (first
          | (go_at_call 37; with_reducible refine HCK.out.mono ?_; rintro e w1 ⟨rfl, hb1⟩; have HB1 := hidd hb1; have HI2 := hidd (HI1.out _ hb1); clear HCK hb1 HI1)
          | (go_at_call 17; with_reducible refine HI2.out.mono ?_; rintro e w2 ⟨rfl, hb2⟩; have HB2 := hidd (HB1.out.trans (hb2.mono HB1.out.size)); clear HI2 hb2))
        obtain ⟨b1, o1, rfl, hA⟩ := HH.out.node (by omega)
        obtain ⟨b2, o2, rfl, hC⟩ := HC.out.one (by omega)
        have HA := hidd hA
        have HCC := hidd hC
        clear hA hC
        go_loopw [13, 14] (fun v i wr => ∃ k : Nat, k ≤ l ∧ i = .int .i64 ((k : Int) + 1) ∧ Hid (∀ i, i < k → bt T W next l i ≠ 0 ∧ (i : Int) + 1 ≠ most) ∧ Hid (Own wr w2.heap.size 3 1 v k (btC T W next l)) ∧ Hid (Below w2.heap.size w2 wr)) (fun _ i _ => l + 1 - (intOf i).toNat)
        case atStart => exact ⟨0, by omega, rfl, fun i hi => absurd hi (by omega), own_nil _ _ _ _ _, Below.refl _ _⟩
        case round =>
          obtain ⟨k, hk, rfl, HN, HO, HF⟩ := hrel
          have hsz := HF.out.size
          have HF0 := hidd (HB2.out.trans (HF.out.mono HB2.out.size))
          by_cases hlt : k < l
          · have k1 : (k : Int) + 1 ≤ (l : Int) := by omega
            obtain ⟨y, HY⟩ : ∃ y, Hid (y = bt T W next l k) := ⟨_, rfl⟩
            have HX : Hid (∀ (w0 : World) (t : TypeId), (w0.alloc (.cells #[.int .i64 y] t)).cell? ⟨w0.heap.size, 0, none⟩ = some (btC T W next l k)) := fun w0 t => by
              unfold btC
              rw [← HY.out]
              exact new_cell _ _ _
            have HTE : Hid (y = 0 ∨ (k : Int) + 1 = most → TkE (bt T W next l) l most (k + 1) true) := fun q => ⟨by omega, by omega, fun i hi => HN.out i (by omega), fun _ => (by
              rw [Nat.add_sub_cancel, ← HY.out]
              rcases q with q | q
              · exact .inl q
              · exact .inr (by omega)), fun q => (by cases q)⟩
            by_cases hlast : k + 1 < l
            · have k2 : (k : Int) + 1 < (l : Int) := by omega
              have k3 : (0 : Int) ≤ (k : Int) + 1 := by omega
              have d4 : decide ((k : Int) + 1 < (l : Int)) = true := decide_eq_true k2
              obtain ⟨q, HQ⟩ : ∃ q, Hid (q = k + 1) := ⟨_, rfl⟩
              have x1 := fresh_cell HF0.out (HCC.out (k + 1) hlast)
              have hv := HWs.out k hlast
              obtain ⟨v, HV⟩ : ∃ y, Hid (y = W (k + 1)) := ⟨_, rfl⟩
              rw [← HV.out] at x1 hv
              obtain ⟨x, rfl⟩ : ∃ x : Nat, v = (x : Int) := ⟨v.toNat, by omega⟩
              obtain ⟨i0, i1⟩ := hv
              have x2 := fresh_cell HF0.out (HA.out x (by omega)).2.1
              have HYE : Hid (y = T x) := by
                show _ = _
                rw [HY.out]
                unfold bt
                rw [if_pos hlast, ← HV.out, Int.toNat_natCast]
              rw [← HYE.out] at x2
              go_wp2_with (at_builtin; refine wpList_app1 _ rfl _ _ 22 rfl w2.heap.size 3 (.int .i64 0) 8 Try.underlying22 infoI rfl _ k (btC T W next l) rfl (HO.out.kept (fresh_alloc _ _)) _ 1 rfl (HX.out _ _) rfl (by omega) (by omega) (by simp; omega) ?_)
              intro v' w4 hown' happ
              have HF4 := hidd (happ.below (HF.out.alloc hsz _) (HO.out.kept (fresh_alloc _ _)) (Nat.le_refl _) (by simp; omega))
              have HO4 := hidd hown'
              have HG4 := hidd (HB2.out.trans (HF4.out.mono HB2.out.size))
              obtain ⟨u4, uc4, rfl, _⟩ := hown'.rd
              clear happ hown' HX HF HO
              by_cases e1 : y = 0
              · have HE := hidd (HTE.out (.inl e1))
                have d2 : (y == 0) = true := by simp; exact e1
                clear e1
                go_wp2
                go_ret3
                exact TkP.mk (k + 1) (ov := true) (er := 0) rfl ⟨HG4.out, fun h => absurd HT.out h, fun _ h => absurd HIS.out h, fun _ _ h => absurd h (by have := HM.out; omega), fun _ _ _ => ⟨HE.out, rfl⟩, HO4.out.weaken HB2.out.size⟩
              · have d2 : (y == 0) = false := by simp; exact e1
                have HE1 := hidd e1
                clear e1
                by_cases e2 : (k : Int) + 1 = most
                · have HE := hidd (HTE.out (.inr e2))
                  have d3 : ((k : Int) + 1 == most) = true := by simp; exact e2
                  clear e2
                  go_wp2
                  go_ret3
                  exact TkP.mk (k + 1) (ov := true) (er := 0) rfl ⟨HG4.out, fun h => absurd HT.out h, fun _ h => absurd HIS.out h, fun _ _ h => absurd h (by have := HM.out; omega), fun _ _ _ => ⟨HE.out, rfl⟩, HO4.out.weaken HB2.out.size⟩
                · have d3 : ((k : Int) + 1 == most) = false := by simp; exact e2
                  have HE2 := hidd e2
                  clear e2
                  go_wp2
                  go_roundw
                  case rel => exact ⟨k + 1, by omega, by go_num, fun i hi => (by
                    by_cases q : i = k
                    · rw [q, ← HY.out]; exact ⟨HE1.out, HE2.out⟩
                    · exact HN.out i (by omega)), HO4, HF4⟩
                  case measure => simp [intOf]; omega
            · obtain rfl : y = next := by
                rw [HY.out]
                unfold bt
                rw [if_neg hlast]
              have d4 : decide ((k : Int) + 1 < (l : Int)) = false := decide_eq_false (by omega)
              have k2 : ¬ (k : Int) + 1 < (l : Int) := by omega
              go_wp2_with (at_builtin; refine wpList_app1 _ rfl _ _ 22 rfl w2.heap.size 3 (.int .i64 0) 8 Try.underlying22 infoI rfl _ k (btC T W y l) rfl (HO.out.kept (fresh_alloc _ _)) _ 1 rfl (HX.out _ _) rfl (by omega) (by omega) (by simp; omega) ?_)
              intro v' w4 hown' happ
              have HF4 := hidd (happ.below (HF.out.alloc hsz _) (HO.out.kept (fresh_alloc _ _)) (Nat.le_refl _) (by simp; omega))
              have HO4 := hidd hown'
              have HG4 := hidd (HB2.out.trans (HF4.out.mono HB2.out.size))
              obtain ⟨u4, uc4, rfl, _⟩ := hown'.rd
              clear happ hown' HX HF HO
              by_cases e1 : y = 0
              · have HE := hidd (HTE.out (.inl e1))
                have d2 : (y == 0) = true := by simp; exact e1
                clear e1
                go_wp2
                go_ret3
                exact TkP.mk (k + 1) (ov := true) (er := 0) rfl ⟨HG4.out, fun h => absurd HT.out h, fun _ h => absurd HIS.out h, fun _ _ h => absurd h (by have := HM.out; omega), fun _ _ _ => ⟨HE.out, rfl⟩, HO4.out.weaken HB2.out.size⟩
              · have d2 : (y == 0) = false := by simp; exact e1
                have HE1 := hidd e1
                clear e1
                by_cases e2 : (k : Int) + 1 = most
                · have HE := hidd (HTE.out (.inr e2))
                  have d3 : ((k : Int) + 1 == most) = true := by simp; exact e2
                  clear e2
                  go_wp2
                  go_ret3
                  exact TkP.mk (k + 1) (ov := true) (er := 0) rfl ⟨HG4.out, fun h => absurd HT.out h, fun _ h => absurd HIS.out h, fun _ _ h => absurd h (by have := HM.out; omega), fun _ _ _ => ⟨HE.out, rfl⟩, HO4.out.weaken HB2.out.size⟩
                · have d3 : ((k : Int) + 1 == most) = false := by simp; exact e2
                  have HE2 := hidd e2
                  clear e2
                  go_wp2
                  go_roundw
                  case rel => exact ⟨k + 1, by omega, by go_num, fun i hi => (by
                    by_cases q : i = k
                    · rw [q, ← HY.out]; exact ⟨HE1.out, HE2.out⟩
                    · exact HN.out i (by omega)), HO4, HF4⟩
                  case measure => simp [intOf]; omega
          · obtain rfl : k = l := by omega
            obtain ⟨u4, uc4, rfl, _⟩ := HO.out.rd
            have HE : Hid (TkE (bt T W next k) k most k false) := ⟨by omega, Nat.le_refl _, fun i hi => HN.out i (by omega), fun q => (by cases q), fun _ => ⟨rfl, (HN.out (k - 1) (by omega)).1, by have := (HN.out (k - 1) (by omega)).2; omega⟩⟩
            go_wp2
            go_ret3
            exact TkP.mk (k) (ov := false) (er := 0) rfl ⟨HF0.out, fun h => absurd HT.out h, fun _ h => absurd HIS.out h, fun _ _ h => absurd h (by have := HM.out; omega), fun _ _ _ => ⟨HE.out, rfl⟩, HO.out.weaken HB2.out.size⟩
    · have HI1 := hidd (HIW.out false ⟨fun q => (by cases q), fun q => absurd q hw⟩)
      have HIS := hidd hw
      clear hw HIW
      go_enter Try.func25, Try.ntmps25
      go_wp2_with (first
        | (go_at_call 37; with_reducible refine HCK.out.mono ?_; rintro e w1 ⟨rfl, hb1⟩; have HB1 := hidd hb1; have HI2 := hidd (HI1.out _ hb1); clear HCK hb1 HI1)
        | (go_at_call 17; with_reducible refine HI2.out.mono ?_; rintro e w2 ⟨rfl, hb2⟩; have HB2 := hidd (HB1.out.trans (hb2.mono HB1.out.size)); clear HI2 hb2))
      go_ret3
      exact TkP.mk (0) (ov := false) (er := 160) rfl ⟨HB2.out, fun h => absurd HT.out h, fun _ _ => ⟨rfl, rfl, rfl, rfl⟩, fun _ h => absurd h HIS.out, fun _ h => absurd h HIS.out, own_nil _ _ _ _ _⟩
  · rw [erT_bad ht] at HCK
    have HT := hidd ht
    clear ht
    go_enter Try.func25, Try.ntmps25
    go_wp2_with (go_at_call 37; with_reducible refine HCK.out.mono ?_; rintro e w1 ⟨rfl, hb1⟩; have HB1 := hidd hb1; clear HCK hb1)
    go_ret3
    exact TkP.mk (0) (ov := false) (er := 140) rfl ⟨HB1.out, fun _ => ⟨rfl, rfl, rfl, rfl⟩, fun h => absurd h HT.out, fun h => absurd h HT.out, fun h => absurd h HT.out, own_nil _ _ _ _ _⟩
end Go.Proofs.Ytknfddakpfkcfaa
