import Derived.Test.YtjjfbpjejhjdiaaDoorPkV
import Derived.Deep.RegionHeld3
namespace Go.Proofs.YtjjfbpjejhjdiaaDoor
open Go.RowKit
/-! PickGreedy: the law. -/
set_option maxRecDepth 20000 in
set_option maxHeartbeats 6400000 in
theorem greedy_law (p : Prm) {w : World} {ao bo : Option Addr} {n ca l cl : Nat} {f : Nat → Int} {b : Nat → Bool} (hlo : RdA w ao 1 n ca (fun i => .int .i64 (f i))) (hal : RdA w bo 1 l cl (fun i => .bool (b i))) (hfb : ∀ i, i < n → -9223372036854775808 ≤ f i ∧ f i ≤ 9223372036854775807) (hn : n ≤ 1048576) (hF : Holds w) (hD : Dw.Holds w) (pos : Int) :
    Calls Tryd.prog 4 #[.agg #[.int .i64 p.temp, .int .i64 p.topk, .int .i64 p.topp, .int .i64 p.pen, .int .u64 (p.seed : Int)], .slice ao n ca, .int .i64 pos, .slice bo l cl] w fun e w' => e = .returned (.bool true) ∧ Below w.heap.size w w' := by
  have f1 := fresh_alloc w (.cells #[.int .i64 p.temp, .int .i64 p.topk, .int .i64 p.topp, .int .i64 p.pen, .int .u64 (p.seed : Int)] 24)
  have HWK := hidd (works_any (hF.fresh f1) (hD.fresh f1))
  have HP0 := hidd (PrmAt.new w p 24)
  have HLO := hidd hlo
  have HAL := hidd hal
  have HFB := hidd hfb
  have HTA := hidd hF
  have HD := hidd hD
  have hle := hlo.le
  have htop := hlo.top
  unfold maxLen at htop
  clear hlo hal hfb hF hD
  go_enter Tryd.func4, Tryd.ntmps4
  go_wp2_with fail
  refine HWK.out.mono ?_
  rintro e w1 ⟨rfl, f2⟩
  have hp1 := HP0.out.fresh f2
  have F1 := hidd (fresh_trans f1 f2)
  have y0 := hp1.c0
  have y1 := hp1.c1
  have y2 := hp1.c2
  have y3 := hp1.c3
  have y4 := hp1.c4
  have z1 := hp1.fz 3
  have z4 := hp1.fz 1
  clear f1 f2 HWK HP0
  by_cases ht : p.temp = 0
  · have HP2 : Hid (PrmAt (w1.setCell ⟨w.heap.size, 3, none⟩ (.int .i64 256)) w.heap.size { p with pen := 256 }) := hp1.pen 256
    have F2 : Hid (Below w.heap.size w (w1.setCell ⟨w.heap.size, 3, none⟩ (.int .i64 256))) := F1.out.setCell (Nat.le_refl _) _
    have d0 : (p.temp != 0) = false := by simp [ht]
    have HGR : Hid (∀ x, (⟨p.temp, p.topk, p.topp, 256, p.seed⟩ : Prm).Ok → (∀ j, j < n → -16777216 ≤ f j ∧ f j ≤ 16777216) → BestAt (mayB l b) f n x → choi (⟨p.temp, p.topk, p.topp, 256, p.seed⟩ : Prm) pos (chOf (⟨p.temp, p.topk, p.topp, 256, p.seed⟩ : Prm) n 0 l f (fun _ => 0) b) = if x < 0 then 0 else x) := fun x ok hf hb => greedy_is ok rfl (.inl ht) pos hf hb
    clear hp1 F1 ht
    go_wp2_with fail
    generalize w1.setCell ⟨w.heap.size, 3, none⟩ (.int .i64 256) = W at *
    clear y0 y1 y2 y3 y4 z1 z4 d0
    have hI : In3 W ao none bo n ca 0 0 l cl f (fun _ => 0) b := ⟨(HLO.out).fresh F2.out, rd_nil, (HAL.out).fresh F2.out, HFB.out, hn, by omega, HTA.out.fresh F2.out⟩
    have HI := hidd hI
    have HDW := hidd (HD.out.fresh F2.out)
    have hrr := HP2.out
    have r0 : W.cell? ⟨w.heap.size, 0, none⟩ = some (.int .i64 p.temp) := hrr.c0
    have r1 : W.cell? ⟨w.heap.size, 1, none⟩ = some (.int .i64 p.topk) := hrr.c1
    have r2 : W.cell? ⟨w.heap.size, 2, none⟩ = some (.int .i64 p.topp) := hrr.c2
    have r3 : W.cell? ⟨w.heap.size, 3, none⟩ = some (.int .i64 256) := hrr.c3
    have r4 : W.cell? ⟨w.heap.size, 4, none⟩ = some (.int .u64 (p.seed : Int)) := hrr.c4
    clear hrr hI
    by_cases ok : (⟨p.temp, p.topk, p.topp, 256, p.seed⟩ : Prm).Ok
    · have HOK := hidd ok
      have HCK : Hid (∀ w1, Calls Tryd.prog 13 #[.agg #[.int .i64 p.temp, .int .i64 p.topk, .int .i64 p.topp, .int .i64 256, .int .u64 (p.seed : Int)]] w1 fun e w' => e = .returned (.int .i64 0) ∧ Below w1.heap.size w1 w') := fun w1 => (check_any (⟨p.temp, p.topk, p.topp, 256, p.seed⟩ : Prm) w1).mono fun e w' ⟨⟨er, h1, h2⟩, h3⟩ => by
        rcases h2 with ⟨_, rfl⟩ | ⟨o, _⟩
        · exact ⟨h1, h3⟩
        · exact absurd ok o
      have HG : Hid (∀ x, (∀ j, j < n → -16777216 ≤ f j ∧ f j ≤ 16777216) → BestAt (mayB l b) f n x → choi (⟨p.temp, p.topk, p.topp, 256, p.seed⟩ : Prm) pos (chOf (⟨p.temp, p.topk, p.topp, 256, p.seed⟩ : Prm) n 0 l f (fun _ => 0) b) = if x < 0 then 0 else x) := fun x hf hb => HGR.out x ok hf hb
      have HCH := hidd (choose_ok (⟨p.temp, p.topk, p.topp, 256, p.seed⟩ : Prm) ok HI.out HDW.out pos)
      generalize choi (⟨p.temp, p.topk, p.topp, 256, p.seed⟩ : Prm) pos (chOf (⟨p.temp, p.topk, p.topp, 256, p.seed⟩ : Prm) n 0 l f (fun _ => 0) b) = T at *
      clear ok
      refine HCH.out.mono ?_
      rintro e w2 ⟨rfl, f3⟩
      replace r0 := fresh_cell f3 r0
      replace r1 := fresh_cell f3 r1
      replace r2 := fresh_cell f3 r2
      replace r3 := fresh_cell f3 r3
      replace r4 := fresh_cell f3 r4
      go_wp2_with fail
      refine (HCK.out _).mono ?_
      rintro e w3 ⟨rfl, f4⟩
      have F3 := hidd (fresh_trans (fresh_trans F2.out f3) f4)
      clear f3 f4 r0 r1 r2 r3 r4 HCH HCK HGR
      go_wp2
      go_loopw [12, 13] (fun v i wr => ∃ (k : Nat) (x : Int), k ≤ n ∧ i = .int .i64 (k : Int) ∧ v = .int .i64 x ∧ Hid (BestAt (mayB l b) f k x) ∧ Hid (∀ j, j < k → -16777216 ≤ f j ∧ f j ≤ 16777216) ∧ Below w3.heap.size w3 wr) (fun _ i _ => n - (intOf i).toNat)
      case atStart => exact ⟨0, -1, Nat.zero_le _, by simp, by first | rfl | simp, BestAt.start _ _, fun j hj => absurd hj (by omega), Below.refl _ _⟩
      case round =>
        obtain ⟨k, x, hk, rfl, rfl, HBA, HJ, hw⟩ := hrel
        have FW := hidd (fresh_trans F3.out hw)
        by_cases hlt : k < n
        · obtain ⟨b1, o1, rfl, h1⟩ := (HLO.out.fresh FW.out).one (by omega)
          have d := h1 k hlt
          have i0 : (0 : Int) ≤ (k : Int) := by omega
          have i1 : (k : Int) < (n : Int) := by omega
          have HH1 := hidd h1
          clear h1
          by_cases q1 : 16777216 < f k
          · go_wp2
            go_ret
            exact ⟨rfl, FW.out⟩
          · by_cases q2 : f k < -16777216
            · go_wp2
              go_ret
              exact ⟨rfl, FW.out⟩
            · have HQ := hidd (show -16777216 ≤ f k ∧ f k ≤ 16777216 by omega)
              have HJ1 : Hid (∀ j, j < k + 1 → -16777216 ≤ f j ∧ f j ≤ 16777216) := fun j hj => by
                by_cases e : j = k
                · rw [e]; exact HQ.out
                · exact HJ.out j (by omega)
              have HMq : Hid (∀ j, Calls Tryd.prog 14 #[.slice bo l cl, .int .i64 (k : Int)] (wr.drewN j) fun e w' => e = .returned (.bool (mayB l b k)) ∧ w' = wr.drewN j) := fun j => may_any (HAL.out.fresh (fresh_trans FW.out (fresh_drewN wr j))) k
              cases hM : mayB l b k with
              | false =>
                rw [hM] at HMq
                have HN := hidd (HBA.out.skip hM)
                clear hM
                go_wp2
                go_quiet (exact Calls.quiet_of_same (HMq.out _))
                go_wp2
                go_roundw
                case rel => exact ⟨k + 1, x, by omega, by go_num, by first | rfl | trivial, HN.out, HJ1.out, below_drewN hw _⟩
                case measure => simp [intOf]; omega
              | true =>
                rw [hM] at HMq
                have HMK := hidd hM
                clear hM
                rcases HBA.out with ⟨rfl, hn0⟩ | ⟨i, hi, rfl, hMi, hmx⟩
                · have HN := hidd (BestAt.first (f := f) hn0 HMK.out)
                  clear hn0
                  go_wp2
                  go_quiet (exact Calls.quiet_of_same (HMq.out _))
                  go_wp2
                  go_roundw
                  case rel => exact ⟨k + 1, _, by omega, by go_num, by first | rfl | trivial, HN.out, HJ1.out, below_drewN hw _⟩
                  case measure => simp [intOf]; omega
                · have d2 := HH1.out i (by omega)
                  have j0 : (0 : Int) ≤ (i : Int) := by omega
                  have j1 : (i : Int) < (n : Int) := by omega
                  have j2 : ¬ (i : Int) < 0 := by omega
                  have j3 : decide ((i : Int) < 0) = false := decide_eq_false (by omega)
                  by_cases hg : f i < f k
                  · have dg : decide (f i < f k) = true := decide_eq_true hg
                    have HN := hidd (BestAt.more hmx HMK.out hg)
                    clear hmx
                    go_wp2
                    go_quiet (exact Calls.quiet_of_same (HMq.out _))
                    go_wp2
                    go_roundw
                    case rel => exact ⟨k + 1, _, by omega, by go_num, by first | rfl | trivial, HN.out, HJ1.out, below_drewN hw _⟩
                    case measure => simp [intOf]; omega
                  · have dg : decide (f i < f k) = false := decide_eq_false hg
                    have HN := hidd (BestAt.less hi hMi hmx hg)
                    clear hmx
                    go_wp2
                    go_quiet (exact Calls.quiet_of_same (HMq.out _))
                    go_wp2
                    go_roundw
                    case rel => exact ⟨k + 1, _, by omega, by go_num, by first | rfl | trivial, HN.out, HJ1.out, below_drewN hw _⟩
                    case measure => simp [intOf]; omega
        · obtain rfl : k = n := by omega
          have hT := HG.out x HJ.out HBA.out
          clear HG HBA
          by_cases hx : x < 0
          · rw [if_pos hx] at hT
            subst hT
            go_wp2
            go_ret
            exact ⟨rfl, FW.out⟩
          · rw [if_neg hx] at hT
            subst hT
            go_wp2
            go_ret
            exact ⟨by first | rfl | simp, FW.out⟩
    · have HCK : Hid (∀ w1, Calls Tryd.prog 13 #[.agg #[.int .i64 p.temp, .int .i64 p.topk, .int .i64 p.topp, .int .i64 256, .int .u64 (p.seed : Int)]] w1 fun e w' => e = .returned (.int .i64 100) ∧ Below w1.heap.size w1 w') := fun w1 => (check_any (⟨p.temp, p.topk, p.topp, 256, p.seed⟩ : Prm) w1).mono fun e w' ⟨⟨er, h1, h2⟩, h3⟩ => by
        rcases h2 with ⟨o, _⟩ | ⟨_, rfl⟩
        · exact absurd o ok
        · exact ⟨h1, h3⟩
      have HCH := hidd (choose_bad (⟨p.temp, p.topk, p.topp, 256, p.seed⟩ : Prm) ok W (.slice ao n ca) (.slice none 0 0) (.slice bo l cl) pos)
      clear ok
      refine HCH.out.mono ?_
      rintro e w2 ⟨rfl, f3⟩
      replace r0 := fresh_cell f3 r0
      replace r1 := fresh_cell f3 r1
      replace r2 := fresh_cell f3 r2
      replace r3 := fresh_cell f3 r3
      replace r4 := fresh_cell f3 r4
      go_wp2_with fail
      refine (HCK.out _).mono ?_
      rintro e w3 ⟨rfl, f4⟩
      have F3 := hidd (fresh_trans (fresh_trans F2.out f3) f4)
      clear f3 f4
      go_wp2
      go_ret
      exact ⟨rfl, F3.out⟩
  · have HP2 : Hid (PrmAt ((w1.setCell ⟨w.heap.size, 3, none⟩ (.int .i64 256)).setCell ⟨w.heap.size, 1, none⟩ (.int .i64 1)) w.heap.size { p with pen := 256, topk := 1 }) := (hp1.pen 256).topk 1
    have F2 : Hid (Below w.heap.size w ((w1.setCell ⟨w.heap.size, 3, none⟩ (.int .i64 256)).setCell ⟨w.heap.size, 1, none⟩ (.int .i64 1))) := (F1.out.setCell (Nat.le_refl _) _).setCell (Nat.le_refl _) _
    have d0 : (p.temp != 0) = true := by simp [ht]
    have HGR : Hid (∀ x, (⟨p.temp, 1, p.topp, 256, p.seed⟩ : Prm).Ok → (∀ j, j < n → -16777216 ≤ f j ∧ f j ≤ 16777216) → BestAt (mayB l b) f n x → choi (⟨p.temp, 1, p.topp, 256, p.seed⟩ : Prm) pos (chOf (⟨p.temp, 1, p.topp, 256, p.seed⟩ : Prm) n 0 l f (fun _ => 0) b) = if x < 0 then 0 else x) := fun x ok hf hb => greedy_is ok rfl (.inr rfl) pos hf hb
    clear hp1 F1 ht
    go_wp2_with fail
    generalize (w1.setCell ⟨w.heap.size, 3, none⟩ (.int .i64 256)).setCell ⟨w.heap.size, 1, none⟩ (.int .i64 1) = W at *
    clear y0 y1 y2 y3 y4 z1 z4 d0
    have hI : In3 W ao none bo n ca 0 0 l cl f (fun _ => 0) b := ⟨(HLO.out).fresh F2.out, rd_nil, (HAL.out).fresh F2.out, HFB.out, hn, by omega, HTA.out.fresh F2.out⟩
    have HI := hidd hI
    have HDW := hidd (HD.out.fresh F2.out)
    have hrr := HP2.out
    have r0 : W.cell? ⟨w.heap.size, 0, none⟩ = some (.int .i64 p.temp) := hrr.c0
    have r1 : W.cell? ⟨w.heap.size, 1, none⟩ = some (.int .i64 1) := hrr.c1
    have r2 : W.cell? ⟨w.heap.size, 2, none⟩ = some (.int .i64 p.topp) := hrr.c2
    have r3 : W.cell? ⟨w.heap.size, 3, none⟩ = some (.int .i64 256) := hrr.c3
    have r4 : W.cell? ⟨w.heap.size, 4, none⟩ = some (.int .u64 (p.seed : Int)) := hrr.c4
    clear hrr hI
    by_cases ok : (⟨p.temp, 1, p.topp, 256, p.seed⟩ : Prm).Ok
    · have HOK := hidd ok
      have HCK : Hid (∀ w1, Calls Tryd.prog 13 #[.agg #[.int .i64 p.temp, .int .i64 1, .int .i64 p.topp, .int .i64 256, .int .u64 (p.seed : Int)]] w1 fun e w' => e = .returned (.int .i64 0) ∧ Below w1.heap.size w1 w') := fun w1 => (check_any (⟨p.temp, 1, p.topp, 256, p.seed⟩ : Prm) w1).mono fun e w' ⟨⟨er, h1, h2⟩, h3⟩ => by
        rcases h2 with ⟨_, rfl⟩ | ⟨o, _⟩
        · exact ⟨h1, h3⟩
        · exact absurd ok o
      have HG : Hid (∀ x, (∀ j, j < n → -16777216 ≤ f j ∧ f j ≤ 16777216) → BestAt (mayB l b) f n x → choi (⟨p.temp, 1, p.topp, 256, p.seed⟩ : Prm) pos (chOf (⟨p.temp, 1, p.topp, 256, p.seed⟩ : Prm) n 0 l f (fun _ => 0) b) = if x < 0 then 0 else x) := fun x hf hb => HGR.out x ok hf hb
      have HCH := hidd (choose_ok (⟨p.temp, 1, p.topp, 256, p.seed⟩ : Prm) ok HI.out HDW.out pos)
      generalize choi (⟨p.temp, 1, p.topp, 256, p.seed⟩ : Prm) pos (chOf (⟨p.temp, 1, p.topp, 256, p.seed⟩ : Prm) n 0 l f (fun _ => 0) b) = T at *
      clear ok
      refine HCH.out.mono ?_
      rintro e w2 ⟨rfl, f3⟩
      replace r0 := fresh_cell f3 r0
      replace r1 := fresh_cell f3 r1
      replace r2 := fresh_cell f3 r2
      replace r3 := fresh_cell f3 r3
      replace r4 := fresh_cell f3 r4
      go_wp2_with fail
      refine (HCK.out _).mono ?_
      rintro e w3 ⟨rfl, f4⟩
      have F3 := hidd (fresh_trans (fresh_trans F2.out f3) f4)
      clear f3 f4 r0 r1 r2 r3 r4 HCH HCK HGR
      go_wp2
      go_loopw [12, 13] (fun v i wr => ∃ (k : Nat) (x : Int), k ≤ n ∧ i = .int .i64 (k : Int) ∧ v = .int .i64 x ∧ Hid (BestAt (mayB l b) f k x) ∧ Hid (∀ j, j < k → -16777216 ≤ f j ∧ f j ≤ 16777216) ∧ Below w3.heap.size w3 wr) (fun _ i _ => n - (intOf i).toNat)
      case atStart => exact ⟨0, -1, Nat.zero_le _, by simp, by first | rfl | simp, BestAt.start _ _, fun j hj => absurd hj (by omega), Below.refl _ _⟩
      case round =>
        obtain ⟨k, x, hk, rfl, rfl, HBA, HJ, hw⟩ := hrel
        have FW := hidd (fresh_trans F3.out hw)
        by_cases hlt : k < n
        · obtain ⟨b1, o1, rfl, h1⟩ := (HLO.out.fresh FW.out).one (by omega)
          have d := h1 k hlt
          have i0 : (0 : Int) ≤ (k : Int) := by omega
          have i1 : (k : Int) < (n : Int) := by omega
          have HH1 := hidd h1
          clear h1
          by_cases q1 : 16777216 < f k
          · go_wp2
            go_ret
            exact ⟨rfl, FW.out⟩
          · by_cases q2 : f k < -16777216
            · go_wp2
              go_ret
              exact ⟨rfl, FW.out⟩
            · have HQ := hidd (show -16777216 ≤ f k ∧ f k ≤ 16777216 by omega)
              have HJ1 : Hid (∀ j, j < k + 1 → -16777216 ≤ f j ∧ f j ≤ 16777216) := fun j hj => by
                by_cases e : j = k
                · rw [e]; exact HQ.out
                · exact HJ.out j (by omega)
              have HMq : Hid (∀ j, Calls Tryd.prog 14 #[.slice bo l cl, .int .i64 (k : Int)] (wr.drewN j) fun e w' => e = .returned (.bool (mayB l b k)) ∧ w' = wr.drewN j) := fun j => may_any (HAL.out.fresh (fresh_trans FW.out (fresh_drewN wr j))) k
              cases hM : mayB l b k with
              | false =>
                rw [hM] at HMq
                have HN := hidd (HBA.out.skip hM)
                clear hM
                go_wp2
                go_quiet (exact Calls.quiet_of_same (HMq.out _))
                go_wp2
                go_roundw
                case rel => exact ⟨k + 1, x, by omega, by go_num, by first | rfl | trivial, HN.out, HJ1.out, below_drewN hw _⟩
                case measure => simp [intOf]; omega
              | true =>
                rw [hM] at HMq
                have HMK := hidd hM
                clear hM
                rcases HBA.out with ⟨rfl, hn0⟩ | ⟨i, hi, rfl, hMi, hmx⟩
                · have HN := hidd (BestAt.first (f := f) hn0 HMK.out)
                  clear hn0
                  go_wp2
                  go_quiet (exact Calls.quiet_of_same (HMq.out _))
                  go_wp2
                  go_roundw
                  case rel => exact ⟨k + 1, _, by omega, by go_num, by first | rfl | trivial, HN.out, HJ1.out, below_drewN hw _⟩
                  case measure => simp [intOf]; omega
                · have d2 := HH1.out i (by omega)
                  have j0 : (0 : Int) ≤ (i : Int) := by omega
                  have j1 : (i : Int) < (n : Int) := by omega
                  have j2 : ¬ (i : Int) < 0 := by omega
                  have j3 : decide ((i : Int) < 0) = false := decide_eq_false (by omega)
                  by_cases hg : f i < f k
                  · have dg : decide (f i < f k) = true := decide_eq_true hg
                    have HN := hidd (BestAt.more hmx HMK.out hg)
                    clear hmx
                    go_wp2
                    go_quiet (exact Calls.quiet_of_same (HMq.out _))
                    go_wp2
                    go_roundw
                    case rel => exact ⟨k + 1, _, by omega, by go_num, by first | rfl | trivial, HN.out, HJ1.out, below_drewN hw _⟩
                    case measure => simp [intOf]; omega
                  · have dg : decide (f i < f k) = false := decide_eq_false hg
                    have HN := hidd (BestAt.less hi hMi hmx hg)
                    clear hmx
                    go_wp2
                    go_quiet (exact Calls.quiet_of_same (HMq.out _))
                    go_wp2
                    go_roundw
                    case rel => exact ⟨k + 1, _, by omega, by go_num, by first | rfl | trivial, HN.out, HJ1.out, below_drewN hw _⟩
                    case measure => simp [intOf]; omega
        · obtain rfl : k = n := by omega
          have hT := HG.out x HJ.out HBA.out
          clear HG HBA
          by_cases hx : x < 0
          · rw [if_pos hx] at hT
            subst hT
            go_wp2
            go_ret
            exact ⟨rfl, FW.out⟩
          · rw [if_neg hx] at hT
            subst hT
            go_wp2
            go_ret
            exact ⟨by first | rfl | simp, FW.out⟩
    · have HCK : Hid (∀ w1, Calls Tryd.prog 13 #[.agg #[.int .i64 p.temp, .int .i64 1, .int .i64 p.topp, .int .i64 256, .int .u64 (p.seed : Int)]] w1 fun e w' => e = .returned (.int .i64 100) ∧ Below w1.heap.size w1 w') := fun w1 => (check_any (⟨p.temp, 1, p.topp, 256, p.seed⟩ : Prm) w1).mono fun e w' ⟨⟨er, h1, h2⟩, h3⟩ => by
        rcases h2 with ⟨o, _⟩ | ⟨_, rfl⟩
        · exact absurd o ok
        · exact ⟨h1, h3⟩
      have HCH := hidd (choose_bad (⟨p.temp, 1, p.topp, 256, p.seed⟩ : Prm) ok W (.slice ao n ca) (.slice none 0 0) (.slice bo l cl) pos)
      clear ok
      refine HCH.out.mono ?_
      rintro e w2 ⟨rfl, f3⟩
      replace r0 := fresh_cell f3 r0
      replace r1 := fresh_cell f3 r1
      replace r2 := fresh_cell f3 r2
      replace r3 := fresh_cell f3 r3
      replace r4 := fresh_cell f3 r4
      go_wp2_with fail
      refine (HCK.out _).mono ?_
      rintro e w3 ⟨rfl, f4⟩
      have F3 := hidd (fresh_trans (fresh_trans F2.out f3) f4)
      clear f3 f4
      go_wp2
      go_ret
      exact ⟨rfl, F3.out⟩
end Go.Proofs.YtjjfbpjejhjdiaaDoor
