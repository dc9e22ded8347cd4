import Derived.Test.YtokedgilehcdlaaGgH
namespace Go.Proofs.Ytokedgilehcdlaa
open Go.RowKit
/-! The law GaugeFalls. -/
set_option maxRecDepth 20000 in
set_option maxHeartbeats 3200000 in
theorem falls_bad {w : World} {ao : Option Addr} {n cap : Nat} {s m r : Int} (h : ¬ okG s m r) :
    Calls Try.prog 5 #[.agg #[.int .i64 s, .int .i64 m, .int .i64 r], .slice ao n cap] w fun e w' => e = .returned (.bool true) ∧ Below w.heap.size w w' := by
  have HC : Hid (∀ w1, Calls Try.prog 9 #[.agg #[.int .i64 s, .int .i64 m, .int .i64 r]] w1 fun e w' => e = .returned (.int .i64 1) ∧ Below w1.heap.size w1 w') := fun w1 => check_bad w1 h
  obtain ⟨b, HBB⟩ : ∃ b, Hid (b = decide (m = m ∧ 1 ≤ s ∧ s ≤ m ∧ 0 ≤ r ∧ r ≤ 3)) := ⟨_, rfl⟩
  have HR : Hid (∀ w1, Calls Try.prog 13 #[.agg #[.int .i64 s, .int .i64 m, .int .i64 r], .int .i64 m] w1 fun e w' => e = .returned (.bool b) ∧ Below w1.heap.size w1 w') := fun w1 => right_any w1 s m r m (by rw [HBB.out]; exact decide_eq_true_iff)
  have HG : Hid (GB (w.alloc (.cells #[.int .i64 s, .int .i64 m, .int .i64 r] 23)) w.heap.size s m r) := GB.new _ _ _ _
  have HF := hidd (fresh_alloc w (.cells #[.int .i64 s, .int .i64 m, .int .i64 r] 23))
  have HM : Hid (b = true → ¬ m ≤ 32) := fun q => by
    rw [HBB.out] at q
    have := of_decide_eq_true q
    unfold okG at h
    omega
  clear h HBB
  cases b with
  | true =>
    have d1 : decide (m ≤ 32) = false := decide_eq_false (HM.out rfl)
    go_enter Try.func5, Try.ntmps5
    go_wp2_with (first
      | (go_at_call 9; with_reducible refine (HC.out _).mono ?_; rintro e w2 ⟨rfl, hb2⟩; have HG2 := hidd (HG.out.fresh hb2); obtain ⟨c1, c2, c3⟩ := HG2.out.cells; have HF2 := hidd (HF.out.trans (hb2.mono HF.out.size)); clear hb2)
      | (go_at_call 13; with_reducible refine (HR.out _).mono ?_; rintro e w3 ⟨rfl, hb3⟩; have HG3 := hidd (HG2.out.fresh hb3); obtain ⟨e1, e2, e3⟩ := HG3.out.cells; have HF3 := hidd (HF2.out.trans (hb3.mono HF2.out.size)); clear hb3 c1 c2 c3))
    go_ret
    exact ⟨rfl, HF3.out⟩
  | false =>
    go_enter Try.func5, Try.ntmps5
    go_wp2_with (first
      | (go_at_call 9; with_reducible refine (HC.out _).mono ?_; rintro e w2 ⟨rfl, hb2⟩; have HG2 := hidd (HG.out.fresh hb2); obtain ⟨c1, c2, c3⟩ := HG2.out.cells; have HF2 := hidd (HF.out.trans (hb2.mono HF.out.size)); clear hb2)
      | (go_at_call 13; with_reducible refine (HR.out _).mono ?_; rintro e w3 ⟨rfl, hb3⟩; have HG3 := hidd (HG2.out.fresh hb3); obtain ⟨e1, e2, e3⟩ := HG3.out.cells; have HF3 := hidd (HF2.out.trans (hb3.mono HF2.out.size)); clear hb3 c1 c2 c3))
    go_ret
    exact ⟨rfl, HF3.out⟩
set_option maxRecDepth 20000 in
set_option maxHeartbeats 8000000 in
theorem falls_ok {w : World} {ao : Option Addr} {n cap : Nat} {f : Nat → Int} {s0 m r0 : Int} (hl : RdA w ao 1 n cap (fun i => .int .i64 (f i))) (h : okG s0 m r0) :
    Calls Try.prog 5 #[.agg #[.int .i64 s0, .int .i64 m, .int .i64 r0], .slice ao n cap] w fun e w' => e = .returned (.bool true) ∧ Below w.heap.size w w' := by
  have hn : n ≤ 9223372036854775807 := by have := hl.le; have := hl.top; unfold maxLen at this; omega
  have HC : Hid (∀ w1, Calls Try.prog 9 #[.agg #[.int .i64 s0, .int .i64 m, .int .i64 r0]] w1 fun e w' => e = .returned (.int .i64 0) ∧ Below w1.heap.size w1 w') := fun w1 => check_ok w1 h
  have hm : 1 ≤ m ∧ m ≤ 32 := ⟨h.1, h.2.1⟩
  have HR : Hid (∀ w1, Calls Try.prog 13 #[.agg #[.int .i64 s0, .int .i64 m, .int .i64 r0], .int .i64 m] w1 fun e w' => e = .returned (.bool true) ∧ Below w1.heap.size w1 w') := fun w1 => right_any w1 s0 m r0 m (by unfold okG at h; exact ⟨fun _ => by omega, fun _ => rfl⟩)
  have HG : Hid (GB (w.alloc (.cells #[.int .i64 s0, .int .i64 m, .int .i64 r0] 23)) w.heap.size s0 m r0) := GB.new _ _ _ _
  have HF0 := hidd (fresh_alloc w (.cells #[.int .i64 s0, .int .i64 m, .int .i64 r0] 23))
  have d1 : decide (m ≤ 32) = true := decide_eq_true hm.2
  have HL := hidd hl
  have HK := hidd h
  clear h hl
  go_enter Try.func5, Try.ntmps5
  go_wp2_with (first
    | (go_at_call 9; with_reducible refine (HC.out _).mono ?_; rintro e w2 ⟨rfl, hb2⟩; have HG2 := hidd (HG.out.fresh hb2); obtain ⟨c1, c2, c3⟩ := HG2.out.cells; have HF2 := hidd (HF0.out.trans (hb2.mono HF0.out.size)); clear hb2)
    | (go_at_call 13; with_reducible refine (HR.out _).mono ?_; rintro e w3 ⟨rfl, hb3⟩; have HG3 := hidd (HG2.out.fresh hb3); obtain ⟨e1, e2, e3⟩ := HG3.out.cells; have HF3 := hidd (HF2.out.trans (hb3.mono HF2.out.size)); clear hb3 c1 c2 c3))
  clear e1 e2 e3 HG HF0 HG2 HF2 HC HR d1
  go_loopw [7] (fun v wr => ∃ (i : Nat) (s r : Int), i ≤ 5 ∧ v = .int .i64 (i : Int) ∧ Hid (okG s m r) ∧ Hid (GB wr w.heap.size s m r) ∧ Hid (s ≤ fb i) ∧ Hid (0 < i → r = 0) ∧ Hid (Below w.heap.size w wr)) (fun v _ => 5 - (intOf v).toNat)
  case atStart => exact ⟨0, s0, r0, by omega, rfl, HK, HG3, by show _ ≤ _; have := HK.out; unfold okG at this; simp only [fb]; omega, fun h => absurd h (by omega), HF3⟩
  case round =>
    obtain ⟨i, s, r, hi, rfl, HO, HG, HB5, HR0, HF⟩ := hrel
    by_cases hlt : i < 5
    · have g0 : (i : Int) < 5 := by omega
      obtain ⟨tb, HTB⟩ : ∃ b, Hid (b = decide (i < n ∧ 2 ≤ f i ∧ f i ≤ 32)) := ⟨_, rfl⟩
      go_upto_region 9 with fail
      go_cut [33, 34, 35, 36, 37, 38, 39, 40, 41, 42, 43, 44, 45, 46, 47, 48, 49, 50] (fun _ _ _ _ _ _ _ _ _ _ _ _ _ _ _ _ _ vt wx => wx = wr ∧ vt = .bool tb)
      case first =>
        by_cases c1 : i < n
        · have dc1 : decide ((i : Int) < (n : Int)) = true := decide_eq_true (by omega)
          have dc1b : decide (i < n) = true := decide_eq_true c1
          obtain ⟨b1, o1, hu, hc⟩ := (HL.out.fresh HF.out).one (by omega)
          subst hu
          have ck := hc i c1
          have g1 : (i : Int) < (n : Int) := by omega
          clear hc
          by_cases c2 : 2 ≤ f i
          · have dc2 : decide (2 ≤ f i) = true := decide_eq_true c2
            by_cases c3 : f i ≤ 32
            · have dc3 : decide (f i ≤ 32) = true := decide_eq_true c3
              have ht : tb = true := by rw [HTB.out]; exact decide_eq_true ⟨c1, c2, c3⟩
              clear HTB; subst ht
              go_wp2_with fail
              go_meet
              case rel => exact ⟨rfl, rfl⟩
            · have dc3 : decide (f i ≤ 32) = false := decide_eq_false c3
              have ht : tb = false := by rw [HTB.out]; exact decide_eq_false (fun h => c3 h.2.2)
              clear HTB; subst ht
              go_wp2_with fail
              go_meet
              case rel => exact ⟨rfl, rfl⟩
          · have dc2 : decide (2 ≤ f i) = false := decide_eq_false c2
            have ht : tb = false := by rw [HTB.out]; exact decide_eq_false (fun h => c2 h.2.1)
            clear HTB; subst ht
            go_wp2_with fail
            go_meet
            case rel => exact ⟨rfl, rfl⟩
        · have dc1 : decide ((i : Int) < (n : Int)) = false := decide_eq_false (by omega)
          have dc1b : decide (i < n) = false := decide_eq_false c1
          have ht : tb = false := by rw [HTB.out]; exact decide_eq_false (fun h => c1 h.1)
          clear HTB; subst ht
          go_wp2_with fail
          go_meet
          case rel => exact ⟨rfl, rfl⟩
      case rest =>
        obtain ⟨hw, hs⟩ := hcut
        subst hs
        rw [hw]
        clear hw wc
        obtain ⟨N, HNN⟩ : ∃ N, Hid (N = nN n f i) := ⟨_, rfl⟩
        go_upto_if 50 with fail
        go_cut [8] (fun v wx => wx = wr ∧ v = .int .i64 N)
        case first =>
          by_cases c : i < n ∧ 2 ≤ f i ∧ f i ≤ 32
          · obtain ⟨b1, o1, hu, hc⟩ := (HL.out.fresh HF.out).one (by omega)
            subst hu
            have ck := hc i c.1
            have g1 : (i : Int) < (n : Int) := by omega
            have ht : tb = true := by rw [HTB.out]; exact decide_eq_true c
            have HE : Hid (N = f i) := by show _ = _; rw [HNN.out]; unfold nN; rw [if_pos c]
            clear HTB hc c; subst ht
            go_wp2_with fail
            go_meet
            case rel => exact ⟨rfl, by rw [HE.out]⟩
          · have ht : tb = false := by rw [HTB.out]; exact decide_eq_false c
            have HE : Hid (N = 2) := by show _ = _; rw [HNN.out]; unfold nN; rw [if_neg c]
            clear HTB c; subst ht
            go_wp2_with fail
            go_meet
            case rel => exact ⟨rfl, by rw [HE.out]⟩
        case rest =>
          obtain ⟨hw, hs⟩ := hcut
          subst hs
          rw [hw]
          clear hw wc HTB
          have HN2 := hidd (nN_in n f i)
          rw [← HNN.out] at HN2
          obtain ⟨x, HX⟩ : ∃ x, Hid (x = max (s / 2) 1) := ⟨_, rfl⟩
          have HS := hidd (fall_one (m := m) (r := r) (by have := HO.out.2.2.1; omega) HN2.out.1 HX.out)
          have HB : Hid (∀ w1, Calls Try.prog 14 #[.agg #[.int .i64 s, .int .i64 m, .int .i64 r], .int .i64 N, .int .i64 0] w1 fun e w' => e = .returned (.tuple #[.agg #[.int .i64 x, .int .i64 m, .int .i64 0], .int .i64 0]) ∧ Below w1.heap.size w1 w') := fun w1 => by
            have := next_ok w1 HO.out (n := N) (a := 0) (by have := HN2.out; omega) HN2.out.2 (by omega) (by have := HN2.out; omega)
            rwa [HS.out.1, HS.out.2.1] at this
          have HOK : Hid (okG x m 0) := by
            have := nG HO.out (n := N) (a := 0) (by have := HN2.out; omega) HN2.out.2 (by omega) (by have := HN2.out; omega)
            rwa [HS.out.1, HS.out.2.1] at this
          have HFB : Hid (x ≤ fb (i + 1)) := by show _ ≤ _; rw [HX.out]; exact fb_step hlt HB5.out
          have d1 : decide (s < x) = false := decide_eq_false (by have := HS.out.2.2; omega)
          obtain ⟨l1, l2, l3⟩ := HG.out.cells
          go_wp2_with (first
            | (go_at_call 14; with_reducible refine (HB.out _).mono ?_; rintro e w4 ⟨rfl, hb4⟩; have HG4 := hidd ((HG.out.fresh hb4).fresh (fresh_alloc w4 (.cells #[.int .i64 x, .int .i64 m, .int .i64 0] 23))); have HF4 := hidd ((HF.out.trans (hb4.mono HF.out.size)).alloc (Nat.le_trans HF.out.size hb4.size) (.cells #[.int .i64 x, .int .i64 m, .int .i64 0] 23)); have hz : w.heap.size < w4.heap.size := (HG.out.fresh hb4).lt; obtain ⟨j1, j2, j3⟩ := box3 w4 x m 0 23; clear l1 l2 l3; obtain ⟨l1, l2, l3⟩ := HG4.out.cells; clear hb4)
            | (refine wpList_store_row rfl 23 _ _ rfl w.heap.size #[.int .i64 x, .int .i64 m, .int .i64 0] rfl rfl 23 _ HG4.out (by kernel_rfl) rfl (all3 _ _ _) ?_))
          clear l1 l2 l3 j1 j2 j3 d1
          go_wp2
          go_roundw
          case rel => exact ⟨i + 1, x, 0, by omega, by go_num, HOK, HG4.out.put _ _ _, HFB, fun _ => rfl, below_setRow HF4.out (Nat.le_refl _) _⟩
          case measure => simp [intOf]; omega
    · have g0 : ¬ (i : Int) < 5 := by omega
      obtain rfl : r = 0 := HR0.out (by omega)
      obtain rfl : s = 1 := by have h1 := HB5.out; have h2 := HO.out; unfold okG at h2; rw [show i = 5 by omega] at h1; simp only [fb] at h1; omega
      obtain ⟨l1, l2, l3⟩ := HG.out.cells
      rename World => wA
      have HFA := HF
      clear HF HO HB5 HR0
      go_wp2
      clear l1 l2 l3
      go_loopw [11] (fun v wr => ∃ k : Nat, k ≤ 4 ∧ v = .int .i64 (k : Int) ∧ Hid (GB wr w.heap.size (rS m k) m (rR k)) ∧ Hid (Below w.heap.size w wr)) (fun v _ => 4 - (intOf v).toNat)
      case atStart => exact ⟨0, by omega, rfl, HG, HFA⟩
      case round =>
        obtain ⟨k, hk, rfl, HG, HF⟩ := hrel
        by_cases hlt : k < 4
        · have g0 : (k : Int) < 4 := by omega
          have HS := hidd (rest_one (m := m) hlt)
          have HO : Hid (okG 1 m (rR k)) := by
            show okG 1 m (rR k)
            unfold okG rR
            rw [if_pos hlt]
            omega
          obtain ⟨x, HX⟩ : ∃ x, Hid (x = rS m (k + 1)) := ⟨_, rfl⟩
          obtain ⟨y, HY⟩ : ∃ y, Hid (y = rR (k + 1)) := ⟨_, rfl⟩
          have HGi : Hid (GB wr w.heap.size 1 m (rR k)) := by
            have := HG.out
            rwa [show rS m k = 1 by unfold rS; rw [if_pos hlt]] at this
          obtain ⟨r, HR⟩ : ∃ r, Hid (r = rR k) := ⟨_, rfl⟩
          rw [← HR.out] at HGi HO HS
          have HB : Hid (∀ w1, Calls Try.prog 14 #[.agg #[.int .i64 1, .int .i64 m, .int .i64 r], .int .i64 1, .int .i64 0] w1 fun e w' => e = .returned (.tuple #[.agg #[.int .i64 x, .int .i64 m, .int .i64 y], .int .i64 0]) ∧ Below w1.heap.size w1 w') := fun w1 => by
            have := next_ok w1 HO.out (n := 1) (a := 0) (by omega) (by omega) (by omega) (by omega)
            rwa [HS.out.1, HS.out.2, ← HX.out, ← HY.out] at this
          obtain ⟨l1, l2, l3⟩ := HGi.out.cells
          go_wp2_with (first
            | (go_at_call 14; with_reducible refine (HB.out _).mono ?_; rintro e w4 ⟨rfl, hb4⟩; have HG4 := hidd ((HGi.out.fresh hb4).fresh (fresh_alloc w4 (.cells #[.int .i64 x, .int .i64 m, .int .i64 y] 23))); have HF4 := hidd ((HF.out.trans (hb4.mono HF.out.size)).alloc (Nat.le_trans HF.out.size hb4.size) (.cells #[.int .i64 x, .int .i64 m, .int .i64 y] 23)); have hz : w.heap.size < w4.heap.size := (HGi.out.fresh hb4).lt; obtain ⟨j1, j2, j3⟩ := box3 w4 x m y 23; clear l1 l2 l3; clear hb4)
            | (refine wpList_store_row rfl 23 _ _ rfl w.heap.size #[.int .i64 x, .int .i64 m, .int .i64 y] rfl rfl 23 _ HG4.out (by kernel_rfl) rfl (all3 _ _ _) ?_))
          clear j1 j2 j3
          go_wp2
          go_roundw
          case rel => exact ⟨k + 1, by omega, by go_num, by show GB _ _ _ _ _; rw [← HX.out, ← HY.out]; exact HG4.out.put _ _ _, below_setRow HF4.out (Nat.le_refl _) _⟩
          case measure => simp [intOf]; omega
        · obtain rfl : k = 4 := by omega
          obtain ⟨l1, l2, l3⟩ := HG.out.cells
          obtain ⟨x, HX⟩ : ∃ x, Hid (x = rS m 4) := ⟨_, rfl⟩
          rw [← HX.out] at l1
          have HX2 : Hid (x = min 2 m) := HX.out
          by_cases c : m < 2
          · have dm : decide (m < 2) = true := decide_eq_true c
            obtain rfl : x = m := by have := HX2.out; omega
            go_wp2
            go_ret
            exact ⟨rfl, HF.out⟩
          · have dm : decide (m < 2) = false := decide_eq_false c
            obtain rfl : x = 2 := by have := HX2.out; omega
            go_wp2
            go_ret
            exact ⟨rfl, HF.out⟩
end Go.Proofs.Ytokedgilehcdlaa
