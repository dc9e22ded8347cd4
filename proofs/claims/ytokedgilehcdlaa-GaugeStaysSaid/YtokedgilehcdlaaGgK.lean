import Derived.Test.YtokedgilehcdlaaGgH
namespace Go.Proofs.Ytokedgilehcdlaa
open Go.RowKit
/-! The law GaugeStays. -/
def wtF (N A : Nat → Int) (j : Nat) : Value := if j % 2 = 0 then .int .i64 (N (j / 2)) else .int .i64 (A (j / 2))
theorem wtF_0 (N A : Nat → Int) (i : Nat) : wtF N A (i * 2) = .int .i64 (N i) := by unfold wtF; rw [if_pos (by omega), show i * 2 / 2 = i by omega]
theorem wtF_1 (N A : Nat → Int) (i : Nat) : wtF N A (i * 2 + 1) = .int .i64 (A i) := by unfold wtF; rw [if_neg (by omega), show (i * 2 + 1) / 2 = i by omega]
theorem RdA.went {w : World} {ao : Option Addr} {n cap : Nat} {N A : Nat → Int} (h : RdA w ao 2 n cap (wtF N A)) (hn : 0 < n) : ∃ b o, ao = some ⟨b, o, none⟩ ∧ ∀ i, i < n → w.cell? ⟨b, o + i * 2, none⟩ = some (.int .i64 (N i)) ∧ w.cell? ⟨b, o + i * 2 + 1, none⟩ = some (.int .i64 (A i)) := by
  obtain ⟨b, o, rfl, hc⟩ := h.at_ hn
  refine ⟨b, o, rfl, fun i hi => ⟨?_, ?_⟩⟩
  · rw [hc (i * 2) (by omega), wtF_0]
  · rw [show o + i * 2 + 1 = o + (i * 2 + 1) by omega, hc (i * 2 + 1) (by omega), wtF_1]
set_option maxRecDepth 20000 in
theorem long_any (w : World) (n : Nat) {b : Bool} (h : b = decide (2147483647 < (n : Int))) :
    Calls Try.prog 16 #[.int .i64 (n : Int)] w fun e w' => e = .returned (.bool b) ∧ w' = w := by
  go_enter Try.func16, Try.ntmps16
  subst h
  go_wp2
  go_ret
  exact ⟨rfl, rfl⟩
set_option maxRecDepth 20000 in
set_option maxHeartbeats 3200000 in
theorem stays_long {w : World} {ao : Option Addr} {n cap : Nat} (k : Int) (h : 2147483647 < n) :
    Calls Try.prog 8 #[.int .i64 k, .slice ao n cap] w fun e w' => e = .returned (.bool true) ∧ Below w.heap.size w w' := by
  have HL := hidd (long_any w n (b := true) (by rw [decide_eq_true (by omega)]))
  go_enter Try.func8, Try.ntmps8
  go_wp2_with (go_at_call 16; with_reducible refine HL.out.mono ?_; rintro e w9 ⟨rfl, hw⟩; rw [hw]; clear hw w9)
  go_ret
  exact ⟨rfl, Below.refl _ _⟩
set_option maxRecDepth 20000 in
set_option maxHeartbeats 3200000 in
theorem stays_bad {w : World} {ao : Option Addr} {n cap : Nat} {k : Int} (h : ¬ 2147483647 < n) (hk : ¬ (1 ≤ k ∧ k ≤ 32)) :
    Calls Try.prog 8 #[.int .i64 k, .slice ao n cap] w fun e w' => e = .returned (.bool true) ∧ Below w.heap.size w w' := by
  have HL := hidd (long_any w n (b := false) (by rw [decide_eq_false (by omega)]))
  have HN := hidd (new_bad w hk)
  by_cases c : k < 1
  · have d1 : decide (k < 1) = true := decide_eq_true c
    go_enter Try.func8, Try.ntmps8
    go_wp2_with (first
      | (go_at_call 16; with_reducible refine HL.out.mono ?_; rintro e w9 ⟨rfl, hw⟩; rw [hw]; clear hw w9)
      | (go_at_call 11; with_reducible refine HN.out.mono ?_; rintro e w2 ⟨rfl, hb2⟩; have HF2 := hidd (hb2.alloc hb2.size (.cells #[.int .i64 0, .int .i64 0, .int .i64 0] 23)); obtain ⟨c1, c2, c3⟩ := box3 w2 0 0 0 23; clear hb2))
    go_ret
    exact ⟨rfl, HF2.out⟩
  · have d1 : decide (k < 1) = false := decide_eq_false c
    have d2 : decide (32 < k) = true := decide_eq_true (by omega)
    go_enter Try.func8, Try.ntmps8
    go_wp2_with (first
      | (go_at_call 16; with_reducible refine HL.out.mono ?_; rintro e w9 ⟨rfl, hw⟩; rw [hw]; clear hw w9)
      | (go_at_call 11; with_reducible refine HN.out.mono ?_; rintro e w2 ⟨rfl, hb2⟩; have HF2 := hidd (hb2.alloc hb2.size (.cells #[.int .i64 0, .int .i64 0, .int .i64 0] 23)); obtain ⟨c1, c2, c3⟩ := box3 w2 0 0 0 23; clear hb2))
    go_ret
    exact ⟨rfl, HF2.out⟩
set_option maxRecDepth 20000 in
set_option maxHeartbeats 8000000 in
theorem stays_ok {w : World} {ao : Option Addr} {n cap : Nat} {N A : Nat → Int} {k : Int} (hl : RdA w ao 2 n cap (wtF N A)) (h : ¬ 2147483647 < n) (k1 : 1 ≤ k) (k2 : k ≤ 32) (hA : ∀ i, i < n → -9223372036854775808 ≤ A i ∧ A i ≤ 9223372036854775807) :
    Calls Try.prog 8 #[.int .i64 k, .slice ao n cap] w fun e w' => e = .returned (.bool true) ∧ Below w.heap.size w w' := by
  have HL := hidd (long_any w n (b := false) (by rw [decide_eq_false (by omega)]))
  obtain ⟨x, HX⟩ : ∃ x, Hid (x = min 4 k) := ⟨_, rfl⟩
  have HN := hidd (new_ok w k1 k2 HX.out)
  have HO0 : Hid (okG x k 0) := by show okG x k 0; unfold okG; have := HX.out; omega
  have HR : Hid (∀ w1, Calls Try.prog 13 #[.agg #[.int .i64 x, .int .i64 k, .int .i64 0], .int .i64 k] w1 fun e w' => e = .returned (.bool true) ∧ Below w1.heap.size w1 w') := fun w1 => right_any w1 x k 0 k ⟨fun _ => by have := HO0.out; unfold okG at this; omega, fun _ => rfl⟩
  have d1 : decide (k < 1) = false := decide_eq_false (by omega)
  have d2 : decide (32 < k) = false := decide_eq_false (by omega)
  have HLS := hidd hl
  have HAB := hidd hA
  clear hl hA
  go_enter Try.func8, Try.ntmps8
  go_wp2_with (first
    | (go_at_call 16; with_reducible refine HL.out.mono ?_; rintro e w9 ⟨rfl, hw⟩; rw [hw]; clear hw w9)
    | (go_at_call 11; with_reducible refine HN.out.mono ?_; rintro e w2 ⟨rfl, hb2⟩; have HF2 := hidd (hb2.alloc hb2.size (.cells #[.int .i64 x, .int .i64 k, .int .i64 0] 23)); obtain ⟨c1, c2, c3⟩ := box3 w2 x k 0 23; have hz2 := hb2.size; clear hb2)
    | (go_at_call 13; with_reducible refine (HR.out _).mono ?_; rintro e w3 ⟨rfl, hb3⟩; have HG3 := hidd ((GB.new w2 x k 0).fresh hb3); have HF3 := hidd (HF2.out.trans (hb3.mono HF2.out.size)); clear hb3))
  have HZ2 := hidd hz2
  clear c1 c2 c3 HF2 HL HN HR hz2
  obtain ⟨G, HGG⟩ : ∃ G, Hid (G = w2.heap.size) := ⟨_, rfl⟩
  rw [← HGG.out] at HG3 HZ2 ⊢
  go_loopw [7] (fun v wr => ∃ (i : Nat) (s r : Int), i ≤ n ∧ v = .int .i64 (i : Int) ∧ Hid (okG s k r) ∧ Hid (GB wr G s k r) ∧ Hid (Below w.heap.size w wr)) (fun v _ => n - (intOf v).toNat)
  case atStart => exact ⟨0, x, 0, by omega, rfl, HO0, HG3, HF3⟩
  case round =>
    obtain ⟨i, s, r, hi, rfl, HO, HG, HF⟩ := hrel
    by_cases hlt : i < n
    · have g0 : decide ((i : Int) < (n : Int)) = true := decide_eq_true (by omega)
      have g1 : (i : Int) < (n : Int) := by omega
      have g2 : decide (i < n) = true := decide_eq_true hlt
      obtain ⟨b1, o1, hu, hc⟩ := (HLS.out.fresh HF.out).went (by omega)
      subst hu
      obtain ⟨cN, cA⟩ := hc i hlt
      clear hc
      obtain ⟨p, HP⟩ : ∃ p, Hid (p = N i) := ⟨_, rfl⟩
      obtain ⟨a, HA⟩ : ∃ a, Hid (a = A i) := ⟨_, rfl⟩
      rw [← HP.out] at cN
      rw [← HA.out] at cA
      have HAI := hidd (HAB.out i hlt)
      rw [← HA.out] at HAI
      obtain ⟨l1, l2, l3⟩ := HG.out.cells
      by_cases hv : 1 ≤ p ∧ p ≤ 32 ∧ 0 ≤ a ∧ a ≤ p - 1
      · obtain ⟨v1, v2, v3, v4⟩ := hv
        obtain ⟨y, HY⟩ : ∃ y, Hid (y = nS s k r p a) := ⟨_, rfl⟩
        obtain ⟨z, HZ⟩ : ∃ z, Hid (z = nR s r p) := ⟨_, rfl⟩
        have HB : Hid (∀ w1, Calls Try.prog 14 #[.agg #[.int .i64 s, .int .i64 k, .int .i64 r], .int .i64 p, .int .i64 a] w1 fun e w' => e = .returned (.tuple #[.agg #[.int .i64 y, .int .i64 k, .int .i64 z], .int .i64 0]) ∧ Below w1.heap.size w1 w') := fun w1 => by
          rw [HY.out, HZ.out]; exact next_ok w1 HO.out v1 v2 v3 v4
        have HOK : Hid (okG y k z) := by rw [HY.out, HZ.out]; exact nG HO.out v1 v2 v3 v4
        have HR : Hid (∀ w1, Calls Try.prog 13 #[.agg #[.int .i64 y, .int .i64 k, .int .i64 z], .int .i64 k] w1 fun e w' => e = .returned (.bool true) ∧ Below w1.heap.size w1 w') := fun w1 => right_any w1 y k z k ⟨fun _ => by have := HOK.out; unfold okG at this; omega, fun _ => rfl⟩
        have HC : Hid (∀ w1, Calls Try.prog 9 #[.agg #[.int .i64 y, .int .i64 k, .int .i64 z]] w1 fun e w' => e = .returned (.int .i64 0) ∧ Below w1.heap.size w1 w') := fun w1 => check_ok w1 HOK.out
        have e1 : decide (p < 1) = false := decide_eq_false (by omega)
        have e2 : decide (32 < p) = false := decide_eq_false (by omega)
        have e3 : decide (a < 0) = false := decide_eq_false (by omega)
        have e4 : decide (p ≤ a) = false := decide_eq_false (by omega)
        go_wp2_with (first
          | (go_at_call 14; with_reducible refine (HB.out _).mono ?_; rintro e w4 ⟨rfl, hb4⟩; have HG4 := hidd ((HG.out.fresh hb4).fresh (fresh_alloc w4 (.cells #[.int .i64 y, .int .i64 k, .int .i64 z] 23))); have HF4 := hidd ((HF.out.trans (hb4.mono HF.out.size)).alloc (Nat.le_trans HF.out.size hb4.size) (.cells #[.int .i64 y, .int .i64 k, .int .i64 z] 23)); have hz : G < w4.heap.size := (HG.out.fresh hb4).lt; obtain ⟨j1, j2, j3⟩ := box3 w4 y k z 23; clear l1 l2 l3 cN cA; clear hb4)
          | (go_at_call 13; with_reducible refine (HR.out _).mono ?_; rintro e w5 ⟨rfl, hb5⟩; have HG5 := hidd (HG4.out.fresh hb5); have HF5 := hidd (HF4.out.trans (hb5.mono HF4.out.size)); have i1 := fresh_cell hb5 j1; have i2 := fresh_cell hb5 j2; have i3 := fresh_cell hb5 j3; clear j1 j2 j3 hb5)
          | (go_at_call 9; with_reducible refine (HC.out _).mono ?_; rintro e w6 ⟨rfl, hb6⟩; have HG6 := hidd (HG5.out.fresh hb6); have HF6 := hidd (HF5.out.trans (hb6.mono HF5.out.size)); have j1 := fresh_cell hb6 i1; have j2 := fresh_cell hb6 i2; have j3 := fresh_cell hb6 i3; clear i1 i2 i3 hb6)
          | (refine wpList_store_row rfl 23 _ _ rfl G #[.int .i64 y, .int .i64 k, .int .i64 z] rfl rfl 23 _ HG6.out (by kernel_rfl) rfl (all3 _ _ _) ?_))
        clear j1 j2 j3 e1 e2 e3 e4
        go_wp2
        go_roundw
        case rel => exact ⟨i + 1, y, z, by omega, by go_num, HOK, HG6.out.put _ _ _, below_setRow HF6.out HZ2.out _⟩
        case measure => simp [intOf]; omega
      · have HB : Hid (∀ w1, Calls Try.prog 14 #[.agg #[.int .i64 s, .int .i64 k, .int .i64 r], .int .i64 p, .int .i64 a] w1 fun e w' => e = .returned (.tuple #[.agg #[.int .i64 0, .int .i64 0, .int .i64 0], .int .i64 1]) ∧ Below w1.heap.size w1 w') := fun w1 => next_bad w1 (fun q => hv q.2) HAI.out.1 HAI.out.2
        have hh : p < 1 ∨ (1 ≤ p ∧ 32 < p) ∨ (1 ≤ p ∧ p ≤ 32 ∧ a < 0) ∨ (1 ≤ p ∧ p ≤ 32 ∧ 0 ≤ a ∧ p ≤ a) := by omega
        clear hv
        rcases hh with v1 | ⟨v1, v2⟩ | ⟨v1, v2, v3⟩ | ⟨v1, v2, v3, v4⟩
        · have e1 : decide (p < 1) = true := decide_eq_true v1
          go_wp2_with (go_at_call 14; with_reducible refine (HB.out _).mono ?_; rintro e w4 ⟨rfl, hb4⟩; have HG4 := hidd ((HG.out.fresh hb4).fresh (fresh_alloc w4 (.cells #[.int .i64 0, .int .i64 0, .int .i64 0] 23))); have HF4 := hidd ((HF.out.trans (hb4.mono HF.out.size)).alloc (Nat.le_trans HF.out.size hb4.size) (.cells #[.int .i64 0, .int .i64 0, .int .i64 0] 23)); obtain ⟨j1, j2, j3⟩ := box3 w4 0 0 0 23; clear l1 l2 l3 cN cA; clear hb4)
          go_roundw
          case rel => exact ⟨i + 1, s, r, by omega, by go_num, HO, HG4, HF4⟩
          case measure => simp [intOf]; omega
        · have e1 : decide (p < 1) = false := decide_eq_false (by omega)
          have e2 : decide (32 < p) = true := decide_eq_true v2
          go_wp2_with (go_at_call 14; with_reducible refine (HB.out _).mono ?_; rintro e w4 ⟨rfl, hb4⟩; have HG4 := hidd ((HG.out.fresh hb4).fresh (fresh_alloc w4 (.cells #[.int .i64 0, .int .i64 0, .int .i64 0] 23))); have HF4 := hidd ((HF.out.trans (hb4.mono HF.out.size)).alloc (Nat.le_trans HF.out.size hb4.size) (.cells #[.int .i64 0, .int .i64 0, .int .i64 0] 23)); obtain ⟨j1, j2, j3⟩ := box3 w4 0 0 0 23; clear l1 l2 l3 cN cA; clear hb4)
          go_roundw
          case rel => exact ⟨i + 1, s, r, by omega, by go_num, HO, HG4, HF4⟩
          case measure => simp [intOf]; omega
        · have e1 : decide (p < 1) = false := decide_eq_false (by omega)
          have e2 : decide (32 < p) = false := decide_eq_false (by omega)
          have e3 : decide (a < 0) = true := decide_eq_true v3
          go_wp2_with (go_at_call 14; with_reducible refine (HB.out _).mono ?_; rintro e w4 ⟨rfl, hb4⟩; have HG4 := hidd ((HG.out.fresh hb4).fresh (fresh_alloc w4 (.cells #[.int .i64 0, .int .i64 0, .int .i64 0] 23))); have HF4 := hidd ((HF.out.trans (hb4.mono HF.out.size)).alloc (Nat.le_trans HF.out.size hb4.size) (.cells #[.int .i64 0, .int .i64 0, .int .i64 0] 23)); obtain ⟨j1, j2, j3⟩ := box3 w4 0 0 0 23; clear l1 l2 l3 cN cA; clear hb4)
          go_roundw
          case rel => exact ⟨i + 1, s, r, by omega, by go_num, HO, HG4, HF4⟩
          case measure => simp [intOf]; omega
        · have e1 : decide (p < 1) = false := decide_eq_false (by omega)
          have e2 : decide (32 < p) = false := decide_eq_false (by omega)
          have e3 : decide (a < 0) = false := decide_eq_false (by omega)
          have e4 : decide (p ≤ a) = true := decide_eq_true v4
          go_wp2_with (go_at_call 14; with_reducible refine (HB.out _).mono ?_; rintro e w4 ⟨rfl, hb4⟩; have HG4 := hidd ((HG.out.fresh hb4).fresh (fresh_alloc w4 (.cells #[.int .i64 0, .int .i64 0, .int .i64 0] 23))); have HF4 := hidd ((HF.out.trans (hb4.mono HF.out.size)).alloc (Nat.le_trans HF.out.size hb4.size) (.cells #[.int .i64 0, .int .i64 0, .int .i64 0] 23)); obtain ⟨j1, j2, j3⟩ := box3 w4 0 0 0 23; clear l1 l2 l3 cN cA; clear hb4)
          go_roundw
          case rel => exact ⟨i + 1, s, r, by omega, by go_num, HO, HG4, HF4⟩
          case measure => simp [intOf]; omega
    · have g0 : decide ((i : Int) < (n : Int)) = false := decide_eq_false (by omega)
      have g2 : decide (i < n) = false := decide_eq_false hlt
      go_wp2
      go_ret
      exact ⟨rfl, HF.out⟩
end Go.Proofs.Ytokedgilehcdlaa
