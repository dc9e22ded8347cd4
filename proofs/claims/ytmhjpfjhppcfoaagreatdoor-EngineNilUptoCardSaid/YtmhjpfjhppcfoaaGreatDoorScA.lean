import Derived.Test.YtmhjpfjhppcfoaaGreatDoorRows
import Derived.Test.YtmhjpfjhppcfoaaGreatDoorScM
import Derived.Test.YtmhjpfjhppcfoaaGreatDoorMM
import Derived.RangeFuncRecord
import Derived.Deep.DeepCutAuto
namespace Go.Proofs.YtmhjpfjhppcfoaaGreatDoor
open Go.RowKit
/-! Check of both sides. -/
def mV (c : Me) : Value := .agg #[.int .i64 c.bs, .int .i64 c.bl, .int .i64 c.bu, .int .i64 c.ch, .int .i64 c.tr]
set_option maxRecDepth 20000 in
set_option maxHeartbeats 1600000 in
theorem within_any (x a b : Int) (r : Bool) (h : r = true ↔ a ≤ x ∧ x ≤ b) (w : World) :
    Calls Tryz.prog 109 #[.int .i64 x, .int .i64 a, .int .i64 b] w fun e w' => e = .returned (.bool r) ∧ w' = w := by
  have HH := hidd h
  clear h
  by_cases h1 : a ≤ x
  · by_cases h2 : x ≤ b
    · obtain rfl : r = true := HH.out.2 ⟨h1, h2⟩
      go_enter Tryz.func109, Tryz.ntmps109
      go_wp2
      go_ret
      try exact ⟨rfl, rfl⟩
    · obtain rfl : r = false := by rw [Bool.eq_false_iff]; exact fun q => h2 (HH.out.1 q).2
      go_enter Tryz.func109, Tryz.ntmps109
      go_wp2
      go_ret
      try exact ⟨rfl, rfl⟩
  · obtain rfl : r = false := by rw [Bool.eq_false_iff]; exact fun q => h1 (HH.out.1 q).1
    go_enter Tryz.func109, Tryz.ntmps109
    go_wp2
    go_ret
    try exact ⟨rfl, rfl⟩
theorem box5 (w : World) (a b c d e : Value) (ty : TypeId) : let w' := w.alloc (.cells #[a, b, c, d, e] ty); w'.cell? ⟨w.heap.size, 0, none⟩ = some a ∧ w'.cell? ⟨w.heap.size, 1, none⟩ = some b ∧ w'.cell? ⟨w.heap.size, 2, none⟩ = some c ∧ w'.cell? ⟨w.heap.size, 3, none⟩ = some d ∧ w'.cell? ⟨w.heap.size, 4, none⟩ = some e := by
  refine ⟨?_, ?_, ?_, ?_, ?_⟩ <;> (unfold World.cell?; rw [World.alloc_heap_new]; rfl)
theorem prod_bd {a b : Int} (h1 : 1 ≤ a) (h2 : a ≤ 256) (h3 : 1 ≤ b) (h4 : b ≤ 16) : 1 ≤ a * b ∧ a * b ≤ 4096 := by
  have u1 : a * 1 ≤ a * b := Int.mul_le_mul_of_nonneg_left h3 (by omega)
  have u2 : a * b ≤ 256 * b := Int.mul_le_mul_of_nonneg_right h2 (by omega)
  omega
set_option maxRecDepth 20000 in
set_option maxHeartbeats 1600000 in
theorem sck_any (w : World) (c : Me) (k x : Int) (h1 : okM c k → x = 0) (h2 : ¬ okM c k → x = 200) :
    Calls Tryz.prog 55 #[mV c, .int .i64 k] w fun e w' => e = .returned (.int .i64 x) ∧ Below w.heap.size w w' := by
  obtain ⟨bs, bl, bu, ch, tr⟩ := c
  have HW : Hid (∀ (x a b : Int) (r : Bool) (w : World), (r = true ↔ a ≤ x ∧ x ≤ b) → Calls Tryz.prog 109 #[.int .i64 x, .int .i64 a, .int .i64 b] w fun e w' => e = .returned (.bool r) ∧ w' = w) := fun x a b r w h => within_any x a b r h w
  obtain ⟨b1, e1⟩ : ∃ b : Bool, b = true ↔ 1 ≤ bs ∧ bs ≤ 256 := ⟨decide (1 ≤ bs ∧ bs ≤ 256), by simp⟩
  obtain ⟨b2, e2⟩ : ∃ b : Bool, b = true ↔ 1 ≤ bl ∧ bl ≤ 16 := ⟨decide (1 ≤ bl ∧ bl ≤ 16), by simp⟩
  obtain ⟨b3, e3⟩ : ∃ b : Bool, b = true ↔ 1 ≤ k ∧ k ≤ 64 := ⟨decide (1 ≤ k ∧ k ≤ 64), by simp⟩
  obtain ⟨b4, e4⟩ : ∃ b : Bool, b = true ↔ 1 ≤ bu ∧ bu ≤ 1024 := ⟨decide (1 ≤ bu ∧ bu ≤ 1024), by simp⟩
  obtain ⟨b5, e5⟩ : ∃ b : Bool, b = true ↔ 1 ≤ ch ∧ ch ≤ bu := ⟨decide (1 ≤ ch ∧ ch ≤ bu), by simp⟩
  obtain ⟨b6, e6⟩ : ∃ b : Bool, b = true ↔ 1 ≤ tr ∧ tr ≤ 32 := ⟨decide (1 ≤ tr ∧ tr ≤ 32), by simp⟩
  have H1 := hidd (fun w => HW.out bs 1 256 b1 w e1)
  have H2 := hidd (fun w => HW.out bl 1 16 b2 w e2)
  have H3 := hidd (fun w => HW.out k 1 64 b3 w e3)
  have H4 := hidd (fun w => HW.out bu 1 1024 b4 w e4)
  have H5 := hidd (fun w => HW.out ch 1 bu b5 w e5)
  have H6 := hidd (fun w => HW.out tr 1 32 b6 w e6)
  obtain ⟨pr, hp⟩ : ∃ pr, bs * bl = pr := ⟨_, rfl⟩
  have hpr : b1 = true → b2 = true → 1 ≤ pr ∧ pr ≤ 4096 := fun q1 q2 => by
    rw [← hp]; exact prod_bd (e1.1 q1).1 (e1.1 q1).2 (e2.1 q2).1 (e2.1 q2).2
  have hx1 : b1 = true → b2 = true → b3 = true → k ≤ pr → b4 = true → b5 = true → b6 = true → x = 0 := fun q1 q2 q3 q4 q5 q6 q7 => h1 (by
    have a1 := e1.1 q1; have a2 := e2.1 q2; have a3 := e3.1 q3; have a5 := e4.1 q5; have a6 := e5.1 q6; have a7 := e6.1 q7
    refine ⟨a3.1, a3.2, a1.1, a1.2, a2.1, a2.2, ?_, a6.1, a6.2, a5.2, a7.1, a7.2⟩
    show k ≤ bs * bl
    rw [hp]; exact q4)
  have hx2 : ¬ (b1 = true ∧ b2 = true ∧ b3 = true ∧ k ≤ pr ∧ b4 = true ∧ b5 = true ∧ b6 = true) → x = 200 := fun q => h2 (fun m => q (by
    obtain ⟨m1, m2, m3, m4, m5, m6, m7, m8, m9, m10, m11, m12⟩ := m
    simp only at m1 m2 m3 m4 m5 m6 m7 m8 m9 m10 m11 m12
    rw [hp] at m7
    exact ⟨e1.2 ⟨m3, m4⟩, e2.2 ⟨m5, m6⟩, e3.2 ⟨m1, m2⟩, m7, e4.2 ⟨by omega, m10⟩, e5.2 ⟨m8, m9⟩, e6.2 ⟨m11, m12⟩⟩))
  have HX1 := hidd hx1
  have HX2 := hidd hx2
  clear hx1 hx2 h1 h2 e1 e2 e3 e4 e5 e6 HW
  obtain ⟨c1, c2, c3, c4, c5⟩ := box5 w (.int .i64 bs) (.int .i64 bl) (.int .i64 bu) (.int .i64 ch) (.int .i64 tr) 37
  have HB : Hid (Below w.heap.size w (w.alloc (.cells #[.int .i64 bs, .int .i64 bl, .int .i64 bu, .int .i64 ch, .int .i64 tr] 37))) := fresh_alloc _ _
  unfold mV
  simp only
  go_enter Tryz.func55, Tryz.ntmps55
  go_upto_region 1 with fail
  generalize w.alloc (.cells #[.int .i64 bs, .int .i64 bl, .int .i64 bu, .int .i64 ch, .int .i64 tr] 37) = w1 at *
  have L1 : (b1 = false) ∨ (b1 = true ∧ b2 = false) ∨ (b1 = true ∧ b2 = true ∧ b3 = false) ∨ (b1 = true ∧ b2 = true ∧ b3 = true ∧ pr < k) ∨ (b1 = true ∧ b2 = true ∧ b3 = true ∧ k ≤ pr) := by
    cases b1 <;> cases b2 <;> cases b3 <;> simp <;> omega
  have L2 : (b4 = false) ∨ (b4 = true ∧ b5 = false) ∨ (b4 = true ∧ b5 = true ∧ b6 = false) ∨ (b4 = true ∧ b5 = true ∧ b6 = true) := by
    cases b4 <;> cases b5 <;> cases b6 <;> simp
  rcases L1 with rfl | ⟨rfl, rfl⟩ | ⟨rfl, rfl, rfl⟩ | ⟨rfl, rfl, rfl, hk⟩ | ⟨rfl, rfl, rfl, hk⟩ <;> rcases L2 with rfl | ⟨rfl, rfl⟩ | ⟨rfl, rfl, rfl⟩ | ⟨rfl, rfl, rfl⟩ <;> (try have hq := hpr rfl rfl) <;> clear hpr <;>
  ( (go_wp2_with (first
      | (go_at_call 109; with_reducible refine (H1.out _).mono ?_; rintro e w2 ⟨rfl, hw⟩; rw [hw]; clear hw)
      | (go_at_call 109; with_reducible refine (H2.out _).mono ?_; rintro e w2 ⟨rfl, hw⟩; rw [hw]; clear hw)
      | (go_at_call 109; with_reducible refine (H3.out _).mono ?_; rintro e w2 ⟨rfl, hw⟩; rw [hw]; clear hw)
      | (go_at_call 109; with_reducible refine (H4.out _).mono ?_; rintro e w2 ⟨rfl, hw⟩; rw [hw]; clear hw)
      | (go_at_call 109; with_reducible refine (H5.out _).mono ?_; rintro e w2 ⟨rfl, hw⟩; rw [hw]; clear hw)
      | (go_at_call 109; with_reducible refine (H6.out _).mono ?_; rintro e w2 ⟨rfl, hw⟩; rw [hw]; clear hw))) <;>
    go_ret <;>
    (refine ⟨ret_int ?_, HB.out⟩
     first
      | (refine (HX2.out ?_).symm; rintro ⟨q1, q2, q3, q4, q5, q6, q7⟩; first | omega | contradiction)
      | exact (HX1.out (by trivial) (by trivial) (by trivial) hk (by trivial) (by trivial) (by trivial)).symm))
set_option maxRecDepth 20000 in
set_option maxHeartbeats 1600000 in
theorem srck_any (w : World) (c : Me) (k x : Int) (h1 : okM c k → x = 0) (h2 : ¬ okM c k → x = 200) :
    Calls Tryz.prog 62 #[mV c, .int .i64 k] w fun e w' => e = .returned (.int .i64 x) ∧ Below w.heap.size w w' := by
  obtain ⟨bs, bl, bu, ch, tr⟩ := c
  have H1 := hidd h1
  have H2 := hidd h2
  obtain ⟨pr, hp⟩ : ∃ pr, bs * bl = pr := ⟨_, rfl⟩
  have hpr : 1 ≤ bs → bs ≤ 256 → 1 ≤ bl → bl ≤ 16 → 1 ≤ pr ∧ pr ≤ 4096 := fun q1 q2 q3 q4 => by
    rw [← hp]; exact prod_bd q1 q2 q3 q4
  obtain ⟨c1, c2, c3, c4, c5⟩ := box5 w (.int .i64 bs) (.int .i64 bl) (.int .i64 bu) (.int .i64 ch) (.int .i64 tr) 37
  have HB : Hid (Below w.heap.size w (w.alloc (.cells #[.int .i64 bs, .int .i64 bl, .int .i64 bu, .int .i64 ch, .int .i64 tr] 37))) := fresh_alloc _ _
  clear h1 h2
  unfold mV
  simp only
  go_enter Tryz.func62, Tryz.ntmps62
  go_upto_region 1 with fail
  generalize w.alloc (.cells #[.int .i64 bs, .int .i64 bl, .int .i64 bu, .int .i64 ch, .int .i64 tr] 37) = w1 at *
  have L1 : (¬ (1 ≤ bs ∧ bs ≤ 256)) ∨ ((1 ≤ bs ∧ bs ≤ 256) ∧ ¬ (1 ≤ bl ∧ bl ≤ 16)) ∨ ((1 ≤ bs ∧ bs ≤ 256) ∧ (1 ≤ bl ∧ bl ≤ 16)) := by omega
  rcases L1 with hq | ⟨hq, hr⟩ | ⟨hq, hr⟩
  · clear hpr
    rcases (show bs < 1 ∨ 256 < bs by omega) with hz | hz
    all_goals
      go_wp2
      all_goals
        go_ret
        refine ⟨ret_int ?_, HB.out⟩
        first
        | exact (H2.out (by unfold okM; simp only; omega)).symm
        | exact (H1.out (by unfold okM; simp only; omega)).symm
  · clear hpr
    rcases (show bl < 1 ∨ 16 < bl by omega) with hz | hz
    all_goals
      go_wp2
      all_goals
        go_ret
        refine ⟨ret_int ?_, HB.out⟩
        first
        | exact (H2.out (by unfold okM; simp only; omega)).symm
        | exact (H1.out (by unfold okM; simp only; omega)).symm
  · obtain ⟨p1, p2⟩ := hpr hq.1 hq.2 hr.1 hr.2
    clear hpr
    rcases (show pr < k ∨ k ≤ pr by omega) with hz | hz
    all_goals
      go_wp2
      all_goals
        go_ret
        refine ⟨ret_int ?_, HB.out⟩
        first
        | exact (H2.out (by unfold okM; simp only; rw [hp]; omega)).symm
        | exact (H1.out (by unfold okM; simp only; rw [hp]; omega)).symm
end Go.Proofs.YtmhjpfjhppcfoaaGreatDoor
