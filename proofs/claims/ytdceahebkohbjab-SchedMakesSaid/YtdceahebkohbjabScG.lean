import Derived.Test.YtdceahebkohbjabScF
namespace Go.Proofs.Ytdceahebkohbjab
open Go.RowKit
/-! wants. -/
theorem min3 {a b c m : Int} (h : m = min (min a b) c) (ats : Array TypeId) (ty : TypeId) (w : World) : (Builtin.min_ ats ty #[.int .i64 a, .int .i64 b, .int .i64 c]).run Try.prog w = .ok (.int .i64 m) w := by
  have e : (Builtin.min_ ats ty #[.int .i64 a, .int .i64 b, .int .i64 c]).run Try.prog w = .ok (.int .i64 (if c < (if b < a then b else a) then c else (if b < a then b else a))) w := by simp [Builtin.min_, Builtin.min2]
  rw [e, h]
  congr 2
  split <;> split at * <;> omega
theorem max2 {a b m : Int} (h : m = max a b) (ats : Array TypeId) (ty : TypeId) (w : World) : (Builtin.max_ ats ty #[.int .i64 a, .int .i64 b]).run Try.prog w = .ok (.int .i64 m) w := by
  have e : (Builtin.max_ ats ty #[.int .i64 a, .int .i64 b]).run Try.prog w = .ok (.int .i64 (if b > a then b else a)) w := by simp [Builtin.max_, Builtin.max2]
  rw [e, h]
  congr 2
  split <;> omega
theorem min2 {a b m : Int} (h : m = min a b) (ats : Array TypeId) (ty : TypeId) (w : World) : (Builtin.min_ ats ty #[.int .i64 a, .int .i64 b]).run Try.prog w = .ok (.int .i64 m) w := by
  have e : (Builtin.min_ ats ty #[.int .i64 a, .int .i64 b]).run Try.prog w = .ok (.int .i64 (if b < a then b else a)) w := by simp [Builtin.min_, Builtin.min2]
  rw [e, h]
  congr 2
  split <;> omega
set_option maxRecDepth 100000 in
set_option maxHeartbeats 1600000 in
theorem wants_any {w : World} {b : Nat} {c : Me} {sv : Value} {out0 : Nat → Bool} {left given : Int} {vO vZ : Value}
    (hD : DkA w b c sv out0 left given vO vZ) (s : Se) (hc : okM c 1) (hk : okS c s) :
    Calls Try.prog 41 #[.pointer (some ⟨b, 0, none⟩), seV s] w fun e w' => e = .returned (.tuple #[.int .i64 (mst c s left), .int .i64 (lst c s left)]) ∧ Below w.heap.size w w' := by
  have HRE := hidd (rest_any s hk.1 hk.2.1 hk.2.2.1 hk.2.2.2.1)
  have HFI := hidd (fun r hr => fills_any s hk.1 hk.2.1 hk.2.2.1 hk.2.2.2.1 r hr)
  obtain ⟨w0, HW0⟩ : ∃ w0, Hid (w0 = w.alloc (.cells #[.int .i64 s.id, .int .i64 s.kn, .int .i64 s.ca, .int .i64 s.wa, .slice s.ho s.hn s.hc] 32)) := ⟨_, rfl⟩
  have HB0 : Hid (Below w.heap.size w w0) := by rw [HW0.out]; exact fresh_alloc _ _
  have hbx := box5 w (.int .i64 s.id) (.int .i64 s.kn) (.int .i64 s.ca) (.int .i64 s.wa) (.slice s.ho s.hn s.hc) 32
  simp only at hbx
  rw [← HW0.out] at hbx
  obtain ⟨e0, e1, e2, e3, e4⟩ := hbx
  have dc := (hD.fresh HB0.out).cells
  have d3 := dc.c3
  have d4 := dc.c4
  have d22 := dc.c22
  have hr1 : rst s ≤ 63 := by unfold rst; have := hk.2.1; have := hk.2.2.1; omega
  have hr0 : 0 ≤ rst s := by unfold rst; have := hk.2.2.2.1; omega
  have hch : 1 ≤ c.ch ∧ c.ch ≤ 1024 := by have := hc.2.2.2.2.2.2.2.1; have := hc.2.2.2.2.2.2.2.2.1; have := hc.2.2.2.2.2.2.2.2.2.1; omega
  by_cases hf : 0 < rst s
  · have HF1 := hidd (HFI.out true ⟨fun _ => hf, fun _ => rfl⟩)
    have HM : Hid (mst c s left = min (min (rst s) c.ch) left) := by unfold mst; exact if_pos hf
    have HL : Hid (lst c s left = min (min (rst s) c.ch) left) := by unfold lst; exact if_pos hf
    rw [HM.out, HL.out]
    clear HM HL HFI hf dc hD hk hc
    unfold seV at *
    generalize rst s = rs at *
    generalize c.ch = ch at *
    obtain ⟨m, hm⟩ : ∃ m, m = min (min rs ch) left := ⟨_, rfl⟩
    have hmin := fun ats ty w => min3 hm ats ty w
    have HM := hidd hm
    rw [← HM.out]
    clear hm
    go_enter Try.func41, Try.ntmps41
    go_upto_region 1 with fail
    rw [← HW0.out]
    go_upto_region 2 with (go_at_call 44; with_reducible refine (HF1.out _).mono ?_; rintro e w2 ⟨rfl, hb2⟩)
    have HB2 := hidd (HB0.out.trans (hb2.mono HB0.out.size))
    have l0 := later_cell (fresh_cell hb2 e0)
    have l1 := later_cell (fresh_cell hb2 e1)
    have l2 := later_cell (fresh_cell hb2 e2)
    have l3 := later_cell (fresh_cell hb2 e3)
    have l4 := later_cell (fresh_cell hb2 e4)
    have l5 := later_cell (fresh_cell hb2 d3)
    have l6 := later_cell (fresh_cell hb2 d22)
    have ne := later_some w2
    clear e0 e1 e2 e3 e4 d3 d4 d22 hb2
    refine wp_region_later (by kernel_rfl) (by kernel_rfl) ?_
    repeat (go_big_quiet_step (fail))
    go_big_quiet_step (exact later_of (HRE.out _))
    repeat (go_big_quiet_step (fail))
    refine wpQuiet_nil ?_
    rintro _ ⟨z, rfl⟩
    have HZ := hidd (HB2.out.trans (z.fresh.mono HB2.out.size))
    go_wp2
    go_ret2
    exact ⟨rfl, HZ.out⟩
  · have HF1 := hidd (HFI.out false ⟨fun q => (by cases q), fun q => absurd q hf⟩)
    have HM : Hid (mst c s left = min (min (max s.wa 1) c.tr) left) := by unfold mst; exact if_neg hf
    have HL : Hid (lst c s left = 1) := by unfold lst; exact if_neg hf
    rw [HM.out, HL.out]
    clear HM HL HFI hf dc hD hk hc
    unfold seV at *
    generalize rst s = rs at *
    generalize c.tr = tr at *
    obtain ⟨x, hx⟩ : ∃ x, x = max s.wa 1 := ⟨_, rfl⟩
    rw [← hx]
    obtain ⟨m, hm⟩ : ∃ m, m = min (min x tr) left := ⟨_, rfl⟩
    have hmin := fun ats ty w => min3 hm ats ty w
    have hmax := fun ats ty w => max2 hx ats ty w
    have HM := hidd hm
    rw [← HM.out]
    clear hm hx
    go_enter Try.func41, Try.ntmps41
    go_upto_region 1 with fail
    rw [← HW0.out]
    go_upto_region 4 with (go_at_call 44; with_reducible refine (HF1.out _).mono ?_; rintro e w2 ⟨rfl, hb2⟩)
    have HB2 := hidd (HB0.out.trans (hb2.mono HB0.out.size))
    have l3 := later_cell (fresh_cell hb2 e3)
    have l5 := later_cell (fresh_cell hb2 d4)
    have l6 := later_cell (fresh_cell hb2 d22)
    have ne := later_some w2
    clear e0 e1 e2 e3 e4 d3 d4 d22 hb2
    refine wp_region_later (by kernel_rfl) (by kernel_rfl) ?_
    repeat (go_big_quiet_step (fail))
    refine wpQuiet_nil ?_
    rintro _ ⟨z, rfl⟩
    have HZ := hidd (HB2.out.trans (z.fresh.mono HB2.out.size))
    go_wp2
    go_ret2
    exact ⟨rfl, HZ.out⟩
end Go.Proofs.Ytdceahebkohbjab
