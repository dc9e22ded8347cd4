import Derived.Test.YtdceahebkohbjabScO
namespace Go.Proofs.Ytdceahebkohbjab
open Go.RowKit
/-! The reference's Need, may, Seats. -/
set_option maxRecDepth 20000 in
set_option maxHeartbeats 1600000 in
theorem rneed_any (c : Me) (x : Int) (h1 : 1 ≤ c.bl) (h2 : c.bl ≤ 16) (h3 : 0 ≤ x) (h4 : x ≤ 1000000) (w : World) :
    Calls Try.prog 49 #[.int .i64 x, .int .i64 c.bl] w fun e w' => e = .returned (.int .i64 (need c x)) ∧ w' = w := by
  have HE : Hid ((x + c.bl - 1) / c.bl = need c x) := rfl
  generalize need c x = y at *
  generalize c.bl = b at *
  have hb : ¬ b = 0 := by omega
  go_enter Try.func49, Try.ntmps49
  go_wp2
  go_ret
  exact ⟨ret_int HE.out, rfl⟩
theorem RdA.firsts {w : World} {ao : Option Addr} {sz n m cap : Nat} {cs : Nat → Value} (h : RdA w ao sz n cap cs) (hm : m ≤ n) : RdA w ao sz m cap cs :=
  ⟨by have := h.le; omega, h.top, fun h0 => by
    obtain ⟨b, off, e, hc⟩ := h.at_ (by omega)
    exact ⟨b, off, e, fun j hj => hc j (Nat.lt_of_lt_of_le hj (Nat.mul_le_mul_right sz hm))⟩⟩
theorem okB_nextI {c : Me} {k : Nat} {H : Nat → Int} (h : okB c k H) (h0 : 0 ≤ H k) (hb : H k < c.bs) (hn : hasI H k (H k) = false) : okB c (k + 1) H := by
  refine ⟨fun j hj => ?_, fun i j hij hj => ?_⟩
  · by_cases e : j = k
    · rw [e]; exact ⟨h0, hb⟩
    · exact h.1 j (by omega)
  · by_cases e : j = k
    · intro q
      rw [e] at q
      have := (hasI_iff H k (H k)).2 ⟨i, by omega, q⟩
      rw [hn] at this
      cases this
    · exact h.2 i j hij (by omega)
set_option maxRecDepth 100000 in
set_option maxHeartbeats 4000000 in
theorem rmay_any {w : World} (c : Me) (hc : okM c 1) (s : Se) (hs : RdA w s.ho 1 s.hn s.hc (fun j => .int .i64 (s.H j))) (r : Bool) (hr : r = true ↔ okS c s) :
    Calls Try.prog 32 #[mV c, seV s] w fun e w' => e = .returned (.bool r) ∧ Below w.heap.size w w' := by
  have HR := hidd hr
  have HC := hidd hc
  have HS := hidd hs
  obtain ⟨w0, HW0⟩ : ∃ w0, Hid (w0 = (w.alloc (.cells #[.int .i64 c.bs, .int .i64 c.bl, .int .i64 c.bu, .int .i64 c.ch, .int .i64 c.tr] 23)).alloc (.cells #[.int .i64 s.id, .int .i64 s.kn, .int .i64 s.ca, .int .i64 s.wa, .slice s.ho s.hn s.hc] 32)) := ⟨_, rfl⟩
  have HB0 : Hid (Below w.heap.size w w0) := by rw [HW0.out]; exact ((Below.refl _ w).alloc (Nat.le_refl _) _).alloc (by simp) _
  have hbx := box5 w (.int .i64 c.bs) (.int .i64 c.bl) (.int .i64 c.bu) (.int .i64 c.ch) (.int .i64 c.tr) 23
  have hby := box5 (w.alloc (.cells #[.int .i64 c.bs, .int .i64 c.bl, .int .i64 c.bu, .int .i64 c.ch, .int .i64 c.tr] 23)) (.int .i64 s.id) (.int .i64 s.kn) (.int .i64 s.ca) (.int .i64 s.wa) (.slice s.ho s.hn s.hc) 32
  simp only at hbx hby
  have hs1 : (w.alloc (.cells #[.int .i64 c.bs, .int .i64 c.bl, .int .i64 c.bu, .int .i64 c.ch, .int .i64 c.tr] 23)).heap.size = w.heap.size + 1 := by simp
  rw [← HW0.out, hs1] at hby
  obtain ⟨u0, u1, _, _, _⟩ := hbx
  have hfa := fresh_alloc (w.alloc (.cells #[.int .i64 c.bs, .int .i64 c.bl, .int .i64 c.bu, .int .i64 c.ch, .int .i64 c.tr] 23)) (.cells #[.int .i64 s.id, .int .i64 s.kn, .int .i64 s.ca, .int .i64 s.wa, .slice s.ho s.hn s.hc] 32)
  rw [← HW0.out] at hfa
  replace u0 := fresh_cell hfa u0
  replace u1 := fresh_cell hfa u1
  obtain ⟨_, t1, t2, _, t4⟩ := hby
  obtain ⟨y1, HY1⟩ : ∃ y, Hid (y = s.kn) := ⟨_, rfl⟩
  obtain ⟨y2, HY2⟩ : ∃ y, Hid (y = s.ca) := ⟨_, rfl⟩
  obtain ⟨hn0, HHN⟩ : ∃ y, Hid (y = s.hn) := ⟨_, rfl⟩
  obtain ⟨hc0, HHC⟩ : ∃ y, Hid (y = s.hc) := ⟨_, rfl⟩
  obtain ⟨ho, HHO⟩ : ∃ y, Hid (y = s.ho) := ⟨_, rfl⟩
  obtain ⟨nd, HNE⟩ : ∃ y, Hid (y = need c y2) := ⟨_, rfl⟩
  have hmm : hn0 ≤ 9223372036854775807 := by rw [HHN.out]; have := hs.le; have := hs.top; unfold maxLen at this; omega
  rw [← HHN.out, ← HHC.out, ← HHO.out] at t4 HS
  rw [← HY1.out] at t1
  rw [← HY2.out] at t2
  have HBX : Hid (∀ z, Below w0.heap.size w0 z → z.cell? ⟨w.heap.size, 0, none⟩ = some (.int .i64 c.bs) ∧ z.cell? ⟨w.heap.size + 1, 4, none⟩ = some (.slice ho hn0 hc0)) := fun z hz => ⟨fresh_cell hz u0, fresh_cell hz t4⟩
  have l1 := later_cell t1
  have l2 := later_cell t2
  have l4 := later_cell t4
  have l6 := later_cell u1
  have ne := later_some w0
  clear hfa u0 u1 t1 t2 t4 hs1 hs hc hr
  unfold mV seV
  go_enter Try.func32, Try.ntmps32
  go_upto_region 1 with fail
  rw [← HW0.out]
  by_cases a1 : y1 < 1
  · have d1 : decide (y1 < 1) = true := decide_eq_true a1
    obtain rfl : r = false := by
      rw [Bool.eq_false_iff]
      intro q
      have hq := HR.out.1 q
      have h9 := hq.1
      rw [← HY1.out] at h9
      omega
    clear a1
    refine wp_region_later (by kernel_rfl) (by kernel_rfl) ?_
    repeat (go_big_quiet_step (fail))
    refine wpQuiet_nil ?_
    rintro _ ⟨z, rfl⟩
    have HZ := hidd (HB0.out.trans (z.fresh.mono HB0.out.size))
    go_wp2
    go_ret
    exact ⟨rfl, HZ.out⟩
  have d1 : decide (y1 < 1) = false := decide_eq_false a1
  by_cases a2 : 64 < y1
  · have d2 : decide (64 < y1) = true := decide_eq_true a2
    obtain rfl : r = false := by
      rw [Bool.eq_false_iff]
      intro q
      have hq := HR.out.1 q
      have h9 := hq.2.1
      rw [← HY1.out] at h9
      omega
    clear a1 a2
    refine wp_region_later (by kernel_rfl) (by kernel_rfl) ?_
    repeat (go_big_quiet_step (fail))
    refine wpQuiet_nil ?_
    rintro _ ⟨z, rfl⟩
    have HZ := hidd (HB0.out.trans (z.fresh.mono HB0.out.size))
    go_wp2
    go_ret
    exact ⟨rfl, HZ.out⟩
  have d2 : decide (64 < y1) = false := decide_eq_false a2
  by_cases a3 : y2 < 0
  · have d3 : decide (y2 < 0) = true := decide_eq_true a3
    obtain rfl : r = false := by
      rw [Bool.eq_false_iff]
      intro q
      have hq := HR.out.1 q
      have h9 := hq.2.2.1
      rw [← HY2.out] at h9
      omega
    clear a1 a2 a3
    refine wp_region_later (by kernel_rfl) (by kernel_rfl) ?_
    repeat (go_big_quiet_step (fail))
    refine wpQuiet_nil ?_
    rintro _ ⟨z, rfl⟩
    have HZ := hidd (HB0.out.trans (z.fresh.mono HB0.out.size))
    go_wp2
    go_ret
    exact ⟨rfl, HZ.out⟩
  have d3 : decide (y2 < 0) = false := decide_eq_false a3
  by_cases a4 : y1 ≤ y2
  · have d4 : decide (y1 ≤ y2) = true := decide_eq_true a4
    obtain rfl : r = false := by
      rw [Bool.eq_false_iff]
      intro q
      have hq := HR.out.1 q
      have h9 := hq.2.2.2.1
      rw [← HY2.out, ← HY1.out] at h9
      omega
    clear a1 a2 a3 a4
    refine wp_region_later (by kernel_rfl) (by kernel_rfl) ?_
    repeat (go_big_quiet_step (fail))
    refine wpQuiet_nil ?_
    rintro _ ⟨z, rfl⟩
    have HZ := hidd (HB0.out.trans (z.fresh.mono HB0.out.size))
    go_wp2
    go_ret
    exact ⟨rfl, HZ.out⟩
  have d4 : decide (y1 ≤ y2) = false := decide_eq_false a4
  have HND : Hid (∀ (x : Later w0), Calls Try.prog 49 #[.int .i64 y2, .int .i64 c.bl] x.val fun e w' => e = .returned (.int .i64 nd) ∧ w' = x.val) := fun x => by rw [HNE.out]; exact rneed_any c y2 HC.out.2.2.2.2.1 HC.out.2.2.2.2.2.1 (by omega) (by omega) x.val
  by_cases a5 : (hn0 : Int) < nd
  · have d5 : decide ((hn0 : Int) < nd) = true := decide_eq_true a5
    obtain rfl : r = false := by
      rw [Bool.eq_false_iff]
      intro q
      have hq := HR.out.1 q
      have h9 := hq.2.2.2.2.1
      rw [← HY2.out, ← HNE.out, ← HHN.out] at h9
      omega
    clear a1 a2 a3 a4 a5
    refine wp_region_later (by kernel_rfl) (by kernel_rfl) ?_
    repeat (go_big_quiet_step (fail))
    go_big_quiet_step (exact later_same (HND.out _))
    repeat (go_big_quiet_step (fail))
    refine wpQuiet_nil ?_
    rintro _ ⟨z, rfl⟩
    have HZ := hidd (HB0.out.trans (z.fresh.mono HB0.out.size))
    go_wp2
    go_ret
    exact ⟨rfl, HZ.out⟩
  have d5 : decide ((hn0 : Int) < nd) = false := decide_eq_false a5
  have HPRE : Hid (okB c hn0 s.H → okS c s) := fun h => ⟨by rw [← HY1.out]; omega, by rw [← HY1.out]; omega, by rw [← HY2.out]; omega, by rw [← HY2.out, ← HY1.out]; omega, by rw [← HY2.out, ← HNE.out, ← HHN.out]; omega, by rw [← HHN.out]; exact h⟩
  clear a1 a2 a3 a4 a5
  refine wp_region_later (by kernel_rfl) (by kernel_rfl) ?_
  repeat (go_big_quiet_step (fail))
  go_big_quiet_step (exact later_same (HND.out _))
  repeat (go_big_quiet_step (fail))
  refine wpQuiet_nil ?_
  rintro _ ⟨z, rfl⟩
  have HZ0 := hidd z.fresh
  have HZ := hidd (HB0.out.trans (z.fresh.mono HB0.out.size))
  clear l1 l2 l4 l6 d1 d2 d3 d4 d5 ne HND
  generalize z.val = w1 at *
  go_wp2
  go_loopw [5] (fun i wr => ∃ k : Nat, k ≤ hn0 ∧ i = .int .i64 k ∧ Hid (okB c k s.H) ∧ Hid (Below w0.heap.size w0 wr)) (fun i _ => hn0 - (intOf i).toNat)
  case atStart => exact ⟨0, by omega, rfl, ⟨fun j hj => absurd hj (by omega), fun i j _ hj => absurd hj (by omega)⟩, HZ0⟩
  case round =>
    clear HZ0 HZ
    obtain ⟨k, hk, rfl, HK, HF⟩ := hrel
    have HFW := hidd (HB0.out.trans (HF.out.mono HB0.out.size))
    obtain ⟨v0, v4⟩ := HBX.out wr HF.out
    by_cases hlt : k < hn0
    · obtain ⟨b1, o1, hu, hcl⟩ := (HS.out.fresh HFW.out).one (by omega)
      subst hu
      have x1 := hcl k hlt
      obtain ⟨y, HY⟩ : ∃ y, Hid (y = s.H k) := ⟨_, rfl⟩
      rw [← HY.out] at x1
      clear hcl
      have k1 : (k : Int) < (hn0 : Int) := by omega
      have k0 : (0 : Int) ≤ (k : Int) := by omega
      have hcap := HS.out.le
      have htop := HS.out.top
      unfold maxLen at htop
      have k2 : (k : Int) ≤ (hc0 : Int) := by omega
      go_upto_region 6 with fail
      have m0 := later_cell v0
      have m4 := later_cell v4
      have m1 := later_cell x1
      have ne := later_some wr
      clear v0 v4 x1
      have HNB : Hid (¬ okB c hn0 s.H → r = false) := fun h => by
        rw [Bool.eq_false_iff]
        intro q
        have := (HR.out.1 q).2.2.2.2.2
        rw [← HHN.out] at this
        exact h this
      by_cases a1 : y < 0
      · have d1 : decide (y < 0) = true := decide_eq_true a1
        obtain rfl := HNB.out (fun h => by have := (h.1 k hlt).1; rw [← HY.out] at this; omega)
        clear a1
        refine wp_region_later (by kernel_rfl) (by kernel_rfl) ?_
        repeat (go_big_quiet_step (fail))
        refine wpQuiet_nil ?_
        rintro _ ⟨z, rfl⟩
        have HZ := hidd (HFW.out.trans (z.fresh.mono HFW.out.size))
        go_wp2
        go_ret
        exact ⟨rfl, HZ.out⟩
      have d1 : decide (y < 0) = false := decide_eq_false a1
      by_cases a2 : c.bs ≤ y
      · have d2 : decide (c.bs ≤ y) = true := decide_eq_true a2
        obtain rfl := HNB.out (fun h => by have := (h.1 k hlt).2; rw [← HY.out] at this; omega)
        clear a1 a2
        refine wp_region_later (by kernel_rfl) (by kernel_rfl) ?_
        repeat (go_big_quiet_step (fail))
        refine wpQuiet_nil ?_
        rintro _ ⟨z, rfl⟩
        have HZ := hidd (HFW.out.trans (z.fresh.mono HFW.out.size))
        go_wp2
        go_ret
        exact ⟨rfl, HZ.out⟩
      have d2 : decide (c.bs ≤ y) = false := decide_eq_false a2
      obtain ⟨g, HG⟩ : ∃ g, Hid (g = hasI s.H k y) := ⟨_, rfl⟩
      have HAM : Hid (∀ (x : Later wr), Calls Try.prog 30 #[.slice (some ⟨b1, o1, none⟩) k hc0, .int .i64 y] x.val fun e w' => e = .returned (.bool g) ∧ w' = x.val) := fun x => by rw [HG.out]; exact ramong_any (((HS.out.fresh HFW.out).fresh x.fresh).firsts (by omega)) y
      cases g with
      | true =>
        obtain rfl := HNB.out (fun h => by
          obtain ⟨i, hi, e⟩ := (hasI_iff s.H k y).1 HG.out.symm
          exact h.2 i k hi hlt (by rw [e, HY.out]))
        clear a1 a2
        refine wp_region_later (by kernel_rfl) (by kernel_rfl) ?_
        repeat (go_big_quiet_step (fail))
        go_big_quiet_step (exact later_same (HAM.out _))
        repeat (go_big_quiet_step (fail))
        refine wpQuiet_nil ?_
        rintro _ ⟨z, rfl⟩
        have HZ := hidd (HFW.out.trans (z.fresh.mono HFW.out.size))
        go_wp2
        go_ret
        exact ⟨rfl, HZ.out⟩
      | false =>
        have HKN := hidd (okB_nextI HK.out (by rw [← HY.out]; omega) (by rw [← HY.out]; omega) (by rw [← HY.out]; exact HG.out.symm))
        clear a1 a2
        refine wp_region_later (by kernel_rfl) (by kernel_rfl) ?_
        repeat (go_big_quiet_step (fail))
        go_big_quiet_step (exact later_same (HAM.out _))
        repeat (go_big_quiet_step (fail))
        refine wpQuiet_nil ?_
        rintro _ ⟨z, rfl⟩
        have HZ := hidd (HF.out.trans (z.fresh.mono HF.out.size))
        clear m0 m1 m4 d1 d2 ne
        go_wp2
        go_roundw
        case rel => exact ⟨k + 1, by omega, by go_num, HKN, HZ⟩
        case measure => simp [intOf]; omega
    · obtain rfl : k = hn0 := by omega
      obtain rfl : r = true := HR.out.2 (HPRE.out HK.out)
      go_wp2
      go_ret
      exact ⟨rfl, HFW.out⟩
end Go.Proofs.Ytdceahebkohbjab
