import Derived.Test.YtjjfbpjejhjdiabDoorRkB
import Derived.Test.YtjjfbpjejhjdiabDoorPkO
import Derived.Test.YtjjfbpjejhjdiabDoorRfU
namespace Go.Proofs.YtjjfbpjejhjdiabDoor
open Go.RowKit
/-! The reference's Score, Allowed, thin. -/
theorem clampR_any (v : Int) (w : World) (v0 : -9223372036854775808 ≤ v) (v1 : v ≤ 9223372036854775807) :
    Calls Tryd.prog 47 #[.int .i64 v, .int .i64 16777216] w fun e w' => e = .returned (.int .i64 (cw v)) ∧ w' = w := clamp_ref v 16777216 w v0 v1 (by omega) (by omega)
set_option maxRecDepth 20000 in
set_option maxHeartbeats 1600000 in
theorem score_ref (p : Prm) (ok : p.Ok) {w : World} {ao so : Option Addr} {n ca m cb : Nat} {f s : Nat → Int} (h : RdA w ao 1 n ca (fun i => .int .i64 (f i))) (hs : RdA w so 1 m cb (fun i => .int .i64 (s i))) (hf : ∀ i, i < n → -9223372036854775808 ≤ f i ∧ f i ≤ 9223372036854775807) {t : Nat} (ht : t < n) :
    Calls Tryd.prog 32 #[.agg #[.int .i64 p.temp, .int .i64 p.topk, .int .i64 p.topp, .int .i64 p.pen, .int .u64 (p.seed : Int)], .slice ao n ca, .slice so m cb, .int .i64 (t : Int)] w fun e w' => e = .returned (.int .i64 (scF p.pen f (seenB s m) t)) ∧ Below w.heap.size w w' := by
  have f1 := fresh_alloc w (.cells #[.int .i64 p.temp, .int .i64 p.topk, .int .i64 p.topp, .int .i64 p.pen, .int .u64 (p.seed : Int)] 24)
  have c3 := (PrmAt.new w p 24).c3
  have h1 := h.fresh f1
  have HS := hidd (hs.fresh f1)
  obtain ⟨b1, o1, rfl, hc⟩ := h1.one (by omega)
  have d := hc t ht
  have bd := hf t ht
  have hle := h.le
  have htop := h.top
  have hsle := hs.le
  have hstop := hs.top
  unfold maxLen at htop hstop
  have cb2 := cw_bd (f t)
  have n0 := ok.n0
  have n1 := ok.n1
  have HCL : Hid (∀ wz, Calls Tryd.prog 47 #[.int .i64 (f t), .int .i64 16777216] wz fun e w' => e = .returned (.int .i64 (cw (f t))) ∧ w' = wz) := fun wz => clampR_any _ wz bd.1 bd.2
  have HY : Hid (∀ k, k < m → s k = (t : Int) → scF p.pen f (seenB s m) t = penS (cw (f t)) p.pen) := fun k hk e => by
    unfold scF
    rw [if_pos (seenB_iff.2 ⟨k, hk, e⟩)]
  have HN : Hid ((∀ j, j < m → s j ≠ (t : Int)) → scF p.pen f (seenB s m) t = cw (f t)) := fun e => by
    unfold scF
    rw [if_neg (fun q => by obtain ⟨j, hj, ej⟩ := seenB_iff.1 q; exact e j hj ej)]
  clear hc h h1 hs hf
  generalize scF p.pen f (seenB s m) t = R at *
  generalize cw (f t) = cv at *
  have i0 : (0 : Int) ≤ (t : Int) := by omega
  have i1 : (t : Int) < (n : Int) := by omega
  go_enter Tryd.func32, Tryd.ntmps32
  go_wp2_with fail
  refine (HCL.out _).mono ?_
  rintro e w1 ⟨rfl, h9⟩
  rw [h9]
  clear h9 HCL d
  go_wp2
  generalize (w.alloc (.cells #[.int .i64 p.temp, .int .i64 p.topk, .int .i64 p.topp, .int .i64 p.pen, .int .u64 (p.seed : Int)] 24)) = W0 at *
  go_loopw [10] (fun i wz => ∃ k : Nat, k ≤ m ∧ i = .int .i64 (k : Int) ∧ Hid (∀ j, j < k → s j ≠ (t : Int)) ∧ wz = W0) (fun i _ => m - (intOf i).toNat)
  case atStart => exact ⟨0, Nat.zero_le _, by simp, fun j hj => absurd hj (by omega), rfl⟩
  case round =>
    obtain ⟨k, hk, rfl, HJ, rfl⟩ := hrel
    by_cases hlt : k < m
    · obtain ⟨b2, o2, rfl, hc⟩ := HS.out.one (by omega)
      have d2 := hc k hlt
      clear hc
      have j0 : (0 : Int) ≤ (k : Int) := by omega
      have j1 : (k : Int) < (m : Int) := by omega
      by_cases q : s k = (t : Int)
      · have hR := HY.out k hlt q
        rw [q] at d2
        clear q HY HN HJ
        by_cases hcv : 0 < cv
        · have e1 : penS cv p.pen = Fix.dv (cv * 256) p.pen := by unfold penS; rw [if_pos hcv]
          rw [e1] at hR
          subst hR
          go_wp2_with fail
          refine (div_ref _ _ _ (by omega) (by omega) (by omega) (by omega)).mono ?_
          rintro e w2 ⟨rfl, h9⟩
          rw [h9]
          clear h9
          go_wp2
          go_ret
          exact ⟨rfl, f1⟩
        · have e1 : penS cv p.pen = Fix.sh (cv * p.pen) 8 := by unfold penS; rw [if_neg hcv]
          have h1 : cv * p.pen ≤ 0 := Int.mul_nonpos_of_nonpos_of_nonneg (by omega) (by omega)
          have h2 : -17179869184 ≤ cv * p.pen := by
            have a1 : -16777216 * p.pen ≤ cv * p.pen := Int.mul_le_mul_of_nonneg_right cb2.1 (by omega)
            omega
          have wm : IntKind.i64.wrap (cv * p.pen) = cv * p.pen := by rw [IntKind.wrap_i64]; omega
          rw [e1] at hR
          subst hR
          go_wp2_with fail
          refine (shift_ref _ _ _ (by omega) (by omega) (by omega) (by omega)).mono ?_
          rintro e w2 ⟨rfl, h9⟩
          rw [h9]
          clear h9
          go_wp2
          go_ret
          exact ⟨rfl, f1⟩
      · have q1 : (s k == (t : Int)) = false := by simpa using q
        have q2 : decide (s k = (t : Int)) = false := decide_eq_false q
        have HQ := hidd q
        clear q
        go_wp2
        go_roundw
        case rel => exact ⟨k + 1, by omega, by go_num, fun j hj => (by
          by_cases e : j = k
          · rw [e]; exact HQ.out
          · exact HJ.out j (by omega)), by first | rfl | trivial⟩
        case measure => simp [intOf]; omega
    · obtain rfl : k = m := by omega
      have hR := HN.out HJ.out
      subst hR
      go_wp2
      go_ret
      exact ⟨rfl, f1⟩
end Go.Proofs.YtjjfbpjejhjdiabDoor
