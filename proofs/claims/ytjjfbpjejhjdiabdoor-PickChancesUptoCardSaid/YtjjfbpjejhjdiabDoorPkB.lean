import Derived.Test.YtjjfbpjejhjdiabDoorPkA
import Derived.Test.YtjjfbpjejhjdiabDoorDiv
import Derived.Test.YtjjfbpjejhjdiabDoorShift
import Derived.Test.YtjjfbpjejhjdiabDoorClamp
namespace Go.Proofs.YtjjfbpjejhjdiabDoor
open Go.RowKit
/-! penalised, scores. -/
set_option maxRecDepth 20000 in
set_option maxHeartbeats 800000 in
theorem penalised_any (c pen : Int) (w : World) (c0 : -16777216 ≤ c) (c1 : c ≤ 16777216) (n0 : 64 ≤ pen) (n1 : pen ≤ 1024) :
    Calls Tryd.prog 42 #[.int .i64 c, .int .i64 pen] w fun e w' => e = .returned (.int .i64 (penS c pen)) ∧ w' = w := by
  by_cases h : 0 < c
  · have e1 : penS c pen = Fix.dv (c * 256) pen := by unfold penS; rw [if_pos h]
    rw [e1]
    go_enter Tryd.func42, Tryd.ntmps42
    go_wp2_with fail
    refine (div_any _ _ _ (by omega) (by omega) (by omega) (by omega)).mono ?_; rintro e w' ⟨rfl, rfl⟩
    go_wp2
    go_ret
    exact ⟨rfl, rfl⟩
  · have e1 : penS c pen = Fix.sh (c * pen) 8 := by unfold penS; rw [if_neg h]
    have h1 : c * pen ≤ 0 := Int.mul_nonpos_of_nonpos_of_nonneg (by omega) (by omega)
    have h2 : -17179869184 ≤ c * pen := by
      have a1 : -16777216 * pen ≤ c * pen := Int.mul_le_mul_of_nonneg_right c0 (by omega)
      omega
    rw [e1]
    go_enter Tryd.func42, Tryd.ntmps42
    go_wp2_with fail
    refine (shift_any _ _ _ (by omega) (by omega) (by omega) (by omega)).mono ?_; rintro e w' ⟨rfl, rfl⟩
    go_wp2
    go_ret
    exact ⟨rfl, rfl⟩
theorem clampW_any (v : Int) (w : World) (v0 : -9223372036854775808 ≤ v) (v1 : v ≤ 9223372036854775807) :
    Calls Tryd.prog 41 #[.int .i64 v, .int .i64 16777216] w fun e w' => e = .returned (.int .i64 (cw v)) ∧ w' = w := clamp_any v 16777216 w v0 v1 (by omega) (by omega)
def scA (f : Nat → Int) (k : Nat) : Nat → Value := fun i => .int .i64 (if i < k then cw (f i) else 0)
theorem scA_next (f : Nat → Int) (k j : Nat) : (if j = k then Value.int .i64 (cw (f k)) else scA f k j) = scA f (k + 1) j := by
  unfold scA
  by_cases h : j = k
  · rw [if_pos h, h, if_pos (by omega)]
  · rw [if_neg h]
    by_cases q : j < k
    · rw [if_pos q, if_pos (by omega)]
    · rw [if_neg q, if_neg (by omega)]
def scV (pen : Int) (f : Nat → Int) (S : Nat → Bool) : Nat → Value := fun i => .int .i64 (scF pen f S i)
theorem seenB_succ (s : Nat → Int) (k i : Nat) : seenB s (k + 1) i = (seenB s k i || s k == (i : Int)) := by
  unfold seenB
  rw [List.range_succ, List.any_append]
  simp
theorem scV_none {pen : Int} {f s : Nat → Int} {k n : Nat} (h : ∀ i : Nat, i < n → s k ≠ (i : Int)) (i : Nat) (hi : i < n) : scV pen f (seenB s k) i = scV pen f (seenB s (k + 1)) i := by
  unfold scV scF
  rw [seenB_succ]
  have : (s k == (i : Int)) = false := by simpa using h i hi
  rw [this, Bool.or_false]
theorem scV_next {pen : Int} {f s : Nat → Int} {k t : Nat} (h : s k = (t : Int)) (j : Nat) : (if j = t then Value.int .i64 (penS (cw (f t)) pen) else scV pen f (seenB s k) j) = scV pen f (seenB s (k + 1)) j := by
  unfold scV scF
  rw [seenB_succ]
  by_cases q : j = t
  · rw [if_pos q, q]
    have : (s k == (t : Int)) = true := by simp [h]
    rw [this, Bool.or_true, if_pos rfl]
  · rw [if_neg q]
    have : (s k == (j : Int)) = false := by simp; omega
    rw [this, Bool.or_false]
theorem scV_start {pen : Int} {f s : Nat → Int} {i k : Nat} (hi : i < k) : scA f k i = scV pen f (seenB s 0) i := by
  unfold scA scV scF
  have : seenB s 0 i = false := rfl
  rw [if_pos hi, this]
  simp
set_option maxRecDepth 20000 in
set_option maxHeartbeats 1600000 in
theorem scores_any {w : World} {ao so : Option Addr} {n ca m cb : Nat} {f s : Nat → Int} (h : RdA w ao 1 n ca (fun i => .int .i64 (f i))) (hs : RdA w so 1 m cb (fun i => .int .i64 (s i)))
    (hf : ∀ i, i < n → -9223372036854775808 ≤ f i ∧ f i ≤ 9223372036854775807) (hn : n ≤ 1048576) (hm : m ≤ 4194304) (pen : Int) (n0 : 64 ≤ pen) (n1 : pen ≤ 1024) :
    Calls Tryd.prog 24 #[.slice ao n ca, .slice so m cb, .int .i64 pen] w fun e w' => e = .returned (.slice (some ⟨w.heap.size, 0, none⟩) n n) ∧ w'.rowIs w.heap.size 2 n (scV pen f (seenB s m)) ∧ Below w.heap.size w w' := by
  have hmk := run_make_row' (P := Tryd.prog) 25 2 (.int .i64 0) 8 Tryd.underlying25 infoW rfl .i64 .i64 n (by omega) (by omega)
  have R0 := World.rowIs_made w (.int .i64 0) n 2
  have f0 := fresh_alloc w (.cells (madeCells #[.int .i64 0] n) 2)
  have HF := hidd hf
  have HH := hidd h
  have HS := hidd hs
  have hle := h.le
  have htop := h.top
  have hsle := hs.le
  have hstop := hs.top
  unfold maxLen at htop hstop
  clear hf h hs
  go_enter Tryd.func24, Tryd.ntmps24
  go_wp2
  go_loopw [8, 9, 17] (fun u8 u9 i wr => ∃ k : Nat, k ≤ n ∧ i = .int .i64 (k : Int) ∧ wr.rowIs w.heap.size 2 n (scA f k) ∧ Below w.heap.size w wr) (fun _ _ i _ => n - (intOf i).toNat)
  case atStart => exact ⟨0, Nat.zero_le _, by simp, R0.congr (fun i _ => by unfold scA; rw [if_neg (by omega)]), f0⟩
  case round =>
    clear R0 f0 hmk
    obtain ⟨k, hk, rfl, hr, hw⟩ := hrel
    by_cases hlt : k < n
    · obtain ⟨b1, o1, rfl, h1⟩ := (HH.out.fresh hw).one (by omega)
      have d := h1 k hlt
      have bd := HF.out k hlt
      have c0 := hr.cell (i := k) (by omega)
      have fr := hr.frozen
      have i0 : (0 : Int) ≤ (k : Int) := by omega
      have i1 : (k : Int) < (n : Int) := by omega
      have HR := hidd hr
      clear h1 hr
      go_wp2_with (go_at_call 41; refine (clampW_any _ _ (by omega) (by omega)).mono ?_; rintro e w' ⟨rfl, rfl⟩)
      go_roundw
      case rel => exact ⟨k + 1, by omega, by go_num, (HR.out.set k (.int .i64 (cw (f k)))).congr (fun j _ => scA_next f k j), hw.setCell (Nat.le_refl _) _⟩
      case measure => simp [intOf]; omega
    · obtain rfl : k = n := by omega
      have hr2 : wr.rowIs w.heap.size 2 k (scV pen f (seenB s 0)) := hr.congr (fun i hi => scV_start hi)
      clear hr
      go_wp2
      go_loopw [11, 30] (fun u11 i wr => ∃ j : Nat, j ≤ m ∧ i = .int .i64 (j : Int) ∧ wr.rowIs w.heap.size 2 k (scV pen f (seenB s j)) ∧ Below w.heap.size w wr) (fun _ i _ => m - (intOf i).toNat)
      case atStart => exact ⟨0, Nat.zero_le _, by simp, hr2, hw⟩
      case round =>
        clear hr2 hw
        obtain ⟨j, hj, rfl, hr, hw⟩ := hrel
        by_cases hlt : j < m
        · obtain ⟨b1, o1, rfl, h1⟩ := (HS.out.fresh hw).one (by omega)
          have d := h1 j hlt
          clear h1
          have i0 : (0 : Int) ≤ (j : Int) := by omega
          have i1 : (j : Int) < (m : Int) := by omega
          by_cases ht : 0 ≤ s j ∧ s j < (k : Int)
          · obtain ⟨t, et⟩ := Int.eq_ofNat_of_zero_le ht.1
            have hj2 : t < k := by omega
            have HE := hidd et
            rw [et] at d
            obtain ⟨b2, o2, rfl, h2⟩ := (HH.out.fresh hw).one (by omega)
            have d2 := h2 t hj2
            have bd := HF.out t hj2
            have c0 := hr.cell (i := t) (by omega)
            have fr := hr.frozen
            have t0 : (0 : Int) ≤ (t : Int) := by omega
            have t1 : (t : Int) < (k : Int) := by omega
            have HR := hidd hr
            clear h2 hr et ht
            have cb2 := cw_bd (f t)
            go_wp2_with (first
              | (go_at_call 41; refine (clampW_any _ _ (by omega) (by omega)).mono ?_; rintro e w' ⟨rfl, rfl⟩)
              | (go_at_call 42; refine (penalised_any _ _ _ (by omega) (by omega) (by omega) (by omega)).mono ?_; rintro e w' ⟨rfl, rfl⟩))
            go_roundw
            case rel => exact ⟨j + 1, by omega, by go_num, (HR.out.set t (.int .i64 (penS (cw (f t)) pen))).congr (fun i _ => scV_next HE.out i), hw.setCell (Nat.le_refl _) _⟩
            case measure => simp [intOf]; omega
          · have HR := hidd (hr.congr (fun i hi => scV_none (n := k) (fun i hi e => ht ⟨by omega, by omega⟩) i hi))
            clear hr
            by_cases hz : 0 ≤ s j
            · have hz2 : ¬ s j < (k : Int) := fun q => ht ⟨hz, q⟩
              go_wp2
              go_roundw
              case rel => exact ⟨j + 1, by omega, by go_num, HR.out, hw⟩
              case measure => simp [intOf]; omega
            · clear ht
              go_wp2
              go_roundw
              case rel => exact ⟨j + 1, by omega, by go_num, HR.out, hw⟩
              case measure => simp [intOf]; omega
        · obtain rfl : j = m := by omega
          go_wp2
          go_ret
          exact ⟨rfl, hr, hw⟩
end Go.Proofs.YtjjfbpjejhjdiabDoor
