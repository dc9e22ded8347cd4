import Derived.Test.YtjjfbpjejhjdiabDoorFix
namespace Go.Proofs.YtjjfbpjejhjdiabDoor.Fix
/-! The plain mathematics of Exp: no program in sight. -/
/-- the polynomial's numbers, the highest power first -/
def co : Nat → Int
  | 0 => 35472643
  | 1 => -175978408
  | 2 => 536691957
  | 3 => -1073764153
  | 4 => 1073741824
  | _ => 0
/-- Horner's rule behind k rounds -/
def hor (r : Int) : Nat → Int
  | 0 => 0
  | k + 1 => co k + sh (hor r k * r) 16
/-- P1.5, for n = -z from 0 to 1048576 -/
def exn (n : Int) : Int := sh (sh (hor (n % 45426) 5) 14) (n / 45426)
/-- P1.5 -/
def ex (z : Int) : Int := if z < -1048576 then 0 else exn (max (-z) 0)
theorem sh16 (x : Int) : sh x 16 = (x / 32768 + 1) / 2 := sh_pos x 16 (by decide)
theorem sh14 (x : Int) : sh x 14 = (x / 8192 + 1) / 2 := sh_pos x 14 (by decide)
theorem co_bd (k : Nat) : -1073764153 ≤ co k ∧ co k ≤ 1073741824 := by
  unfold co; split <;> omega
theorem mul_bd (p r B : Int) (h0 : -B ≤ p) (h1 : p ≤ B) (r0 : 0 ≤ r) (r1 : r ≤ 45425) : -(B * 45425) ≤ p * r ∧ p * r ≤ B * 45425 := by
  have hB : 0 ≤ B := by omega
  have a1 : p * r ≤ B * r := Int.mul_le_mul_of_nonneg_right h1 r0
  have a2 : -B * r ≤ p * r := Int.mul_le_mul_of_nonneg_right h0 r0
  have a3 : B * r ≤ B * 45425 := Int.mul_le_mul_of_nonneg_left r1 hB
  rw [Int.neg_mul] at a2
  omega
theorem hor_bd (r : Int) (r0 : 0 ≤ r) (r1 : r ≤ 45425) (k : Nat) : -4294967296 ≤ hor r k ∧ hor r k ≤ 4294967296 := by
  induction k with
  | zero => exact ⟨by show (-4294967296 : Int) ≤ 0; decide, by show (0 : Int) ≤ 4294967296; decide⟩
  | succ k ih =>
    have hc := co_bd k
    have hm := mul_bd (hor r k) r 4294967296 ih.1 ih.2 r0 r1
    show -4294967296 ≤ co k + sh (hor r k * r) 16 ∧ co k + sh (hor r k * r) 16 ≤ 4294967296
    rw [sh16]
    omega
theorem hor_mul_bd (r : Int) (r0 : 0 ≤ r) (r1 : r ≤ 45425) (k : Nat) : -195098889420800 ≤ hor r k * r ∧ hor r k * r ≤ 195098889420800 := by
  have ih := hor_bd r r0 r1 k
  have hm := mul_bd (hor r k) r 4294967296 ih.1 ih.2 r0 r1
  omega
theorem ex_low (z : Int) (h : z < -1048576) : ex z = 0 := by unfold ex; rw [if_pos h]
theorem ex_high (z : Int) (h : 0 ≤ z) : ex z = exn 0 := by unfold ex; rw [if_neg (by omega), show max (-z) 0 = 0 by omega]
theorem ex_mid (z : Int) (h0 : -1048576 ≤ z) (h : z ≤ 0) : ex z = exn (-z) := by unfold ex; rw [if_neg (by omega), show max (-z) 0 = -z by omega]
theorem div_shrink (x B : Int) (n : Nat) (h0 : -B ≤ x) (h1 : x ≤ B) : -B ≤ x / 2 ^ n ∧ x / 2 ^ n ≤ B := by
  have hp := pow_pos n
  have h1' : (1 : Int) ≤ 2 ^ n := by omega
  have hB : 0 ≤ B := by omega
  have hm : B * 1 ≤ B * 2 ^ n := Int.mul_le_mul_of_nonneg_left h1' hB
  constructor
  · rw [Int.le_ediv_iff_mul_le hp, Int.neg_mul]
    omega
  · apply Int.le_of_lt_add_one
    rw [Int.ediv_lt_iff_lt_mul hp, Int.add_mul]
    omega
theorem sh_shrink (x B s : Int) (hB : 1 ≤ B) (h0 : -B ≤ x) (h1 : x ≤ B) : -B ≤ sh x s ∧ sh x s ≤ B := by
  unfold sh
  split
  · exact ⟨h0, h1⟩
  · have := div_shrink x B (min s 62 - 1).toNat h0 h1
    omega
theorem exn_bd (n : Int) : -4294967296 ≤ exn n ∧ exn n ≤ 4294967296 := by
  unfold exn
  have h := hor_bd (n % 45426) (by omega) (by omega) 5
  have h2 := sh_shrink _ 4294967296 14 (by decide) h.1 h.2
  exact sh_shrink _ 4294967296 _ (by decide) h2.1 h2.2
theorem ex_bd (z : Int) : -4294967296 ≤ ex z ∧ ex z ≤ 4294967296 := by
  unfold ex
  split
  · decide
  · exact exn_bd _
theorem dv_bd (b : Int) : 0 ≤ dv 4294967296 b ∧ dv 4294967296 b ≤ 4294967296 := by
  unfold dv
  split
  · decide
  · have h := Int.ediv_nonneg (show (0 : Int) ≤ 4294967296 by decide) (show 0 ≤ b by omega)
    have h2 := Int.ediv_le_self (a := 4294967296) b (by decide)
    exact ⟨h, h2⟩
/-- P1.6 -/
def sg (z : Int) : Int := if 0 ≤ z then dv 4294967296 (65536 + ex (-z)) else 65536 - dv 4294967296 (65536 + ex z)
theorem sg_pos (z : Int) (h : 0 ≤ z) : sg z = dv 4294967296 (65536 + ex (-z)) := by unfold sg; rw [if_pos h]
theorem sg_neg (z : Int) (h : z < 0) : sg z = 65536 - dv 4294967296 (65536 + ex z) := by unfold sg; rw [if_neg (by omega)]
theorem sg_bd (z : Int) : -4294967296 ≤ sg z ∧ sg z ≤ 4294967296 := by
  unfold sg
  have h1 := dv_bd (65536 + ex (-z))
  have h2 := dv_bd (65536 + ex z)
  split <;> omega
theorem cl_bd (v m : Int) : -(max m 0) ≤ cl v m ∧ cl v m ≤ max m 0 := by unfold cl; omega
theorem cl_wide (v : Int) : -16777216 ≤ cl v 16777216 ∧ cl v 16777216 ≤ 16777216 := by have := cl_bd v 16777216; omega
theorem prod_bd (a b A B : Int) (a0 : -A ≤ a) (a1 : a ≤ A) (b0 : -B ≤ b) (b1 : b ≤ B) : -(A * B) ≤ a * b ∧ a * b ≤ A * B := by
  have hA : 0 ≤ A := by omega
  have hB : 0 ≤ B := by omega
  have h := Int.natAbs_mul a b
  have h1 : a.natAbs * b.natAbs ≤ A.natAbs * B.natAbs := Nat.mul_le_mul (by omega) (by omega)
  have h2 : ((a.natAbs * b.natAbs : Nat) : Int) ≤ ((A.natAbs * B.natAbs : Nat) : Int) := Int.ofNat_le.mpr h1
  rw [← h, Int.natCast_mul, Int.natAbs_of_nonneg hA, Int.natAbs_of_nonneg hB] at h2
  omega
/-- P1.7 -/
def si (v : Int) : Int := sh (cl v 16777216 * sg (cl v 16777216 * 256)) 16
theorem si_mul_bd (v : Int) : -72057594037927936 ≤ cl v 16777216 * sg (cl v 16777216 * 256) ∧ cl v 16777216 * sg (cl v 16777216 * 256) ≤ 72057594037927936 := by
  have h1 := cl_wide v
  have h2 := sg_bd (cl v 16777216 * 256)
  have := prod_bd _ _ 16777216 4294967296 h1.1 h1.2 h2.1 h2.2
  omega
end Go.Proofs.YtjjfbpjejhjdiabDoor.Fix
