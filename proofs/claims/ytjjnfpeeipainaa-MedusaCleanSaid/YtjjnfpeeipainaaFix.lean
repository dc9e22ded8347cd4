namespace Go.Proofs.Ytjjnfpeeipainaa.Fix
/-! The plain mathematics of shifts, quotients and roots: no program in sight. -/
theorem half_up (x : Int) : x / 2 + x % 2 = (x + 1) / 2 := by omega
theorem pow_pos (n : Nat) : (0 : Int) < 2 ^ n := Int.pow_pos (by decide)
/-- P1.1: the whole number nearest to v over 2 to the s; halves go up. -/
def sh (v s : Int) : Int := if s ≤ 0 then v else (v / 2 ^ (min s 62 - 1).toNat + 1) / 2
theorem sh_zero (v s : Int) (h : s ≤ 0) : sh v s = v := by unfold sh; rw [if_pos h]
theorem sh_pos (v s : Int) (h : 0 < s) : sh v s = (v / 2 ^ (min s 62 - 1).toNat + 1) / 2 := by
  unfold sh; rw [if_neg (by omega)]
theorem div_split (v : Int) (n : Nat) : v / 2 ^ (n + 1) = v / 2 ^ n / 2 := by
  rw [Int.pow_succ, Int.ediv_ediv_of_nonneg (Int.le_of_lt (pow_pos n))]
theorem sh_code (v s : Int) (h0 : 0 < s) (h1 : s ≤ 62) : v / 2 ^ s.toNat + (v / 2 ^ (s - 1).toNat) % 2 = sh v s := by
  rw [sh_pos v s h0, show min s 62 = s by omega]
  obtain ⟨n, hn⟩ : ∃ n : Nat, s = n + 1 := ⟨(s - 1).toNat, by omega⟩
  subst hn
  rw [show ((n : Int) + 1).toNat = n + 1 by omega, show ((n : Int) + 1 - 1).toNat = n by omega, div_split, half_up]
theorem sh_code62 (v s : Int) (h1 : 62 < s) : v / 2 ^ 62 + (v / 2 ^ 61) % 2 = sh v s := by
  have h := sh_code v 62 (by omega) (by omega)
  have e : sh v s = sh v 62 := by rw [sh_pos v s (by omega), sh_pos v 62 (by omega), show min s 62 = min 62 62 by omega]
  rw [e, ← h]
  rfl
/-- one division by a power keeps the bounds -/
theorem div_bd (v : Int) (n : Nat) (h0 : -9223372036854775808 ≤ v) (h1 : v ≤ 9223372036854775807) : -9223372036854775808 ≤ v / 2 ^ n ∧ v / 2 ^ n ≤ 9223372036854775807 := by
  have hp := pow_pos n
  have h1' : (1 : Int) ≤ 2 ^ n := by omega
  constructor
  · rw [Int.le_ediv_iff_mul_le hp]
    have : (-9223372036854775808 : Int) * 2 ^ n ≤ -9223372036854775808 * 1 := Int.mul_le_mul_of_nonpos_left (by decide) h1'
    omega
  · apply Int.le_of_lt_add_one
    rw [Int.ediv_lt_iff_lt_mul hp]
    have : (9223372036854775808 : Int) * 1 ≤ 9223372036854775808 * 2 ^ n := Int.mul_le_mul_of_nonneg_left h1' (by decide)
    omega
theorem sh_mono (a b s : Int) (h : a ≤ b) : sh a s ≤ sh b s := by
  unfold sh
  split
  · exact h
  · have := Int.ediv_le_ediv (pow_pos (min s 62 - 1).toNat) h
    omega
theorem sh_bd (v s : Int) (h0 : -9223372036854775808 ≤ v) (h1 : v ≤ 9223372036854775807) : -9223372036854775808 ≤ sh v s ∧ sh v s ≤ 9223372036854775807 := by
  unfold sh
  split
  · exact ⟨h0, h1⟩
  · have := div_bd v (min s 62 - 1).toNat h0 h1
    omega
/-- P1.4: the whole number below a over b. -/
def dv (a b : Int) : Int := if b ≤ 0 then 0 else a / b
theorem dv_le (a b : Int) (h : b ≤ 0) : dv a b = 0 := by unfold dv; rw [if_pos h]
theorem dv_gt (a b : Int) (h : 0 < b) : dv a b = a / b := by unfold dv; rw [if_neg (by omega)]
theorem quo_bd (a b : Int) (hb : 0 < b) (h0 : -9223372036854775808 ≤ a) (h1 : a ≤ 9223372036854775807) : -9223372036854775808 ≤ a / b ∧ a / b ≤ 9223372036854775807 := by
  constructor
  · rw [Int.le_ediv_iff_mul_le hb]
    have : (-9223372036854775808 : Int) * b ≤ -9223372036854775808 * 1 := Int.mul_le_mul_of_nonpos_left (by decide) hb
    omega
  · apply Int.le_of_lt_add_one
    rw [Int.ediv_lt_iff_lt_mul hb]
    have : (9223372036854775808 : Int) * 1 ≤ 9223372036854775808 * b := Int.mul_le_mul_of_nonneg_left hb (by decide)
    omega
/-- Go's division goes towards 0: how the whole number below comes out of it -/
theorem tdiv_neg_exact (a b : Int) (ha : a < 0) (hb : 0 < b) (hm : ¬ a.tmod b < 0) : a.tdiv b = a / b := by
  have h1 := Int.tdiv_eq_ediv (a := a) (b := b)
  have h2 := Int.tmod_eq_emod (a := a) (b := b)
  have hs : b.sign = 1 := Int.sign_eq_one_of_pos hb
  have hn : (b.natAbs : Int) = b := by omega
  by_cases hd : b ∣ a
  · rw [h1, if_pos (Or.inr hd)]; omega
  · rw [if_neg (by omega)] at h2
    have := Int.emod_lt_of_pos a hb
    omega
theorem tdiv_neg_rest (a b : Int) (ha : a < 0) (hb : 0 < b) (hm : a.tmod b < 0) : a.tdiv b - 1 = a / b := by
  have h1 := Int.tdiv_eq_ediv (a := a) (b := b)
  have h2 := Int.tmod_eq_emod (a := a) (b := b)
  have hs : b.sign = 1 := Int.sign_eq_one_of_pos hb
  by_cases hd : b ∣ a
  · rw [if_pos (Or.inr hd)] at h2
    have := Int.emod_nonneg a (show b ≠ 0 by omega)
    omega
  · rw [h1, if_neg (by omega), hs]; omega
theorem tdiv_low (x b : Int) (h : x < 0) : x.tdiv b = -((-x) / b) := by
  have e : x.tdiv b = (-(-x)).tdiv b := by rw [Int.neg_neg]
  rw [e, Int.neg_tdiv, Int.tdiv_eq_ediv_of_nonneg (by omega)]
theorem tmod_low (x b : Int) (h : x < 0) : x.tmod b = -((-x) % b) := by
  have e : x.tmod b = (-(-x)).tmod b := by rw [Int.neg_neg]
  rw [e, Int.neg_tmod, Int.tmod_eq_emod_of_nonneg (by omega)]
/-- P1.2 -/
def cl (v m : Int) : Int := if v > max m 0 then max m 0 else if v < -(max m 0) then -(max m 0) else v
/-- FixNearest's facts, at a power U = 2H -/
theorem near_sh (v : Int) (n : Nat) (hn : n < 62) : sh v ((n : Int) + 1) = (v + 2 ^ n) / (2 ^ n * 2) := by
  rw [sh_pos _ _ (by omega), show (min ((n : Int) + 1) 62 - 1).toNat = n by omega]
  rw [← Int.ediv_ediv_of_nonneg (Int.le_of_lt (pow_pos n))]
  have := Int.add_mul_ediv_right v 1 (show (2 : Int) ^ n ≠ 0 from Int.ne_of_gt (pow_pos n))
  rw [Int.one_mul] at this
  rw [this]
theorem near_lo (v : Int) (n : Nat) (hn : n < 62) : -(2 ^ n) ≤ v - sh v ((n : Int) + 1) * (2 ^ n * 2) ∧ v - sh v ((n : Int) + 1) * (2 ^ n * 2) < 2 ^ n := by
  rw [near_sh v n hn]
  have hp := pow_pos n
  have h1 := Int.mul_ediv_add_emod (v + 2 ^ n) (2 ^ n * 2)
  have h2 := Int.emod_nonneg (v + 2 ^ n) (show (2 : Int) ^ n * 2 ≠ 0 by omega)
  have h3 := Int.emod_lt_of_pos (v + 2 ^ n) (show (0 : Int) < 2 ^ n * 2 by omega)
  rw [Int.mul_comm] at h1
  omega
theorem near_back (t : Int) (n : Nat) (hn : n < 62) : sh (t * (2 ^ n * 2)) ((n : Int) + 1) = t := by
  rw [near_sh _ n hn]
  have hp := pow_pos n
  rw [Int.add_comm, Int.add_mul_ediv_right _ _ (show (2 : Int) ^ n * 2 ≠ 0 by omega), Int.ediv_eq_zero_of_lt (by omega) (by omega)]
  omega
theorem pow_le40 (n : Nat) (hn : n < 40) : (1 : Int) ≤ 2 ^ n ∧ (2 : Int) ^ n ≤ 549755813888 := by
  have hp := pow_pos n
  refine ⟨by omega, ?_⟩
  have h := Nat.pow_le_pow_right (show 0 < 2 by decide) (show n ≤ 39 by omega)
  have h2 : ((2 ^ n : Nat) : Int) ≤ ((2 ^ 39 : Nat) : Int) := Int.ofNat_le.mpr h
  rw [Int.natCast_pow] at h2
  exact h2
theorem near_quo (v U : Int) (hU : 0 < U) : -(v.natAbs : Int) ≤ v.tdiv U * U ∧ v.tdiv U * U ≤ v.natAbs ∧ -(v.natAbs : Int) ≤ v.tdiv U ∧ v.tdiv U ≤ v.natAbs := by
  have h1 := Int.mul_tdiv_add_tmod v U
  rw [Int.mul_comm] at h1
  by_cases h : 0 ≤ v
  · have h2 := Int.tmod_eq_emod_of_nonneg (b := U) h
    have h3 := Int.emod_nonneg v (show U ≠ 0 by omega)
    have h4 := Int.tdiv_eq_ediv_of_nonneg (b := U) h
    have h5 := Int.ediv_nonneg h (Int.le_of_lt hU)
    have h6 := Int.ediv_le_self U h
    have h7 := Int.mul_nonneg h5 (Int.le_of_lt hU)
    rw [h4, h2] at h1
    rw [h4]
    omega
  · have h2 := tmod_low v U (by omega)
    have h3 := Int.emod_nonneg (-v) (show U ≠ 0 by omega)
    have h4 := tdiv_low v U (by omega)
    have h5 := Int.ediv_nonneg (a := -v) (by omega) (Int.le_of_lt hU)
    have h6 := Int.ediv_le_self (a := -v) U (by omega)
    have h7 := Int.mul_nonneg h5 (Int.le_of_lt hU)
    rw [h4, h2, Int.neg_mul] at h1
    rw [h4, Int.neg_mul]
    omega
/-- P1.3: what the bits of a root are found by: behind k rounds -/
def Bits (v : Int) (k R : Nat) : Prop := ∃ c : Nat, R = 2 ^ (32 - k) * c ∧ R + 2 ^ (32 - k) ≤ 4294967296 ∧ (R : Int) * R ≤ v ∧ v < ((R + 2 ^ (32 - k) : Nat) : Int) * ((R + 2 ^ (32 - k) : Nat) : Int)
theorem Bits.start (v : Int) (h0 : 0 < v) (h1 : v ≤ 9223372036854775807) : Bits v 0 0 := ⟨0, by omega, by omega, by omega, by simp; omega⟩
theorem pow_step (k : Nat) (h : k < 32) : 2 ^ (32 - k) = 2 * 2 ^ (32 - (k + 1)) ∧ 32 - (k + 1) = 31 - k := by
  have e : 32 - k = (32 - (k + 1)) + 1 := by omega
  rw [e, Nat.pow_succ]
  exact ⟨by omega, by omega⟩
theorem Bits.lt {v : Int} {k R : Nat} (hk : k < 32) (h : Bits v k R) : R + 2 ^ (31 - k) < 4294967296 := by
  obtain ⟨c, _, h1, _, _⟩ := h
  obtain ⟨e1, e2⟩ := pow_step k hk
  rw [e1, e2] at h1
  have := Nat.two_pow_pos (31 - k)
  omega
theorem Bits.or {v : Int} {k R : Nat} (hk : k < 32) (h : Bits v k R) : R ||| 2 ^ (31 - k) = R + 2 ^ (31 - k) := by
  obtain ⟨c, h0, _, _, _⟩ := h
  obtain ⟨e1, e2⟩ := pow_step k hk
  have hb := Nat.two_pow_pos (31 - k)
  rw [h0, Nat.two_pow_add_eq_or_of_lt (by rw [e1, e2]; omega)]
theorem Bits.yes {v : Int} {k R : Nat} (hk : k < 32) (h : Bits v k R) (ht : ((R + 2 ^ (31 - k) : Nat) : Int) * ((R + 2 ^ (31 - k) : Nat) : Int) ≤ v) : Bits v (k + 1) (R + 2 ^ (31 - k)) := by
  obtain ⟨c, h0, h1, h2, h3⟩ := h
  obtain ⟨e1, e2⟩ := pow_step k hk
  refine ⟨2 * c + 1, ?_, ?_, ht, ?_⟩
  · rw [e2, h0, e1, e2, Nat.mul_add, Nat.mul_one, ← Nat.mul_assoc, Nat.mul_comm 2 (2 ^ (31 - k))]
  · rw [e1, e2] at h1; rw [e2]; omega
  · rw [e1, e2] at h3; rw [e2, show R + 2 ^ (31 - k) + 2 ^ (31 - k) = R + 2 * 2 ^ (31 - k) by omega]; exact h3
theorem Bits.no {v : Int} {k R : Nat} (hk : k < 32) (h : Bits v k R) (ht : v < ((R + 2 ^ (31 - k) : Nat) : Int) * ((R + 2 ^ (31 - k) : Nat) : Int)) : Bits v (k + 1) R := by
  obtain ⟨c, h0, h1, h2, h3⟩ := h
  obtain ⟨e1, e2⟩ := pow_step k hk
  refine ⟨2 * c, ?_, ?_, h2, ?_⟩
  · rw [e2, h0, e1, e2, ← Nat.mul_assoc, Nat.mul_comm 2 (2 ^ (31 - k))]
  · rw [e1, e2] at h1; rw [e2]; omega
  · rw [e2]; exact ht
theorem Bits.done {v : Int} {R : Nat} (h : Bits v 32 R) : (R : Int) * R ≤ v ∧ v < ((R : Int) + 1) * ((R : Int) + 1) := by
  obtain ⟨c, h0, h1, h2, h3⟩ := h
  exact ⟨h2, h3⟩
theorem sq_lt (N : Nat) (h : N < 4294967296) : 0 ≤ (N : Int) * N ∧ (N : Int) * N ≤ 18446744073709551615 := by
  have h1 : N * N ≤ 4294967295 * 4294967295 := Nat.mul_le_mul (by omega) (by omega)
  have h2 : ((N * N : Nat) : Int) ≤ ((4294967295 * 4294967295 : Nat) : Int) := Int.ofNat_le.mpr h1
  have h3 : (0 : Int) ≤ ((N * N : Nat) : Int) := Int.natCast_nonneg _
  rw [Int.natCast_mul] at h2 h3
  exact ⟨h3, by omega⟩
end Go.Proofs.Ytjjnfpeeipainaa.Fix
