import Derived.Test.YtclaeamoflfjgaaDoorFixRun
namespace Go.Proofs.YtclaeamoflfjgaaDoor.Fix
/-! FixHalves: Exp of a sum, and the half: no program in sight. -/
theorem Y_le (r : Nat) : Y r ≤ 1152921504606846976 := by
  induction r with
  | zero => exact Nat.le_refl _
  | succ r ih =>
    show Y r * 1152903912555019605 / 1152921504606846976 ≤ 1152921504606846976
    omega
theorem Y_step (r : Nat) : 1152921504606846976 * (Y (r + 1) : Int) ≤ 1152903912555019605 * (Y r : Int) ∧ 1152903912555019605 * (Y r : Int) ≤ 1152921504606846976 * (Y (r + 1) : Int) + 1152921504606846976 := by
  have h : Y (r + 1) = Y r * 1152903912555019605 / 1152921504606846976 := rfl
  omega
theorem step_le (S c a a' b b' : Int) (hS : 0 < S) (h1 : S * a' ≤ c * a) (h4 : c * b ≤ S * b' + S) (a0 : 0 ≤ a) (a1 : a ≤ S) (b0 : 0 ≤ b) : a' * b ≤ a * b' + S := by
  have g1 := Int.mul_le_mul_of_nonneg_right h1 b0
  have g2 := Int.mul_le_mul_of_nonneg_right h4 a0
  have g3 := Int.mul_le_mul_of_nonneg_left a1 (Int.le_of_lt hS)
  have g4 : S * (a' * b) ≤ S * (a * b' + S) := by grind
  exact Int.le_of_mul_le_mul_left g4 hS
theorem prod_step (i j : Nat) : (Y (i + 1) : Int) * Y j ≤ Y i * Y (j + 1) + 1152921504606846976 := by
  have hi := Y_le i
  have hj := Y_le j
  exact step_le 1152921504606846976 1152903912555019605 _ _ _ _ (by decide) (Y_step i).1 (Y_step j).2 (Int.natCast_nonneg _) (by omega) (Int.natCast_nonneg _)
theorem prod_k (k : Nat) : ∀ i j : Nat, (Y (i + k) : Int) * Y j ≤ Y i * Y (j + k) + k * 1152921504606846976 ∧ (Y i : Int) * Y (j + k) ≤ Y (i + k) * Y j + k * 1152921504606846976 := by
  induction k with
  | zero => intro i j; simp
  | succ k ih =>
    intro i j
    have h1 := prod_step (i + k) j
    have h2 := prod_step j (i + k)
    have h3 := ih i (j + 1)
    rw [show j + 1 + k = j + (k + 1) by omega] at h3
    rw [show i + (k + 1) = i + k + 1 by omega]
    rw [Int.mul_comm (Y (j + 1) : Int), Int.mul_comm (Y j : Int)] at h2
    have e : ((k + 1 : Nat) : Int) = (k : Int) + 1 := by omega
    rw [e, Int.add_mul, Int.one_mul]
    generalize (Y (i + k + 1) : Int) * Y j = u at *
    generalize (Y (i + k) : Int) * Y (j + 1) = v at *
    generalize (Y i : Int) * Y (j + (k + 1)) = x at *
    omega
theorem okI (r : Nat) (h : r < 45426) : 8 * (e0 r : Int) * 17592186044416 ≤ 8 * (Y r : Int) + 369435906932736 ∧ 8 * (Y r : Int) ≤ 8 * (e0 r : Int) * 17592186044416 + 228698418577408 := by
  have h1 := Y_ok r h
  unfold ok at h1
  rw [Bool.and_eq_true] at h1
  have h2 := Nat.le_of_ble_eq_true h1.1
  have h3 := Nat.le_of_ble_eq_true h1.2
  omega
/-- Exp lies from 13/8 below to 21/8 above the power -/
theorem alpha (n : Nat) : 8 * exn n * (17592186044416 * 2 ^ (n / 45426)) ≤ 8 * (Y (n % 45426) : Int) + 21 * (17592186044416 * 2 ^ (n / 45426)) ∧ 8 * (Y (n % 45426) : Int) ≤ 8 * exn n * (17592186044416 * 2 ^ (n / 45426)) + 13 * (17592186044416 * 2 ^ (n / 45426)) ∨ 62 ≤ n / 45426 := by
  by_cases hbig : 62 ≤ n / 45426
  · exact Or.inr hbig
  refine Or.inl ?_
  have h := okI (n % 45426) (by omega)
  rw [exnE]
  generalize n % 45426 = r at *
  generalize n / 45426 = q at *
  cases q with
  | zero =>
    rw [sh_zero _ _ (by omega)]
    simp only [Int.pow_zero, Int.mul_one]
    omega
  | succ k =>
    have hn := near_lo (e0 r) k (by omega)
    have hp := pow_pos k
    rw [show ((k + 1 : Nat) : Int) = (k : Int) + 1 by omega, Int.pow_succ]
    generalize sh (e0 r) ((k : Int) + 1) = e at *
    generalize (2 : Int) ^ k = P at *
    have e1 : 8 * e * (17592186044416 * (P * 2)) = 8 * 17592186044416 * (e * (P * 2)) := by grind
    rw [e1]
    generalize e * (P * 2) = X at *
    omega
theorem core (e f g p M N K W Yi Yj Yk d : Int) (hM : 17592186044416 ≤ M) (hN : 17592186044416 ≤ N) (hW : 0 ≤ W)
    (A1 : 8 * e * M ≤ 8 * Yi + 21 * M) (A2 : 8 * Yi ≤ 8 * e * M + 13 * M) (B1 : 8 * f * N ≤ 8 * Yj + 21 * N) (B2 : 8 * Yj ≤ 8 * f * N + 13 * N)
    (C1 : 8 * g * K ≤ 8 * Yk + 21 * K) (C2 : 8 * Yk ≤ 8 * g * K + 13 * K)
    (e0 : 0 ≤ e) (e1 : e ≤ 65536) (f0 : 0 ≤ f) (f1 : f ≤ 65536) (i0 : 0 ≤ Yi) (i1 : Yi ≤ 1152921504606846976) (j0 : 0 ≤ Yj) (j1 : Yj ≤ 1152921504606846976)
    (T : M * N = W * K) (R1 : Yi * Yj ≤ 65536 * (W * Yk) + d) (R2 : 65536 * (W * Yk) ≤ Yi * Yj + d) (D : 64 * d ≤ 524288 * (M * N))
    (P1 : 65536 * p ≤ e * f + 32768) (P2 : e * f + 32768 < 65536 * p + 65536) : -8 ≤ g - p ∧ g - p ≤ 8 := by
  have hM0 : 0 ≤ M := by omega
  have hN0 : 0 ≤ N := by omega
  have hT : 0 < M * N := Int.mul_pos (by omega) (by omega)
  have s1 := Int.mul_le_mul A1 B1 (Int.mul_nonneg (by omega) hN0) (by omega)
  have s1a := Int.mul_le_mul_of_nonneg_right (show Yi ≤ 65536 * M by omega) hN0
  have s1b := Int.mul_le_mul_of_nonneg_left (show Yj ≤ 65536 * N by omega) hM0
  have s2 := Int.mul_le_mul A2 B2 (by omega) (by have := Int.mul_nonneg (show 0 ≤ 8 * e by omega) hM0; omega)
  have s2a := Int.mul_le_mul_of_nonneg_right (show 104 * (e + f) ≤ 13631488 by omega) (Int.le_of_lt hT)
  have s3 := Int.mul_le_mul_of_nonneg_left C1 hW
  have s4 := Int.mul_le_mul_of_nonneg_left C2 hW
  have E1 : 8 * e * M * (8 * f * N) = 64 * (e * f * (M * N)) := by grind
  have E2 : (8 * Yi + 21 * M) * (8 * Yj + 21 * N) = 64 * (Yi * Yj) + 168 * (Yi * N) + 168 * (M * Yj) + 441 * (M * N) := by grind
  have E3 : 65536 * M * N = 65536 * (M * N) := by grind
  have E4 : M * (65536 * N) = 65536 * (M * N) := by grind
  have E5 : 8 * Yi * (8 * Yj) = 64 * (Yi * Yj) := by grind
  have E6 : (8 * e * M + 13 * M) * (8 * f * N + 13 * N) = 64 * (e * f * (M * N)) + 104 * ((e + f) * (M * N)) + 169 * (M * N) := by grind
  have E7 : 104 * (e + f) * (M * N) = 104 * ((e + f) * (M * N)) := by grind
  have E8 : W * (8 * g * K) = 8 * (g * (W * K)) := by grind
  have E9 : W * (8 * Yk + 21 * K) = 8 * (W * Yk) + 21 * (W * K) := by grind
  have E10 : W * (8 * Yk) = 8 * (W * Yk) := by grind
  have E11 : W * (8 * g * K + 13 * K) = 8 * (g * (W * K)) + 13 * (W * K) := by grind
  rw [E1, E2] at s1
  rw [E3] at s1a
  rw [E4] at s1b
  rw [E5, E6] at s2
  rw [E7] at s2a
  rw [E8, E9, ← T] at s3
  rw [E10, E11, ← T] at s4
  have U1 : M * N * (64 * (e * f)) = 64 * (e * f * (M * N)) := by grind
  have U2 : M * N * (4194304 * g + 29360569) = 4194304 * (g * (M * N)) + 29360569 * (M * N) := by grind
  have U3 : M * N * (4194304 * g) = 4194304 * (g * (M * N)) := by grind
  have U4 : M * N * (64 * (e * f) + 25165993) = 64 * (e * f * (M * N)) + 25165993 * (M * N) := by grind
  clear E1 E2 E3 E4 E5 E6 E7 E8 E9 E10 E11 A1 A2 B1 B2 C1 C2 T
  have u : M * N * (64 * (e * f)) ≤ M * N * (4194304 * g + 29360569) := by rw [U1, U2]; omega
  have l : M * N * (4194304 * g) ≤ M * N * (64 * (e * f) + 25165993) := by rw [U3, U4]; omega
  have u' := Int.le_of_mul_le_mul_left u hT
  have l' := Int.le_of_mul_le_mul_left l hT
  clear u l U1 U2 U3 U4 s1 s1a s1b s2 s2a s3 s4
  generalize e * f = x at *
  omega
theorem alpha' (n : Nat) (h : n ≤ 1048576) : 8 * exn n * (17592186044416 * 2 ^ (n / 45426)) ≤ 8 * (Y (n % 45426) : Int) + 21 * (17592186044416 * 2 ^ (n / 45426)) ∧ 8 * (Y (n % 45426) : Int) ≤ 8 * exn n * (17592186044416 * 2 ^ (n / 45426)) + 13 * (17592186044416 * 2 ^ (n / 45426)) := by
  rcases alpha n with h1 | h1
  · exact h1
  · omega
theorem pow_big (q : Nat) : (17592186044416 : Int) ≤ 17592186044416 * 2 ^ q := by
  have := pow_pos q
  omega
theorem prod_big (M N : Int) (hM : 17592186044416 ≤ M) (hN : 17592186044416 ≤ N) : 309485009821345068724781056 ≤ M * N := by
  have := Int.mul_le_mul hM hN (by decide) (by omega)
  omega
/-- Exp of a sum is the product, within eight -/
theorem sum_near (m n : Nat) (hm : m ≤ 524288) (hn : n ≤ 524288) : -8 ≤ exn ((m + n : Nat) : Int) - sh (exn m * exn n) 16 ∧ exn ((m + n : Nat) : Int) - sh (exn m * exn n) 16 ≤ 8 := by
  have A := alpha' m (by omega)
  have B := alpha' n (by omega)
  have C := alpha' (m + n) (by omega)
  have em := exn_rng m (by omega)
  have en := exn_rng n (by omega)
  have bi := Y_le (m % 45426)
  have bj := Y_le (n % 45426)
  have bk := Y_le ((m + n) % 45426)
  have big := prod_big _ _ (pow_big (m / 45426)) (pow_big (n / 45426))
  have hP := sh16' (exn m * exn n)
  by_cases hw : m % 45426 + n % 45426 < 45426
  · have q3 : (m + n) / 45426 = m / 45426 + n / 45426 := by omega
    have r3 : (m + n) % 45426 = n % 45426 + m % 45426 := by omega
    have R := prod_k (m % 45426) 0 (n % 45426)
    have y0 : (Y 0 : Int) = 1152921504606846976 := rfl
    rw [Nat.zero_add, y0, ← r3] at R
    rw [q3] at C
    refine core _ _ _ _ (17592186044416 * 2 ^ (m / 45426)) (17592186044416 * 2 ^ (n / 45426)) (17592186044416 * 2 ^ (m / 45426 + n / 45426)) 17592186044416 _ _ _ (((m % 45426 : Nat) : Int) * 1152921504606846976) (pow_big _) (pow_big _) (by decide)
      A.1 A.2 B.1 B.2 C.1 C.2 em.1 em.2 en.1 en.2 (Int.natCast_nonneg _) (by omega) (Int.natCast_nonneg _) (by omega) ?_ ?_ ?_ ?_ ?_ ?_
    · rw [Int.pow_add]; grind
    · have := R.1; omega
    · have := R.2; omega
    · omega
    · omega
    · omega
  · have q3 : (m + n) / 45426 = m / 45426 + n / 45426 + 1 := by omega
    have hk : ∃ k : Nat, k + n % 45426 = 45426 := ⟨45426 - n % 45426, by omega⟩
    obtain ⟨k, hk⟩ := hk
    have r3 : (m + n) % 45426 + k = m % 45426 := by omega
    have R := prod_k k ((m + n) % 45426) (n % 45426)
    rw [r3, show n % 45426 + k = 45426 by omega, Y_last] at R
    rw [q3] at C
    refine core _ _ _ _ (17592186044416 * 2 ^ (m / 45426)) (17592186044416 * 2 ^ (n / 45426)) (17592186044416 * 2 ^ (m / 45426 + n / 45426 + 1)) 8796093022208 _ _ _ (52372612268270630731776 + 1267650600228229401496703205376) (pow_big _) (pow_big _) (by decide)
      A.1 A.2 B.1 B.2 C.1 C.2 em.1 em.2 en.1 en.2 (Int.natCast_nonneg _) (by omega) (Int.natCast_nonneg _) (by omega) ?_ ?_ ?_ ?_ ?_ ?_
    · rw [Int.pow_succ, Int.pow_add]; grind
    · have := R.1; omega
    · have := R.2; omega
    · omega
    · omega
    · omega
theorem half_near (m : Nat) : -1 ≤ 2 * exn ((m + 45426 : Nat) : Int) - exn m ∧ 2 * exn ((m + 45426 : Nat) : Int) - exn m ≤ 1 ∨ 62 ≤ m / 45426 + 1 := by
  by_cases hbig : 62 ≤ m / 45426 + 1
  · exact Or.inr hbig
  refine Or.inl ?_
  rw [exnE, exnE, show (m + 45426) / 45426 = m / 45426 + 1 by omega, show (m + 45426) % 45426 = m % 45426 by omega]
  generalize (e0 (m % 45426) : Int) = x
  generalize m / 45426 = q at *
  cases q with
  | zero =>
    rw [sh_zero x ((0 : Nat) : Int) (by omega), sh_pos x ((0 + 1 : Nat) : Int) (by omega)]
    rw [show (min ((0 + 1 : Nat) : Int) 62 - 1).toNat = 0 by omega, Int.pow_zero, Int.ediv_one]
    omega
  | succ k =>
    rw [sh_pos x _ (by omega), sh_pos x _ (by omega)]
    rw [show (min ((k + 1 + 1 : Nat) : Int) 62 - 1).toNat = k + 1 by omega, show (min ((k + 1 : Nat) : Int) 62 - 1).toNat = k by omega, div_split]
    generalize x / 2 ^ k = y
    omega
end Go.Proofs.YtclaeamoflfjgaaDoor.Fix
