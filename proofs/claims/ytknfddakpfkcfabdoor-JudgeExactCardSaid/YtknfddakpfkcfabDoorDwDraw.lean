/-! The plain mathematics of the mixing and of the bound: over natural numbers. -/
namespace Go.Proofs.YtknfddakpfkcfabDoor.Dw
theorem xor_cancel (a b : Nat) : a ^^^ (a ^^^ b) = b := by rw [← Nat.xor_assoc, Nat.xor_self, Nat.zero_xor]
/-- x, bit by bit apart from itself over 2^s. -/
def xs (s x : Nat) : Nat := x ^^^ x / 2 ^ s
/-- .. and the way back, where 3 s is above 63. -/
def sx (s x : Nat) : Nat := x ^^^ x / 2 ^ s ^^^ x / 2 ^ (2 * s)
theorem div_xor (x y s : Nat) : (x ^^^ y) / 2 ^ s = x / 2 ^ s ^^^ y / 2 ^ s := by
  rw [← Nat.shiftRight_eq_div_pow, ← Nat.shiftRight_eq_div_pow, ← Nat.shiftRight_eq_div_pow, Nat.shiftRight_xor_distrib]
theorem div_two (x s t : Nat) : x / 2 ^ s / 2 ^ t = x / 2 ^ (s + t) := by rw [Nat.div_div_eq_div_mul, Nat.pow_add]
theorem sx_xs (s x : Nat) (h : x < 2 ^ (3 * s)) : sx s (xs s x) = x := by
  have e : x / 2 ^ (s + 2 * s) = 0 := by rw [show s + 2 * s = 3 * s by omega]; exact Nat.div_eq_of_lt h
  unfold sx xs
  rw [div_xor, div_xor, div_two, div_two, e, Nat.xor_zero, ← Nat.two_mul, Nat.xor_assoc, Nat.xor_assoc, Nat.xor_assoc, Nat.xor_self, Nat.xor_zero, Nat.xor_self, Nat.xor_zero]
theorem xs_sx (s x : Nat) (h : x < 2 ^ (3 * s)) : xs s (sx s x) = x := by
  have e : x / 2 ^ (2 * s + s) = 0 := by rw [show 2 * s + s = 3 * s by omega]; exact Nat.div_eq_of_lt h
  unfold sx xs
  rw [div_xor, div_xor, div_two, div_two, e, Nat.xor_zero, ← Nat.two_mul]
  generalize x / 2 ^ s = p
  generalize x / 2 ^ (2 * s) = q
  rw [Nat.xor_assoc x p q, Nat.xor_assoc, Nat.xor_self, Nat.xor_zero]
theorem xs_lt {s x : Nat} (h : x < 18446744073709551616) : xs s x < 18446744073709551616 :=
  Nat.xor_lt_two_pow (n := 64) h (Nat.lt_of_le_of_lt (Nat.div_le_self _ _) h)
theorem sx_lt {s x : Nat} (h : x < 18446744073709551616) : sx s x < 18446744073709551616 :=
  Nat.xor_lt_two_pow (n := 64) (Nat.xor_lt_two_pow (n := 64) h (Nat.lt_of_le_of_lt (Nat.div_le_self _ _) h)) (Nat.lt_of_le_of_lt (Nat.div_le_self _ _) h)
/-- Times an odd number, and times its contrary. -/
theorem mul_back {m n x : Nat} (h : m * n % 18446744073709551616 = 1) (hx : x < 18446744073709551616) : x * m % 18446744073709551616 * n % 18446744073709551616 = x := by
  rw [Nat.mod_mul_mod, Nat.mul_assoc, Nat.mul_mod, h, Nat.mul_one, Nat.mod_mod, Nat.mod_eq_of_lt hx]
/-- P2.1. -/
def mix (x : Nat) : Nat :=
  xs 31 (xs 27 (xs 30 x * 13787848793156543929 % 18446744073709551616) * 10723151780598845931 % 18446744073709551616)
/-- .. and the way back. -/
def unmix (y : Nat) : Nat :=
  sx 30 (sx 27 (sx 31 y * 3573116690164977347 % 18446744073709551616) * 10871156337175269513 % 18446744073709551616)
theorem mod_lt64 (x : Nat) : x % 18446744073709551616 < 18446744073709551616 := Nat.mod_lt _ (by omega)
theorem mix_lt {x : Nat} : mix x < 18446744073709551616 := xs_lt (mod_lt64 _)
theorem unmix_lt {x : Nat} : unmix x < 18446744073709551616 := sx_lt (mod_lt64 _)
theorem unmix_mix {x : Nat} (h : x < 18446744073709551616) : unmix (mix x) = x := by
  unfold unmix mix
  rw [sx_xs 31 _ (Nat.lt_of_lt_of_le (mod_lt64 _) (by decide)), mul_back (by decide) (xs_lt (mod_lt64 _)), sx_xs 27 _ (Nat.lt_of_lt_of_le (mod_lt64 _) (by decide)),
    mul_back (by decide) (xs_lt h), sx_xs 30 _ (Nat.lt_of_lt_of_le h (by decide))]
theorem mix_unmix {x : Nat} (h : x < 18446744073709551616) : mix (unmix x) = x := by
  unfold unmix mix
  rw [xs_sx 30 _ (Nat.lt_of_lt_of_le (mod_lt64 _) (by decide)), mul_back (by decide) (sx_lt (mod_lt64 _)), xs_sx 27 _ (Nat.lt_of_lt_of_le (mod_lt64 _) (by decide)),
    mul_back (by decide) (sx_lt h), xs_sx 31 _ (Nat.lt_of_lt_of_le h (by decide))]
theorem mix_inj {x y : Nat} (hx : x < 18446744073709551616) (hy : y < 18446744073709551616) (h : mix x = mix y) : x = y := by
  rw [← unmix_mix hx, ← unmix_mix hy, h]
/-- P2.2, at places that are numbers of 64 bits. -/
def atN (seed pos lane : Nat) : Nat :=
  mix ((mix ((mix ((seed + 11400714819323198485) % 18446744073709551616) + 11400714819323198485 * pos % 18446744073709551616) % 18446744073709551616) + 11400714819323198485 * lane % 18446744073709551616) % 18446744073709551616)
theorem atN_lt {s p l : Nat} : atN s p l < 18446744073709551616 := mix_lt
theorem gmul_inj {x y : Nat} (hx : x < 18446744073709551616) (hy : y < 18446744073709551616) (h : 11400714819323198485 * x % 18446744073709551616 = 11400714819323198485 * y % 18446744073709551616) : x = y := by
  rw [Nat.mul_comm _ x, Nat.mul_comm _ y] at h
  have a := mul_back (m := 11400714819323198485) (n := 17428512612931826493) (by decide) hx
  have b := mul_back (m := 11400714819323198485) (n := 17428512612931826493) (by decide) hy
  rw [← a, ← b, h]
theorem add_inj {a x y : Nat} (hx : x < 18446744073709551616) (hy : y < 18446744073709551616) (h : (a + x) % 18446744073709551616 = (a + y) % 18446744073709551616) : x = y := by omega
theorem at_lane {s p l k : Nat} (hl : l < 18446744073709551616) (hk : k < 18446744073709551616) : atN s p k = atN s p l ↔ l = k := by
  refine ⟨fun h => ?_, fun h => by rw [h]⟩
  exact (gmul_inj hk hl (add_inj (mod_lt64 _) (mod_lt64 _) (mix_inj (mod_lt64 _) (mod_lt64 _) h))).symm
theorem at_pos {s p q l : Nat} (hp : p < 18446744073709551616) (hq : q < 18446744073709551616) : atN s q l = atN s p l ↔ p = q := by
  refine ⟨fun h => ?_, fun h => by rw [h]⟩
  have h1 := mix_inj (mod_lt64 _) (mod_lt64 _) h
  rw [Nat.add_comm, Nat.add_comm (mix ((mix ((s + 11400714819323198485) % 18446744073709551616) + 11400714819323198485 * p % 18446744073709551616) % 18446744073709551616))] at h1
  have h2 := mix_inj (mod_lt64 _) (mod_lt64 _) (add_inj mix_lt mix_lt h1)
  exact (gmul_inj hq hp (add_inj (mod_lt64 _) (mod_lt64 _) h2)).symm
theorem at_seed {s r p l : Nat} (hs : s < 18446744073709551616) (hr : r < 18446744073709551616) : atN r p l = atN s p l ↔ s = r := by
  refine ⟨fun h => ?_, fun h => by rw [h]⟩
  have h1 := mix_inj (mod_lt64 _) (mod_lt64 _) h
  have h2 : ∀ {a x y : Nat}, x < 18446744073709551616 → y < 18446744073709551616 → (x + a) % 18446744073709551616 = (y + a) % 18446744073709551616 → x = y := by intros; omega
  have h3 := mix_inj (mod_lt64 _) (mod_lt64 _) (h2 mix_lt mix_lt h1)
  exact (h2 hr hs (mix_inj (mod_lt64 _) (mod_lt64 _) (h2 mix_lt mix_lt h3))).symm
/-- P2.3. -/
def below (u n : Nat) : Nat := u * n / 18446744073709551616
theorem below_le {u v n m : Nat} (h : u ≤ v) (k : n ≤ m) : below u n ≤ below v m := Nat.div_le_div_right (Nat.mul_le_mul h k)
theorem below_lt {u n : Nat} (hu : u < 18446744073709551616) (hn : 0 < n) : below u n < n := by
  unfold below
  rw [Nat.div_lt_iff_lt_mul (by omega), Nat.mul_comm n]
  exact Nat.mul_lt_mul_of_pos_right hu hn
theorem below_lt64 {u n : Nat} (hu : u < 18446744073709551616) (hn : n < 18446744073709551616) : below u n < 18446744073709551616 := by
  rcases Nat.eq_zero_or_pos n with h | h
  · subst h; simp [below]
  · exact Nat.lt_trans (below_lt hu h) hn
theorem below_zero {u : Nat} : below u 0 = 0 := by simp [below]
theorem zero_below {n : Nat} : below 0 n = 0 := by simp [below]
theorem below_succ {u n : Nat} (hn : n < 18446744073709551616) : below (u + 1) n ≤ below u n + 1 := by
  unfold below
  rw [Nat.add_mul, Nat.one_mul]
  generalize u * n = p
  omega
theorem below_top {n : Nat} (hn : n < 18446744073709551616) (h : 0 < n) : below 18446744073709551615 n = n - 1 := by
  unfold below; omega
theorem below_nest {u n m : Nat} (hm : 0 < m) : below u (n * m) / m = below u n := by
  unfold below
  rw [Nat.div_div_eq_div_mul, ← Nat.mul_assoc, Nat.mul_div_mul_right _ _ hm]
/-- The search from above, after the bits from b on have been settled. -/
structure Leasts (k n b u : Nat) : Prop where
  whole : ∃ q, u = q * 2 ^ b
  room : u + 2 ^ b ≤ 18446744073709551616
  low : u = 0 ∨ below (u - 1) n < k
  high : k ≤ below (u + 2 ^ b - 1) n
theorem Leasts.start {k n : Nat} (hn : n < 18446744073709551616) (h : k < n) : Leasts k n 64 0 :=
  ⟨⟨0, by simp⟩, by decide, .inl rfl, by rw [show 0 + 2 ^ 64 - 1 = 18446744073709551615 by decide, below_top hn (by omega)]; omega⟩
theorem Leasts.up {k n b u : Nat} (l : Leasts k n (b + 1) u) (h : below (u + 2 ^ b - 1) n < k) : Leasts k n b (u + 2 ^ b) := by
  obtain ⟨⟨q, hq⟩, r, _, t⟩ := l
  have p : 2 ^ (b + 1) = 2 * 2 ^ b := by rw [Nat.pow_succ, Nat.mul_comm]
  rw [p] at r t
  refine ⟨⟨2 * q + 1, ?_⟩, by omega, .inr h, ?_⟩
  · rw [hq, p, Nat.add_mul, Nat.one_mul, Nat.mul_comm 2 q, Nat.mul_assoc]
  · rw [show u + 2 ^ b + 2 ^ b - 1 = u + 2 * 2 ^ b - 1 by omega]; exact t
theorem Leasts.down {k n b u : Nat} (l : Leasts k n (b + 1) u) (h : ¬ below (u + 2 ^ b - 1) n < k) : Leasts k n b u := by
  obtain ⟨⟨q, hq⟩, r, s, t⟩ := l
  have p : 2 ^ (b + 1) = 2 * 2 ^ b := by rw [Nat.pow_succ, Nat.mul_comm]
  rw [p] at r
  refine ⟨⟨2 * q, ?_⟩, by omega, s, by omega⟩
  rw [hq, p, Nat.mul_comm 2 q, Nat.mul_assoc]
theorem Leasts.at {k n u : Nat} (hn : n < 18446744073709551616) (l : Leasts k n 0 u) : u < 18446744073709551616 ∧ below u n = k ∧ (k = 0 → u = 0) ∧ (0 < k → 0 < u ∧ below (u - 1) n = k - 1) := by
  obtain ⟨_, r, s, t⟩ := l
  have t' : k ≤ below u n := t
  rcases s with rfl | s
  · rw [zero_below] at t' ⊢
    exact ⟨by omega, by omega, fun _ => rfl, fun h => by omega⟩
  · have hu : 0 < u := by
      rcases Nat.eq_zero_or_pos u with h | h
      · subst h; rw [zero_below] at t'; omega
      · exact h
    have := below_succ (u := u - 1) hn
    rw [show u - 1 + 1 = u by omega] at this
    exact ⟨by omega, by omega, fun h => by omega, fun h => ⟨hu, by omega⟩⟩
end Go.Proofs.YtknfddakpfkcfabDoor.Dw
