import Derived.Test.YtakekdbclmgeoaaTrG
import Derived.Laws.BitsAllLaws
import Derived.Laws.Rows
namespace Go.Proofs.Ytakekdbclmgeoaa
open Go.RowKit
/-! Sets: with, Above. -/
theorem or_shl {a k : Nat} (hk : k < 32) (ha : a < 4294967296) : bits BinOp.or IntKind.u64 (a : Int) (IntKind.u64.wrap (2 ^ k)) = ((a ||| 2 ^ k : Nat) : Int) := by
  have h2 : 2 ^ k < 2 ^ 32 := Nat.pow_lt_pow_right (by decide) hk
  have e : IntKind.u64.wrap ((2 : Int) ^ k) = ((2 ^ k : Nat) : Int) := by
    rw [IntKind.wrap_u64, show ((2 : Int) ^ k) = ((2 ^ k : Nat) : Int) by simp]
    generalize 2 ^ k = y at h2 ⊢
    omega
  rw [e]
  exact u64_or_nat a (2 ^ k) (by omega) (by omega)
set_option maxRecDepth 20000 in
set_option maxHeartbeats 1600000 in
theorem with_any {w : World} (a k : Nat) (hk : k < 32) (ha : a < 4294967296) :
    Calls Try.prog 32 #[.agg #[.int .u64 a], .int .i64 k] w fun e w' => e = .returned (.agg #[.int .u64 ((a ||| 2 ^ k : Nat) : Int)]) ∧ Below w.heap.size w w' := by
  have e1 : IntKind.i64.wrap (Int.tdiv (k : Int) 64) = 0 := by rw [Int.tdiv_eq_ediv_of_nonneg (by omega)]; rw [show (k : Int) / 64 = 0 by omega]; rfl
  have e2 : IntKind.i64.wrap (Int.tmod (k : Int) 64) = (k : Int) := by rw [Int.tmod_eq_emod_of_nonneg (by omega), show (k : Int) % 64 = k by omega]; exact wrap_small _ (by omega) (by omega)
  have e3 : k / 64 = 0 := by omega
  have e4 : k % 64 = k := by omega
  have e5 : (k : Int) / 64 = 0 := by omega
  have e6 : (k : Int) % 64 = (k : Int) := by omega
  obtain ⟨c, HC⟩ : ∃ c : Nat, Hid (c = a ||| 2 ^ k) := ⟨_, rfl⟩
  have e7 : bits BinOp.or IntKind.u64 (a : Int) (IntKind.u64.wrap (2 ^ k)) = (c : Int) := by rw [HC.out]; exact or_shl hk ha
  rw [← HC.out]
  go_enter Try.func32, Try.ntmps32
  go_wp2
  go_region
  go_wp2
  refine bodyPost_ret (results_cell_row rfl _ _ (w.heap.size + 1) 52 #[.int .u64 (c : Int)] (0, 0) _ rfl ?_ Try.underlying52 rfl (by kernel_rfl)) rfl ?_
  · have := World.alloc_heap_new (w.alloc (.cells #[.int .u64 (c : Int)] 52)) (.cells #[.int .u64 (c : Int)] 52)
    rw [World.size_alloc] at this
    exact this
  exact ⟨rfl, (((Below.refl _ w).alloc (Nat.le_refl _) _).alloc (by simp) _).drew⟩
/-- the set of those above -/
def abv (P : Nat → Int) : Nat → Nat
  | 0 => 1
  | i + 1 => if h : (P (i + 1)).toNat < i + 1 then abv P (P (i + 1)).toNat + 2 ^ (i + 1) else 0
termination_by i => i
theorem abv_step {n i : Nat} {P T D : Nat → Int} (h : okT n P T D) (h1 : 1 ≤ i) (h2 : i < n) : (P i).toNat < i ∧ abv P i = abv P (P i).toNat + 2 ^ i := by
  obtain ⟨j, rfl⟩ : ∃ j, i = j + 1 := ⟨i - 1, by omega⟩
  obtain ⟨g1, g2, _⟩ := h.2.2.2.2 (j + 1) h1 h2
  have hp : (P (j + 1)).toNat < j + 1 := by omega
  refine ⟨hp, ?_⟩
  rw [abv, dif_pos hp]
theorem abv_lt {n : Nat} {P T D : Nat → Int} (h : okT n P T D) : ∀ i, i < n → abv P i < 2 ^ (i + 1) := by
  intro i
  induction i using Nat.strongRecOn with
  | ind i ih =>
    intro hi
    by_cases h0 : i = 0
    · subst h0
      rw [abv]
      decide
    · obtain ⟨hp, he⟩ := abv_step h (by omega) hi
      have h1 := ih _ hp (by omega)
      have h2 : 2 ^ ((P i).toNat + 1) ≤ 2 ^ i := Nat.pow_le_pow_right (by decide) (by omega)
      rw [he, Nat.pow_succ]
      omega
theorem abv_or {n i : Nat} {P T D : Nat → Int} (h : okT n P T D) (h1 : 1 ≤ i) (h2 : i < n) : abv P (P i).toNat ||| 2 ^ i = abv P i := by
  obtain ⟨hp, he⟩ := abv_step h h1 h2
  have h3 := abv_lt h _ (show (P i).toNat < n by omega)
  have h4 : 2 ^ ((P i).toNat + 1) ≤ 2 ^ i := Nat.pow_le_pow_right (by decide) (by omega)
  have := Nat.two_pow_add_eq_or_of_lt (b := abv P (P i).toNat) (i := i) (by omega) 1
  rw [Nat.mul_one] at this
  rw [Nat.or_comm, ← this, he]
  omega
theorem abv_32 {n i : Nat} {P T D : Nat → Int} (h : okT n P T D) (hi : i < n) : abv P i < 4294967296 := by
  have h1 := abv_lt h i hi
  have h2 : 2 ^ (i + 1) ≤ 2 ^ 32 := Nat.pow_le_pow_right (by decide) (by have := h.2.1; omega)
  omega
end Go.Proofs.Ytakekdbclmgeoaa
