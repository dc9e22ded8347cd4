import Derived.Test.YtknfddakpfkcfaaJdR
import Derived.Deep.DeepCutAuto
namespace Go.Proofs.Ytknfddakpfkcfaa
open Go.RowKit Go.Shelf Go.Sort
/-! What the moves do: the numbers. -/
def md (k : Int) (n : Nat) : Nat := (k % (n : Int)).toNat
theorem md_lt (k : Int) {n : Nat} (h : 0 < n) : md k n < n := by
  unfold md
  have := Int.emod_nonneg k (show (n : Int) ≠ 0 by omega)
  have := Int.emod_lt_of_pos k (show (0 : Int) < n by omega)
  omega
theorem tmod_low (x b : Int) (h : x < 0) : x.tmod b = -((-x) % b) := by
  have e : x.tmod b = (-(-x)).tmod b := by rw [Int.neg_neg]
  rw [e, Int.neg_tmod, Int.tmod_eq_emod_of_nonneg (by omega)]
theorem md_pos {k : Int} {n : Nat} (hn : 0 < n) (h : ¬ k.tmod n < 0) : k.tmod n = (md k n : Int) := by
  have h1 := Int.emod_nonneg k (show (n : Int) ≠ 0 by omega)
  by_cases hk : 0 ≤ k
  · rw [Int.tmod_eq_emod_of_nonneg hk]; unfold md; omega
  · have e := tmod_low k n (by omega)
    have h3 := Int.emod_nonneg (-k) (show (n : Int) ≠ 0 by omega)
    have h6 := Int.emod_lt_of_pos k (show (0 : Int) < n by omega)
    have h7 : (-k) % n = 0 := by omega
    have h8 : (n : Int) ∣ -k := Int.dvd_of_emod_eq_zero h7
    have h9 : k % n = 0 := Int.emod_eq_zero_of_dvd ((Int.dvd_neg).1 h8)
    unfold md; rw [e, h7, h9]; rfl
theorem md_neg {k : Int} {n : Nat} (hn : 0 < n) (h : k.tmod n < 0) : k.tmod n + n = (md k n : Int) := by
  have h1 := Int.emod_nonneg k (show (n : Int) ≠ 0 by omega)
  have e := Int.tmod_eq_emod (a := k) (b := (n : Int))
  split at e
  · omega
  · unfold md; omega
theorem tmod_bd (k : Int) {n : Nat} (hn : 0 < n) : -(n : Int) < k.tmod n ∧ k.tmod n < n := by
  constructor
  · have := Int.lt_tmod_of_pos k (show (0 : Int) < n by omega); omega
  · exact Int.tmod_lt_of_pos k (show (0 : Int) < n by omega)
/-- the memory behind the first i moves -/
def aftF (R : List (Int × Int)) : Nat → Nat → Int
  | 0, x => 1000 + (x : Int)
  | i + 1, x => if (x : Int) = (R.getD i (0, 0)).2 then 1000 + (R.getD i (0, 0)).1 else aftF R i x
theorem aftF_app (R S : List (Int × Int)) : ∀ i, i ≤ R.length → ∀ x, aftF (R ++ S) i x = aftF R i x := by
  intro i
  induction i with
  | zero => intro _ x; rfl
  | succ i ih =>
    intro hi x
    have e : (R ++ S).getD i (0, 0) = R.getD i (0, 0) := by
      simp only [List.getD]
      rw [List.getElem?_append_left (by omega)]
    simp only [aftF, e, ih (by omega) x]
theorem aft_new (R : List (Int × Int)) (y z : Int) (x : Nat) : aftF (R ++ [(y, z)]) (R ++ [(y, z)]).length x = if (x : Int) = z then 1000 + y else aftF R R.length x := by
  rw [List.length_append]
  show (if (x : Int) = ((R ++ [(y, z)]).getD R.length (0, 0)).2 then _ else _) = _
  rw [rwF_new, aftF_app _ _ _ (Nat.le_refl _)]
theorem aft_mv {S W Z : Nat → Int} {b : Nat} (hz : ∀ i, Z i = ((b + i : Nat) : Int)) (k x : Nat) : aftF (mvL S W Z k) (mvL S W Z k).length x = if b ≤ x ∧ x < b + k then 1000 + S (W (x - b)).toNat else 1000 + (x : Int) := by
  induction k with
  | zero =>
    rw [if_neg (by omega)]
    rfl
  | succ k ih =>
    by_cases e : S (W k).toNat = Z k
    · rw [mvL_same e, ih]
      by_cases h1 : b ≤ x ∧ x < b + k
      · rw [if_pos h1, if_pos (by omega)]
      · rw [if_neg h1]
        by_cases h2 : x = b + k
        · rw [if_pos (by omega), h2, Nat.add_sub_cancel_left, e, hz]
        · rw [if_neg (by omega)]
    · rw [mvL_next e, aft_new, ih, hz]
      by_cases h2 : x = b + k
      · rw [if_pos (by rw [h2]), if_pos (by omega), h2, Nat.add_sub_cancel_left]
      · rw [if_neg (by omega)]
        by_cases h1 : b ≤ x ∧ x < b + k
        · rw [if_pos h1, if_pos (by omega)]
        · rw [if_neg h1, if_neg (by omega)]
theorem mv_mem {S W Z : Nat → Int} {q : Int × Int → Prop} (k : Nat) (h : ∀ i, i < k → ¬ S (W i).toNat = Z i → q (S (W i).toNat, Z i)) : ∀ p ∈ mvL S W Z k, q p := by
  induction k with
  | zero => intro p hp; cases hp
  | succ k ih =>
    intro p hp
    have ih := ih (fun i hi => h i (by omega))
    by_cases e : S (W k).toNat = Z k
    · rw [mvL_same e] at hp; exact ih p hp
    · rw [mvL_next e] at hp
      rcases List.mem_append.1 hp with hp | hp
      · exact ih p hp
      · rw [List.mem_singleton.1 hp]; exact h k (by omega) e
theorem rowIs_other {w : World} {b g o n : Nat} {t : TypeId} {f : Nat → Value} {v : Value} (h : w.rowIs b t n f) (hne : b ≠ g) : (w.setCell ⟨g, o, none⟩ v).rowIs b t n f := by
  obtain ⟨c, h1, h2⟩ := h
  exact ⟨c, (Below.heap_setCell _ _ _ _ (by show ¬ (_ = g); exact hne)).trans h1, h2⟩
end Go.Proofs.Ytknfddakpfkcfaa
