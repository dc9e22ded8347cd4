import Derived.WalkKit
import Derived.Test.YtjjnfpeeipainaaFix
namespace Go.Proofs.Ytjjnfpeeipainaa
open Go.RowKit
/-! The plain mathematics of sums: no program in sight. -/
def isum (f : Nat → Int) : Nat → Int
  | 0 => 0
  | n + 1 => isum f n + f n
theorem isum_congr {f g : Nat → Int} : ∀ {n : Nat}, (∀ i, i < n → f i = g i) → isum f n = isum g n
  | 0, _ => rfl
  | n + 1, h => by
    show isum f n + f n = isum g n + g n
    rw [isum_congr (fun i hi => h i (by omega)), h n (by omega)]
theorem isum_add (f g : Nat → Int) : ∀ n, isum (fun i => f i + g i) n = isum f n + isum g n
  | 0 => rfl
  | n + 1 => by
    show isum (fun i => f i + g i) n + (f n + g n) = (isum f n + f n) + (isum g n + g n)
    rw [isum_add f g n]; omega
theorem isum_mul (c : Int) (f : Nat → Int) : ∀ n, isum (fun i => c * f i) n = c * isum f n
  | 0 => by simp [isum]
  | n + 1 => by
    show isum (fun i => c * f i) n + c * f n = c * (isum f n + f n)
    rw [isum_mul c f n, Int.mul_add]
theorem isum_le {f g : Nat → Int} : ∀ {n : Nat}, (∀ i, i < n → f i ≤ g i) → isum f n ≤ isum g n
  | 0, _ => Int.le_refl _
  | n + 1, h => by
    have h1 := isum_le (n := n) (fun i hi => h i (by omega))
    have h2 := h n (by omega)
    show isum f n + f n ≤ isum g n + g n
    omega
theorem isum_zero : ∀ n, isum (fun _ => 0) n = 0
  | 0 => rfl
  | n + 1 => by show isum (fun _ => 0) n + 0 = 0; rw [isum_zero n]; rfl
theorem isum_const (c : Int) : ∀ n : Nat, isum (fun _ => c) n = n * c
  | 0 => by simp [isum]
  | n + 1 => by
    show isum (fun _ => c) n + c = _
    rw [isum_const c n, Int.natCast_add, Int.add_mul]; omega
/-- the value at one place changed -/
def upd (f : Nat → Int) (i : Nat) (a : Int) : Nat → Int := fun j => if j = i then a else f j
theorem isum_upd (f : Nat → Int) (i : Nat) (a : Int) : ∀ n, isum (upd f i a) n = isum f n + (if i < n then a - f i else 0)
  | 0 => by simp [isum]
  | n + 1 => by
    show isum (upd f i a) n + upd f i a n = isum f n + f n + _
    rw [isum_upd f i a n]
    unfold upd
    by_cases h : n = i
    · subst h; simp; omega
    · by_cases h2 : i < n
      · rw [if_neg h, if_pos h2, if_pos (by omega)]; omega
      · rw [if_neg h, if_neg h2, if_neg (by omega)]; omega
/-- A changing about of places: every sum is as it was. -/
structure Perm (n : Nat) (p : Nat → Nat) : Prop where
  lt : ∀ i, i < n → p i < n
  sum : ∀ f : Nat → Int, isum (fun i => f (p i)) n = isum f n
theorem perm_id (n : Nat) : Perm n (fun i => i) := ⟨fun _ h => h, fun _ => rfl⟩
def swp (p : Nat → Nat) (i k : Nat) : Nat → Nat := fun j => if j = k then p i else if j = i then p k else p j
theorem Perm.swp {n : Nat} {p : Nat → Nat} (h : Perm n p) {i k : Nat} (hi : i < n) (hk : k < n) : Perm n (swp p i k) := by
  refine ⟨fun j hj => ?_, fun f => ?_⟩
  · unfold Ytjjnfpeeipainaa.swp; split
    · exact h.lt i hi
    · split
      · exact h.lt k hk
      · exact h.lt j hj
  · rw [← h.sum f]
    have e : (fun j => f (Ytjjnfpeeipainaa.swp p i k j)) = upd (upd (fun j => f (p j)) i (f (p k))) k (f (p i)) := by
      funext j
      unfold upd Ytjjnfpeeipainaa.swp
      by_cases h1 : j = k
      · simp [h1]
      · by_cases h2 : j = i
        · simp [h2]; simp [h2] at h1; simp [h1]
        · simp [h1, h2]
    rw [e, isum_upd, isum_upd, if_pos hi, if_pos hk]
    unfold upd
    by_cases h3 : k = i
    · subst h3; simp
    · simp [h3]; omega
theorem Perm.congr {n : Nat} {p q : Nat → Nat} (h : Perm n p) (e : ∀ i, i < n → p i = q i) : Perm n q :=
  ⟨fun i hi => by rw [← e i hi]; exact h.lt i hi, fun f => by rw [← h.sum f]; exact isum_congr (fun i hi => by rw [e i hi])⟩
theorem isum_pos_ex {f : Nat → Int} : ∀ {n : Nat}, (∀ i, i < n → 0 ≤ f i) → 0 < isum f n → ∃ i, i < n ∧ 0 < f i
  | 0, _, h => absurd h (by simp [isum])
  | n + 1, h0, h => by
    by_cases hn : 0 < f n
    · exact ⟨n, by omega, hn⟩
    · have h' : 0 < isum f n + f n := h
      obtain ⟨i, hi, hp⟩ := isum_pos_ex (f := f) (n := n) (fun i hi => h0 i (by omega)) (by omega)
      exact ⟨i, by omega, hp⟩
theorem Perm.onto {n : Nat} {p : Nat → Nat} (h : Perm n p) {i : Nat} (hi : i < n) : ∃ j, j < n ∧ p j = i := by
  have hs := h.sum (upd (fun _ => 0) i 1)
  rw [isum_upd, isum_zero, if_pos hi] at hs
  obtain ⟨j, hj, hp⟩ := isum_pos_ex (f := fun j => upd (fun _ => 0) i 1 (p j)) (n := n) (fun j _ => by unfold upd; split <;> simp) (by omega)
  refine ⟨j, hj, ?_⟩
  unfold upd at hp
  by_cases e : p j = i
  · exact e
  · rw [if_neg e] at hp; simp at hp
theorem wadd (a b : Int) : wrap64 (wrap64 a + wrap64 b) = wrap64 (a + b) := by unfold wrap64; omega
theorem waddr (a b : Int) : wrap64 (wrap64 a + b) = wrap64 (a + b) := by unfold wrap64; omega
theorem wid (x : Int) (h0 : -9223372036854775808 ≤ x) (h1 : x ≤ 9223372036854775807) : wrap64 x = x := by unfold wrap64; omega
theorem wbd (x : Int) : -9223372036854775808 ≤ wrap64 x ∧ wrap64 x ≤ 9223372036854775807 := by unfold wrap64; omega
/-- the sum of products, round 64 bits -/
def dot (f g : Nat → Int) (n : Nat) : Int := wrap64 (isum (fun i => f i * g i) n)
theorem dot_zero (f g : Nat → Int) : dot f g 0 = 0 := by unfold dot isum wrap64; omega
theorem dot_succ (f g : Nat → Int) (n : Nat) : wrap64 (dot f g n + wrap64 (f n * g n)) = dot f g (n + 1) := by unfold dot; rw [wadd]; rfl
theorem dot_succ' (f g : Nat → Int) (n : Nat) : wrap64 (dot f g n + f n * g n) = dot f g (n + 1) := by unfold dot; rw [waddr]; rfl
theorem dot_congr {f g f' g' : Nat → Int} {n : Nat} (h : ∀ i, i < n → f i = f' i) (k : ∀ i, i < n → g i = g' i) : dot f g n = dot f' g' n := by
  unfold dot; rw [isum_congr (fun i hi => by rw [h i hi, k i hi])]
theorem dot_perm {f g : Nat → Int} {n : Nat} {p : Nat → Nat} (h : Perm n p) : dot (fun i => f (p i)) (fun i => g (p i)) n = dot f g n := by
  unfold dot; rw [h.sum (fun i => f i * g i)]
theorem dot_bd (f g : Nat → Int) (n : Nat) : -9223372036854775808 ≤ dot f g n ∧ dot f g n ≤ 9223372036854775807 := wbd _
end Go.Proofs.Ytjjnfpeeipainaa
