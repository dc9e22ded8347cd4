import Derived.Test.YtppcgfdogacmkaaPM
namespace Go.Proofs.Ytppcgfdogacmkaa
open Go.RowKit
/-! Who holds what: the numbers. -/
/-- how often b stands among the first n -/
def tms (f : Nat → Nat) (b : Nat) (n : Nat) : Nat := timesN (fun j => ((f j : Nat) : Int)) (b : Int) n
theorem tms_zero (f : Nat → Nat) (b : Nat) : tms f b 0 = 0 := rfl
theorem tms_succ (f : Nat → Nat) (b n : Nat) : tms f b (n + 1) = tms f b n + (if f n = b then 1 else 0) := by
  show timesN _ _ n + _ = _
  unfold tms
  by_cases e : f n = b
  · rw [if_pos e, if_pos (by simp [e])]
  · simp [e]; exact fun k => e (by exact_mod_cast k)
theorem tms_congr {f g : Nat → Nat} {b : Nat} : ∀ {n : Nat}, (∀ j, j < n → f j = g j) → tms f b n = tms g b n
  | 0, _ => rfl
  | n + 1, h => by rw [tms_succ, tms_succ, tms_congr (fun j hj => h j (by omega)), h n (by omega)]
theorem tms_none {f : Nat → Nat} {b : Nat} : ∀ {n : Nat}, (∀ j, j < n → f j ≠ b) → tms f b n = 0
  | 0, _ => rfl
  | n + 1, h => by rw [tms_succ, tms_none (fun j hj => h j (by omega)), if_neg (h n (by omega))]
theorem tms_pos {f : Nat → Nat} {b j : Nat} : ∀ {n : Nat}, j < n → f j = b → 0 < tms f b n
  | 0, h, _ => absurd h (by omega)
  | n + 1, h, e => by
    rw [tms_succ]
    by_cases k : j = n
    · subst k; rw [if_pos e]; omega
    · have := tms_pos (n := n) (by omega) e
      omega
theorem tms_le_one {f : Nat → Nat} {b : Nat} : ∀ {n : Nat}, (∀ i j, i < j → j < n → f i ≠ f j) → tms f b n ≤ 1
  | 0, _ => by simp [tms_zero]
  | n + 1, h => by
    rw [tms_succ]
    by_cases e : f n = b
    · rw [if_pos e, tms_none (fun j hj k => h j n hj (by omega) (by rw [k, e]))]
      omega
    · have := tms_le_one (f := f) (b := b) (n := n) (fun i j hi hj => h i j hi (by omega))
      rw [if_neg e]; omega
theorem tms_one {f : Nat → Nat} {j n : Nat} (h : ∀ i j, i < j → j < n → f i ≠ f j) (hj : j < n) : tms f (f j) n = 1 := by
  have := tms_le_one (b := f j) h
  have := tms_pos hj (rfl : f j = f j)
  omega
theorem tms_upd {f : Nat → Nat} {b p y : Nat} : ∀ {n : Nat}, p < n → tms (updN f p y) b n + (if f p = b then 1 else 0) = tms f b n + (if y = b then 1 else 0)
  | 0, h => absurd h (by omega)
  | n + 1, h => by
    rw [tms_succ, tms_succ]
    by_cases e : p = n
    · subst e
      rw [updN_at, tms_congr (g := f) (fun j hj => updN_ne _ _ (by omega))]
      omega
    · rw [updN_ne _ _ (by omega : n ≠ p)]
      have := tms_upd (f := f) (b := b) (y := y) (n := n) (p := p) (by omega)
      omega
theorem tms_ext {f g : Nat → Nat} {b m : Nat} : ∀ k, tms (extB f m g) b (m + k) = tms f b m + tms g b k
  | 0 => by rw [Nat.add_zero, tms_zero, Nat.add_zero]; exact tms_congr (fun j hj => extB_lt hj)
  | k + 1 => by rw [← Nat.add_assoc, tms_succ, tms_succ, tms_ext k, extB_at]; omega
/-- all of them together -/
def sumT (f : Nat → Nat) (n : Nat) : Nat → Nat
  | 0 => 0
  | B + 1 => sumT f n B + tms f B n
theorem sumT_succ (f : Nat → Nat) (n : Nat) : ∀ B, sumT f (n + 1) B = sumT f n B + (if f n < B then 1 else 0)
  | 0 => by rw [if_neg (by omega)]; rfl
  | B + 1 => by
    show sumT f (n + 1) B + tms f B (n + 1) = sumT f n B + tms f B n + _
    rw [sumT_succ f n B, tms_succ]
    by_cases e : f n = B
    · rw [if_pos e, if_neg (by omega), if_pos (by omega)]; omega
    · by_cases h : f n < B
      · rw [if_pos h, if_neg e, if_pos (by omega)]; omega
      · rw [if_neg h, if_neg e, if_neg (by omega)]; omega
theorem sumT_all (f : Nat → Nat) (B : Nat) : ∀ n, (∀ j, j < n → f j < B) → sumT f n B = n
  | 0, _ => by
    have : ∀ B, sumT f 0 B = 0 := fun B => by
      induction B with
      | zero => rfl
      | succ B ih => show sumT f 0 B + tms f B 0 = 0; rw [ih]; rfl
    exact this B
  | n + 1, h => by rw [sumT_succ, sumT_all f B n (fun j hj => h j (by omega)), if_pos (h n (by omega))]
theorem sumT_le {f : Nat → Nat} {n : Nat} (h : ∀ i j, i < j → j < n → f i ≠ f j) : ∀ B, sumT f n B ≤ B
  | 0 => Nat.le_refl _
  | B + 1 => by
    have := sumT_le h B
    have := tms_le_one (b := B) h
    show sumT f n B + tms f B n ≤ B + 1
    omega
theorem pigeon {f : Nat → Nat} {n B : Nat} (h1 : ∀ j, j < n → f j < B) (h2 : ∀ i j, i < j → j < n → f i ≠ f j) : n ≤ B := by
  have := sumT_all f B n h1
  have := sumT_le h2 B
  omega
theorem takesC_eq {B : Nat} {c : Nat → Nat} (b : Nat) : ∀ k, k ≤ freeN c B → takesC B c k b = c b + tms (tk B c) b k
  | 0, _ => rfl
  | k + 1, h => by
    have ih := takesC_eq (B := B) (c := c) b k (by omega)
    show updN (takesC B c k) (tk B c k) 1 b = _
    rw [tms_succ]
    by_cases e : tk B c k = b
    · subst e
      rw [updN_at, if_pos rfl]
      have := (tk_lt (B := B) (c := c) (k := k) (by omega)).2
      omega
    · rw [updN_ne _ _ (fun k => e k.symm), if_neg e, ih, Nat.add_zero]
theorem drops_eq2 {f c : Nat → Nat} {m B : Nat} (b : Nat) (_hl : ∀ j, j < m → f j < B) (hb : ∀ b, b < B → tms f b m ≤ c b) (hbB : b < B) : ∀ k, k ≤ m → drops f m k c b + tms f b m = c b + tms f b (m - k)
  | 0, _ => rfl
  | k + 1, h => by
    have ih := drops_eq2 b _hl hb hbB k (by omega)
    have e1 : tms f b (m - k) = tms f b (m - (k + 1)) + (if f (m - 1 - k) = b then 1 else 0) := by
      rw [show m - k = (m - (k + 1)) + 1 by omega, tms_succ, show m - (k + 1) = m - 1 - k by omega]
    have := hb b hbB
    show updN (drops f m k c) (f (m - 1 - k)) (drops f m k c (f (m - 1 - k)) - 1) b + _ = _
    by_cases e : f (m - 1 - k) = b
    · rw [if_pos e] at e1
      rw [e, updN_at]
      omega
    · rw [if_neg e] at e1
      rw [updN_ne _ _ (fun k => e k.symm)]
      omega
theorem holdsC_eq {c f : Nat → Nat} (b : Nat) : ∀ k, holdsC c f k b = c b + tms f b k
  | 0 => rfl
  | k + 1 => by
    show updN (holdsC c f k) (f k) (holdsC c f k (f k) + 1) b = _
    rw [tms_succ]
    by_cases e : f k = b
    · subst e
      rw [updN_at, if_pos rfl, holdsC_eq (f k) k]; omega
    · rw [updN_ne _ _ (fun k => e k.symm), if_neg e, holdsC_eq b k]; omega
/-- three tables and what is held beside them -/
structure Lk (B : Nat) (cnt : Nat → Nat) (m : Nat → Nat) (bl : Nat → Nat → Nat) (nf : Nat) (fr : Nat → Nat) : Prop where
  lt : ∀ i, i < 3 → ∀ j, j < m i → bl i j < B
  ne : ∀ i, i < 3 → ∀ j k, j < k → k < m i → bl i j ≠ bl i k
  frlt : ∀ j, j < nf → fr j < B
  cnt : ∀ b, b < B → cnt b = tms (bl 0) b (m 0) + tms (bl 1) b (m 1) + tms (bl 2) b (m 2) + tms fr b nf
theorem Lk.ge {B : Nat} {cnt m : Nat → Nat} {bl : Nat → Nat → Nat} {nf : Nat} {fr : Nat → Nat} (h : Lk B cnt m bl nf fr) {i b : Nat} (hi : i < 3) (hb : b < B) : tms (bl i) b (m i) ≤ cnt b := by
  have := h.cnt b hb
  match i, hi with
  | 0, _ => omega
  | 1, _ => omega
  | 2, _ => omega
theorem tms_le {f : Nat → Nat} {b : Nat} : ∀ n, tms f b n ≤ n
  | 0 => Nat.le_refl _
  | n + 1 => by have := tms_le (f := f) (b := b) n; rw [tms_succ]; split <;> omega
theorem Lk.small {B : Nat} {cnt m : Nat → Nat} {bl : Nat → Nat → Nat} {nf : Nat} {fr : Nat → Nat} (h : Lk B cnt m bl nf fr) {b : Nat} (hb : b < B) : cnt b ≤ 3 + nf := by
  have := h.cnt b hb
  have := tms_le_one (b := b) (h.ne 0 (by decide))
  have := tms_le_one (b := b) (h.ne 1 (by decide))
  have := tms_le_one (b := b) (h.ne 2 (by decide))
  have := tms_le (f := fr) (b := b) nf
  omega
theorem Lk.len {B : Nat} {cnt m : Nat → Nat} {bl : Nat → Nat → Nat} {nf : Nat} {fr : Nat → Nat} (h : Lk B cnt m bl nf fr) {i : Nat} (hi : i < 3) : m i ≤ B := pigeon (h.lt i hi) (h.ne i hi)
/-- one table turned -/
theorem Lk.step {B : Nat} {cnt cnt' m : Nat → Nat} {bl : Nat → Nat → Nat} {nf : Nat} {fr : Nat → Nat} (h : Lk B cnt m bl nf fr) {i m' : Nat} {bl' : Nat → Nat} (hi : i < 3) (h1 : ∀ j, j < m' → bl' j < B) (h2 : ∀ j k, j < k → k < m' → bl' j ≠ bl' k) (h3 : ∀ b, b < B → cnt' b + tms (bl i) b (m i) = cnt b + tms bl' b m') : Lk B cnt' (updN m i m') (updA bl i bl') nf fr := by
  refine ⟨fun j hj => ?_, fun j hj => ?_, h.frlt, fun b hb => ?_⟩
  · by_cases e : j = i
    · subst e; rw [updN_at, updA_at]; exact h1
    · rw [updN_ne _ _ e, updA_ne _ _ e]; exact h.lt j hj
  · by_cases e : j = i
    · subst e; rw [updN_at, updA_at]; exact h2
    · rw [updN_ne _ _ e, updA_ne _ _ e]; exact h.ne j hj
  · have a := h.cnt b hb
    have c := h3 b hb
    match i, hi with
    | 0, _ =>
      rw [updN_at, updA_at, updN_ne _ _ (by decide), updA_ne _ _ (by decide), updN_ne _ _ (by decide), updA_ne _ _ (by decide)]
      omega
    | 1, _ =>
      rw [updN_at, updA_at, updN_ne _ _ (by decide), updA_ne _ _ (by decide), updN_ne _ _ (by decide), updA_ne _ _ (by decide)]
      omega
    | 2, _ =>
      rw [updN_at, updA_at, updN_ne _ _ (by decide), updA_ne _ _ (by decide), updN_ne _ _ (by decide), updA_ne _ _ (by decide)]
      omega
theorem Lk.free {B : Nat} {cnt cnt' m : Nat → Nat} {bl : Nat → Nat → Nat} {nf nf' : Nat} {fr fr' : Nat → Nat} (h : Lk B cnt m bl nf fr) (h1 : ∀ j, j < nf' → fr' j < B) (h3 : ∀ b, b < B → cnt' b + tms fr b nf = cnt b + tms fr' b nf') : Lk B cnt' m bl nf' fr' :=
  ⟨h.lt, h.ne, h1, fun b hb => by have a := h.cnt b hb; have c := h3 b hb; omega⟩
end Go.Proofs.Ytppcgfdogacmkaa
