import Derived.Test.YtbpldnlafilbbaaNgU
namespace Go.Proofs.Ytbpldnlafilbbaa
open Go.RowKit
/-! What the places are, by the text alone. -/
def Sm (tx : Nat → Int) (q l n : Nat) : Prop := ∀ j, j < l → tx (q - l + j) = tx (n - l + j)
theorem Sm.less {tx : Nat → Int} {q l m n : Nat} (h : Sm tx q l n) (hm : m ≤ l) (hq : l ≤ q) (hn : l ≤ n) : Sm tx q m n := fun j hj => by
  have := h (l - m + j) (by omega)
  rw [show q - l + (l - m + j) = q - m + j by omega, show n - l + (l - m + j) = n - m + j by omega] at this
  exact this
theorem rn_iff {tx : Nat → Int} {q l n : Nat} (hl : l ≤ 4) : runV (rn tx q l) = runV (rn tx n l) ↔ Sm tx q l n := by
  constructor
  · intro h
    have h := runV_inj h
    unfold rn at h
    simp only [List.cons.injEq, and_true] at h
    obtain ⟨h0, h1, h2, h3⟩ := h
    intro j hj
    have key : rc tx q l j = rc tx n l j := by
      match j, hj with
      | 0, _ => exact h0
      | 1, _ => exact h1
      | 2, _ => exact h2
      | 3, _ => exact h3
      | j + 4, hj => omega
    unfold rc at key
    rwa [if_pos hj, if_pos hj] at key
  · intro h
    have key : ∀ j, rc tx q l j = rc tx n l j := fun j => by
      unfold rc
      by_cases e : j < l
      · rw [if_pos e, if_pos e]; exact h j e
      · rw [if_neg e, if_neg e]
    unfold rn
    rw [key, key, key, key]
theorem Hd_iff {tx : Nat → Int} {q i n : Nat} (hi : i < 4) : Hd tx i (runV (rn tx n (i + 1))) q ↔ i + 1 ≤ q ∧ Sm tx q (i + 1) n := by
  unfold Hd
  rw [rn_iff (by omega)]
/-- a run of l tokens stands at the end and ahead of a place -/
def Has (tx : Nat → Int) (n l : Nat) : Prop := ∃ q, l ≤ q ∧ q < n ∧ Sm tx q l n
theorem Has.less {tx : Nat → Int} {n l m : Nat} (h : Has tx n l) (hm : m ≤ l) : Has tx n m := by
  obtain ⟨q, h1, h2, h3⟩ := h
  exact ⟨q, by omega, h2, h3.less hm h1 (by omega)⟩
theorem ear_has {tx : Nat → Int} {n i r : Nat} (hi : i < 4) (h : ear tx n i = some r) : Has tx n (i + 1) := by
  obtain ⟨h1, h2, h3, _⟩ := lat_some h
  have := (Hd_iff hi).1 h3
  exact ⟨r, this.1, by omega, this.2⟩
theorem ear_not {tx : Nat → Int} {n i : Nat} (hi : i < 4) (h : ear tx n i = none) : ¬ Has tx n (i + 1) := by
  rintro ⟨q, h1, h2, h3⟩
  exact lat_none h q (by omega) (by omega) ((Hd_iff hi).2 ⟨h1, h3⟩)
theorem endL_has {tx : Nat → Int} {most n : Nat} (hm : most ≤ 4) (h : 1 ≤ endL tx most n) : Has tx n (endL tx most n) := by
  have hle := (endL_le tx most n).2
  obtain ⟨k, hk⟩ : ∃ k, endL tx most n = k + 1 := ⟨endL tx most n - 1, by omega⟩
  obtain ⟨q, hq⟩ := erL_at (l := Nat.min n most) hk
  rw [hk]
  exact ear_has (by omega) hq
theorem endL_not {tx : Nat → Int} {most n l : Nat} (hm : most ≤ 4) (h : endL tx most n < l) (hl : l ≤ most) : ¬ Has tx n l := by
  intro hh
  have hn : l ≤ n := by obtain ⟨q, h1, h2, _⟩ := hh; omega
  obtain ⟨k, rfl⟩ : ∃ k, l = k + 1 := ⟨l - 1, by omega⟩
  have hmin : k < Nat.min n most := Nat.lt_min.2 ⟨by omega, by omega⟩
  exact ear_not (by omega) (erL_gone (l := Nat.min n most) (by show endL tx most n ≤ k; omega) hmin) hh
theorem endL_eq {tx : Nat → Int} {most n l : Nat} (hm : most ≤ 4) (hl : l ≤ most) (h1 : 1 ≤ l → Has tx n l) (h2 : ∀ m, l < m → m ≤ most → ¬ Has tx n m) : endL tx most n = l := by
  have hle := (endL_le tx most n).2
  by_cases e : endL tx most n < l
  · exact absurd (h1 (by omega)) (endL_not hm e hl)
  · by_cases e2 : l < endL tx most n
    · exact absurd (endL_has hm (by omega)) (h2 _ e2 hle)
    · omega
theorem plL_iff {tx : Nat → Int} {most n q : Nat} (hm : most ≤ 4) : q ∈ plL tx most n ↔ 1 ≤ endL tx most n ∧ endL tx most n ≤ q ∧ q < n ∧ Sm tx q (endL tx most n) n := by
  have hle := (endL_le tx most n).2
  unfold plL
  by_cases e : endL tx most n = 0
  · rw [if_pos e]
    constructor
    · intro h; cases h
    · intro h; omega
  · rw [if_neg e, dwn_mem]
    obtain ⟨k, hk⟩ : ∃ k, endL tx most n = k + 1 := ⟨endL tx most n - 1, by omega⟩
    rw [hk, show k + 1 - 1 = k by omega, Hd_iff (by omega)]
    constructor
    · rintro ⟨h1, h2, h3, h4⟩; exact ⟨by omega, h3, by omega, h4⟩
    · rintro ⟨h1, h2, h3, h4⟩; exact ⟨by omega, by omega, h2, h4⟩
theorem plL_nil {tx : Nat → Int} {most n : Nat} (hm : most ≤ 4) : plL tx most n = [] ↔ endL tx most n = 0 := by
  constructor
  · intro h
    by_cases e : endL tx most n = 0
    · exact e
    · obtain ⟨q, h1, h2, h3⟩ := endL_has (tx := tx) (n := n) hm (by omega)
      have := (plL_iff hm).2 ⟨by omega, h1, h2, h3⟩
      rw [h] at this
      cases this
  · intro h
    unfold plL
    rw [if_pos h]
theorem end_zero {tx : Nat → Int} {m k n : Nat} (hm : m ≤ 4) (hk : 1 ≤ k ∧ k ≤ 4) (h : 1 ≤ endL tx m n) : 1 ≤ endL tx k n := by
  have := endL_has hm h
  by_cases e : 1 ≤ endL tx k n
  · exact e
  · exact absurd (this.less h) (endL_not hk.2 (by omega) (by omega))
theorem plL_more {tx : Nat → Int} {k n q : Nat} (hk : 1 ≤ k ∧ k ≤ 4) (h : q ∈ plL tx 4 n) : q ∈ plL tx k n := by
  obtain ⟨h1, h2, h3, h4⟩ := (plL_iff (Nat.le_refl _)).1 h
  have h0 := end_zero (by omega) hk h1
  have hle : endL tx k n ≤ endL tx 4 n := by
    by_cases e : endL tx 4 n < endL tx k n
    · exact absurd (endL_has hk.2 h0) (endL_not (Nat.le_refl _) e (by have := (endL_le tx k n).2; omega))
    · omega
  exact (plL_iff hk.2).2 ⟨h0, by omega, h3, h4.less hle h2 (by omega)⟩
end Go.Proofs.Ytbpldnlafilbbaa
