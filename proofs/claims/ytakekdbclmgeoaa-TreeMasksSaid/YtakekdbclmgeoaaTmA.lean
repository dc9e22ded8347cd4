import Derived.Test.YtakekdbclmgeoaaTpE
namespace Go.Proofs.Ytakekdbclmgeoaa
open Go.RowKit
/-! What TreeMasks wants: a way's places are the set above its last; every place is on a leaf's way. -/
def orW (L : List Nat) : Nat → Nat
  | 0 => 0
  | i + 1 => orW L i ||| 2 ^ (L.getD i 0)
theorem orW_congr {L M : List Nat} : ∀ i, (∀ j, j < i → L.getD j 0 = M.getD j 0) → orW L i = orW M i
  | 0, _ => rfl
  | i + 1, h => by rw [orW, orW, orW_congr i (fun j hj => h j (by omega)), h i (by omega)]
theorem orW_app (L : List Nat) (x : Nat) : orW (L ++ [x]) (L ++ [x]).length = orW L L.length ||| 2 ^ x := by
  rw [List.length_append, List.length_cons, List.length_nil]
  show orW (L ++ [x]) L.length ||| 2 ^ ((L ++ [x]).getD L.length 0) = _
  rw [orW_congr (M := L) L.length (fun j hj => by rw [List.getD_eq_getElem?_getD, List.getD_eq_getElem?_getD, List.getElem?_append_left hj])]
  congr 2
  simp
theorem orW_way {n : Nat} {P T D : Nat → Int} (h : okT n P T D) : ∀ i, i < n → orW (wy P i) (wy P i).length = abv P i := by
  intro i
  induction i using Nat.strongRecOn with
  | ind i ih =>
    intro hi
    by_cases h0 : i = 0
    · subst h0
      rw [wy_zero, abv]
      decide
    · obtain ⟨hp, he⟩ := wy_step h (by omega) hi
      rw [he, orW_app, ih _ hp (by omega), abv_or h (by omega) hi]
theorem orW_lt {L : List Nat} (hL : ∀ j, j < L.length → L.getD j 0 < 32) : ∀ i, i ≤ L.length → orW L i < 4294967296
  | 0, _ => by rw [orW]; omega
  | i + 1, hi => by
    rw [orW]
    exact Nat.or_lt_two_pow (n := 32) (orW_lt hL i (by omega)) (Nat.pow_lt_pow_right (by decide) (hL i (by omega)))
def snB (n : Nat) (P : Nat → Int) : Nat → Nat
  | 0 => 0
  | k + 1 => snB n P k ||| abv P ((lvL n P).getD k 0)
theorem snB_lt {n : Nat} {P T D : Nat → Int} (h : okT n P T D) : ∀ k, k ≤ (lvL n P).length → snB n P k < 4294967296
  | 0, _ => by rw [snB]; omega
  | k + 1, hk => by
    rw [snB]
    exact Nat.or_lt_two_pow (n := 32) (snB_lt h k (by omega)) (abv_32 h (lvL_lt (by omega)))
theorem snB_bit (n : Nat) (P : Nat → Int) (x : Nat) : ∀ k, (snB n P k).testBit x = true ↔ ∃ j, j < k ∧ (abv P ((lvL n P).getD j 0)).testBit x = true
  | 0 => by simp [snB]
  | k + 1 => by
    rw [snB, Nat.testBit_or, Bool.or_eq_true, snB_bit n P x k]
    constructor
    · rintro (⟨j, j1, j2⟩ | h)
      · exact ⟨j, by omega, j2⟩
      · exact ⟨k, by omega, h⟩
    · rintro ⟨j, j1, j2⟩
      by_cases e : j = k
      · subst e; exact .inr j2
      · exact .inl ⟨j, by omega, j2⟩
theorem abv_self {n : Nat} {P T D : Nat → Int} (h : okT n P T D) {i : Nat} (hi : i < n) : (abv P i).testBit i = true := by
  by_cases h0 : i = 0
  · subst h0
    rw [abv]
    decide
  · rw [← abv_or h (by omega) hi, Nat.testBit_or, Nat.testBit_two_pow]
    simp
theorem leaf_down {n : Nat} {P T D : Nat → Int} (h : okT n P T D) (x : Nat) : ∀ d j, n - j ≤ d → j < n → (abv P j).testBit x = true → ∃ i, i < n ∧ lfB n P i = true ∧ (abv P i).testBit x = true
  | 0, j, hd, hj, _ => absurd hd (by omega)
  | d + 1, j, hd, hj, hb => by
    cases hl : lfB n P j with
    | true => exact ⟨j, hj, hl, hb⟩
    | false =>
      have : ¬ ∀ c, c < n → P c ≠ (j : Int) := fun q => by rw [(lfB_iff h j).2 q] at hl; cases hl
      obtain ⟨c, hc⟩ := Classical.not_forall.1 this
      have hcn : c < n := Classical.byContradiction fun q => hc (fun q2 => absurd q2 q)
      have hcp : P c = (j : Int) := Classical.byContradiction fun q => hc (fun _ => q)
      have h0 : 1 ≤ c := by
        rcases Nat.eq_zero_or_pos c with q | q
        · subst q
          rw [h.2.2.1] at hcp
          omega
        · exact q
      obtain ⟨p1, p2, _⟩ := h.2.2.2.2 c h0 hcn
      refine leaf_down h x d c (by omega) hcn ?_
      rw [← abv_or h h0 hcn, Nat.testBit_or, hcp, Int.toNat_natCast, hb]
      rfl
theorem snB_all {n : Nat} {P T D : Nat → Int} (h : okT n P T D) : snB n P (lvL n P).length = 2 ^ n - 1 := by
  apply Nat.eq_of_testBit_eq
  intro x
  rw [Nat.testBit_two_pow_sub_one]
  by_cases hx : x < n
  · rw [decide_eq_true hx]
    obtain ⟨i, hi, hl, hb⟩ := leaf_down h x (n - x) x (Nat.le_refl _) hx (abv_self h hx)
    obtain ⟨a1, a2⟩ := lv_at hi hl
    exact (snB_bit n P x _).2 ⟨_, a1, by rw [a2]; exact hb⟩
  · rw [decide_eq_false hx]
    cases hq : (snB n P (lvL n P).length).testBit x with
    | false => rfl
    | true =>
      obtain ⟨j, hj, hb⟩ := (snB_bit n P x _).1 hq
      have hlt := abv_lt h _ (lvL_lt hj)
      have h2 := lvL_lt hj
      have : abv P ((lvL n P).getD j 0) < 2 ^ x := Nat.lt_of_lt_of_le hlt (Nat.pow_le_pow_right (by decide) (by omega))
      rw [Nat.testBit_lt_two_pow this] at hb
      cases hb
end Go.Proofs.Ytakekdbclmgeoaa
