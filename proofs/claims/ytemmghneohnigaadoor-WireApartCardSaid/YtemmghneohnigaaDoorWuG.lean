import Derived.Test.YtemmghneohnigaaDoorWuF
namespace Go.Proofs.YtemmghneohnigaaDoor
open Go.RowKit
/-! The reference's Unquote, as data. -/
def valR (c : Int) : Int := if 97 ≤ c then IntKind.u8.wrap (IntKind.u8.wrap (c - 97) + 10) else IntKind.u8.wrap (c - 48)
theorem valR_bd (c : Int) : 0 ≤ valR c ∧ valR c ≤ 255 := by
  unfold valR
  split
  · rw [IntKind.wrap_u8']; omega
  · rw [IntKind.wrap_u8']; omega
theorem valR_hx {q : Int} (h0 : 0 ≤ q) (h1 : q < 16) : valR (hxD q) = q := by
  obtain ⟨k, rfl⟩ := Int.eq_ofNat_of_zero_le h0
  have hk : k < 16 := by omega
  clear h0 h1
  match k, hk with
  | 0, _ => decide
  | 1, _ => decide
  | 2, _ => decide
  | 3, _ => decide
  | 4, _ => decide
  | 5, _ => decide
  | 6, _ => decide
  | 7, _ => decide
  | 8, _ => decide
  | 9, _ => decide
  | 10, _ => decide
  | 11, _ => decide
  | 12, _ => decide
  | 13, _ => decide
  | 14, _ => decide
  | 15, _ => decide
  | k + 16, h => exact absurd h (by omega)
def hexR (x y : Int) : Int := valR x % 16 * 16 + valR y % 16
theorem hexR_bd (x y : Int) : 0 ≤ hexR x y ∧ hexR x y ≤ 255 := by unfold hexR; omega
theorem hexR_hx {c : Int} (h : 0 ≤ c ∧ c ≤ 255) : hexR (hxD (c / 16)) (hxD (c % 16)) = c := by
  unfold hexR
  rw [valR_hx (by omega) (by omega), valR_hx (by omega) (by omega)]
  omega
/-- what the reference has read up to a place -/
inductive Lr (t : List Int) : Nat → List Int → Prop
  | start : Lr t 1 []
  | own {k : Nat} {L : List Int} : Lr t k L → k < t.length → t.getD k 0 ≠ 34 → t.getD k 0 ≠ 92 → Lr t (k + 1) (L ++ [t.getD k 0])
  | hex {k : Nat} {L : List Int} : Lr t k L → k + 3 < t.length → t.getD k 0 = 92 → t.getD (k + 1) 0 = 120 → Lr t (k + 4) (L ++ [hexR (t.getD (k + 2) 0) (t.getD (k + 3) 0)])
  | quo {k : Nat} {L : List Int} : Lr t k L → k + 1 < t.length → t.getD k 0 = 92 → ¬ (k + 3 < t.length ∧ t.getD (k + 1) 0 = 120) → Lr t (k + 2) (L ++ [t.getD (k + 1) 0])
  | one {k : Nat} {L : List Int} : Lr t k L → k < t.length → t.getD k 0 = 92 → ¬ k + 1 < t.length → Lr t (k + 1) L
theorem getD_drop (t : List Int) (k j : Nat) : t.getD (k + j) 0 = (t.drop k).getD j 0 := by
  simp [List.getD_eq_getElem?_getD]
theorem len_drop {t d : List Int} {k : Nat} (h : t.drop k = d) (hd : d ≠ []) : t.length = k + d.length := by
  rw [← h, List.length_drop]
  have : k < t.length := by
    rcases Nat.lt_or_ge k t.length with h1 | h1
    · exact h1
    · exact absurd (by rw [← h]; exact List.drop_eq_nil_of_le h1) hd
  omega
theorem unq_drop {t b : List Int} (h : UnqP t b) {i : Nat} (hi : i < b.length) : ∃ W, W ≠ [] ∧ t.drop (1 + (pies (b.take i)).length) = pie (b.getD i 0) ++ W := by
  obtain ⟨z, e⟩ := h.body
  refine ⟨pies (b.drop (i + 1)) ++ 34 :: z, by simp, ?_⟩
  rw [e, pies_cut b i, drop_one hi, Nat.add_comm, List.drop_succ_cons]
  simp only [pies, List.append_assoc]
  rw [List.drop_left]
theorem unq_drop_end {t b : List Int} (h : UnqP t b) : ∃ z, t.drop (1 + (pies b).length) = 34 :: z := by
  obtain ⟨z, e⟩ := h.body
  refine ⟨z, ?_⟩
  rw [e, Nat.add_comm, List.drop_succ_cons, List.drop_left]
theorem lr_at {t b : List Int} (h : UnqP t b) {k : Nat} {L : List Int} (hr : Lr t k L) : ∃ i, i ≤ b.length ∧ L = b.take i ∧ k = 1 + (pies (b.take i)).length := by
  induction hr with
  | start => exact ⟨0, Nat.zero_le _, by simp, by simp [pies]⟩
  | own _ hlt h34 h92 ih =>
    obtain ⟨i, hi, rfl, rfl⟩ := ih
    rcases Nat.lt_or_ge i b.length with hib | hib
    · obtain ⟨W, _, hW⟩ := unq_drop h hib
      have g0 := getD_drop t (1 + (pies (b.take i)).length) 0
      rw [hW, Nat.add_zero] at g0
      rcases pie_cases (b.getD i 0) with ⟨q, k⟩ | ⟨q, k1, k2, k3⟩ | ⟨q, k1, k2⟩ <;> rw [q] at g0 <;> simp at g0
      · exact absurd g0 h92
      · refine ⟨i + 1, hib, ?_, ?_⟩
        · rw [take_one hib]; simp [List.getD_eq_getElem?_getD] at g0 ⊢; exact g0
        · rw [pies_succ hib, List.length_append, q]; simp; omega
      · exact absurd g0 h92
    · obtain rfl : i = b.length := by omega
      rw [List.take_length] at h34
      obtain ⟨z, hz⟩ := unq_drop_end h
      have g0 := getD_drop t (1 + (pies b).length) 0
      rw [hz, Nat.add_zero] at g0
      exact absurd g0 h34
  | hex _ hlt h92 h120 ih =>
    obtain ⟨i, hi, rfl, rfl⟩ := ih
    rcases Nat.lt_or_ge i b.length with hib | hib
    · obtain ⟨W, _, hW⟩ := unq_drop h hib
      have g0 := getD_drop t (1 + (pies (b.take i)).length) 0
      have g1 := getD_drop t (1 + (pies (b.take i)).length) 1
      have g2 := getD_drop t (1 + (pies (b.take i)).length) 2
      have g3 := getD_drop t (1 + (pies (b.take i)).length) 3
      rw [hW] at g0 g1 g2 g3
      rw [Nat.add_zero] at g0
      have hb := byt_get h.1 hib
      rcases pie_cases (b.getD i 0) with ⟨q, k⟩ | ⟨q, k1, k2, k3⟩ | ⟨q, k1, k2⟩ <;> rw [q] at g0 g1 g2 g3 <;> simp only [List.cons_append, List.nil_append, List.getD_cons_zero, List.getD_cons_succ] at g0 g1 g2 g3
      · omega
      · omega
      · refine ⟨i + 1, hib, ?_, ?_⟩
        · rw [take_one hib, g2, g3, hexR_hx hb]
        · rw [pies_succ hib, List.length_append, q]; simp; omega
    · obtain rfl : i = b.length := by omega
      rw [List.take_length] at h92
      obtain ⟨z, hz⟩ := unq_drop_end h
      have g0 := getD_drop t (1 + (pies b).length) 0
      rw [hz, Nat.add_zero, h92] at g0
      simp at g0
  | quo _ hlt h92 hnx ih =>
    obtain ⟨i, hi, rfl, rfl⟩ := ih
    rcases Nat.lt_or_ge i b.length with hib | hib
    · obtain ⟨W, hWn, hW⟩ := unq_drop h hib
      have g0 := getD_drop t (1 + (pies (b.take i)).length) 0
      have g1 := getD_drop t (1 + (pies (b.take i)).length) 1
      have hlen := len_drop hW (by simp [hWn])
      rw [hW] at g0 g1
      rw [Nat.add_zero] at g0
      have hWl : 0 < W.length := List.length_pos_iff.2 hWn
      rcases pie_cases (b.getD i 0) with ⟨q, k⟩ | ⟨q, k1, k2, k3⟩ | ⟨q, k1, k2⟩ <;> rw [q] at g0 g1 hlen <;> simp only [List.cons_append, List.nil_append, List.getD_cons_zero, List.getD_cons_succ, List.length_cons] at g0 g1 hlen
      · refine ⟨i + 1, hib, ?_, ?_⟩
        · rw [take_one hib, g1]
        · rw [pies_succ hib, List.length_append, q]; simp; omega
      · omega
      · exact absurd ⟨by omega, g1⟩ hnx
    · obtain rfl : i = b.length := by omega
      rw [List.take_length] at h92
      obtain ⟨z, hz⟩ := unq_drop_end h
      have g0 := getD_drop t (1 + (pies b).length) 0
      rw [hz, Nat.add_zero, h92] at g0
      simp at g0
  | one _ hlt h92 hnx ih =>
    obtain ⟨i, hi, rfl, rfl⟩ := ih
    rcases Nat.lt_or_ge i b.length with hib | hib
    · obtain ⟨W, hWn, hW⟩ := unq_drop h hib
      have hlen := len_drop hW (by simp [hWn])
      have := (pie_len (b.getD i 0)).1
      have hWl : 0 < W.length := List.length_pos_iff.2 hWn
      rw [List.length_append] at hlen
      omega
    · obtain rfl : i = b.length := by omega
      rw [List.take_length] at h92
      obtain ⟨z, hz⟩ := unq_drop_end h
      have g0 := getD_drop t (1 + (pies b).length) 0
      rw [hz, Nat.add_zero, h92] at g0
      simp at g0
/-- where the reference ends, it has read the literal, if there is one -/
theorem lr_end {t b : List Int} (h : UnqP t b) {k : Nat} {L : List Int} (hr : Lr t k L) (he : ¬ (k < t.length ∧ t.getD k 0 ≠ 34)) : L = b := by
  obtain ⟨i, hi, rfl, rfl⟩ := lr_at h hr
  rcases Nat.lt_or_ge i b.length with hib | hib
  · obtain ⟨W, hWn, hW⟩ := unq_drop h hib
    have hlen := len_drop hW (by simp [hWn])
    have g0 := getD_drop t (1 + (pies (b.take i)).length) 0
    rw [hW, Nat.add_zero] at g0
    have hp := (pie_len (b.getD i 0)).1
    rw [List.length_append] at hlen
    exfalso
    apply he
    refine ⟨by omega, fun e => ?_⟩
    rw [e] at g0
    rcases pie_cases (b.getD i 0) with ⟨q, k⟩ | ⟨q, k1, k2, k3⟩ | ⟨q, k1, k2⟩ <;> rw [q] at g0 <;> simp only [List.cons_append, List.nil_append, List.getD_cons_zero] at g0 <;> omega
  · obtain rfl : i = b.length := by omega
    simp
theorem Lr.bd {t : List Int} (ht : Byt t) {k : Nat} {L : List Int} (h : Lr t k L) : Byt L ∧ 1 ≤ k ∧ k ≤ t.length + 1 ∧ L.length ≤ k := by
  induction h with
  | start => exact ⟨byt_nil, by omega, by omega, by simp⟩
  | own _ hlt _ _ ih => exact ⟨ih.1.app (byt_cons (byt_get ht hlt) byt_nil), by omega, by omega, by simp; omega⟩
  | hex _ hlt _ _ ih => exact ⟨ih.1.app (byt_cons (hexR_bd _ _) byt_nil), by omega, by omega, by simp; omega⟩
  | quo _ hlt _ _ ih => exact ⟨ih.1.app (byt_cons (byt_get ht hlt) byt_nil), by omega, by omega, by simp; omega⟩
  | one _ hlt _ _ ih => exact ⟨ih.1, by omega, by omega, by omega⟩
end Go.Proofs.YtemmghneohnigaaDoor
