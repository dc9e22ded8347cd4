import Derived.Test.YteiocgciblogdabVEnc
namespace Go.Proofs.Yteiocgciblogdab
open Go.RowKit
/-! What a list of tokens stands for. -/
def VD.spell (d : VD) (l : List Int) : List Int := l.flatMap (fun t => d.pc t.toNat)
theorem VD.dec_spell (d : VD) (l : List Int) : ∀ k, k ≤ l.length → d.dec (fun i => l.getD i 0) k = d.spell (l.take k)
  | 0, _ => by simp [VD.dec, VD.spell]
  | k + 1, h => by
    have e : l.take (k + 1) = l.take k ++ [l.getD k 0] := by
      rw [List.take_add_one]
      simp [List.getD_eq_getElem?_getD, show k < l.length by omega]
    rw [VD.dec, VD.dec_spell d l k (by omega), e]
    simp [VD.spell]
theorem VD.spell_join (d : VD) {p q t : Int} (h : d.pc t.toNat = d.pc p.toNat ++ d.pc q.toNat) : ∀ (l : List Int), d.spell (joinL p q t l) = d.spell l
  | [] => by simp [joinL]
  | [x] => by simp [joinL]
  | x :: y :: r => by
    rw [joinL]
    split
    · rename_i e
      have := VD.spell_join d h r
      simp only [VD.spell, List.flatMap_cons] at *
      rw [this, h, e.1, e.2, List.append_assoc]
    · have := VD.spell_join d h (y :: r)
      simp only [VD.spell, List.flatMap_cons] at *
      rw [this]
theorem join_mem {p q t : Int} : ∀ {l : List Int} {x : Int}, x ∈ joinL p q t l → x = t ∨ x ∈ l
  | [], x, h => by simp [joinL] at h
  | [y], x, h => by simp [joinL] at h; exact .inr (by simp [h])
  | y :: z :: r, x, h => by
    rw [joinL] at h
    split at h
    · rcases List.mem_cons.1 h with e | e
      · exact .inl e
      · rcases join_mem e with e | e
        · exact .inl e
        · exact .inr (by simp [e])
    · rcases List.mem_cons.1 h with e | e
      · exact .inr (by simp [e])
      · rcases join_mem e with e | e
        · exact .inl e
        · exact .inr (List.mem_cons_of_mem _ e)
theorem VD.enc_spell (d : VD) (hR : d.Right) (l : List Int) : ∀ k, k ≤ d.np → d.spell (d.encL l k) = d.spell l
  | 0, _ => rfl
  | k + 1, h => by
    rw [VD.encL, d.spell_join, VD.enc_spell d hR l k (by omega)]
    rw [show (1 + (d.nb : Int) + (k : Int)).toNat = d.nb + 1 + k by omega, d.pc_pair (hR.ok k (by omega))]
theorem VD.enc_mem (d : VD) (l : List Int) : ∀ k, ∀ x ∈ d.encL l k, x ∈ l ∨ ∃ j, j < k ∧ x = 1 + (d.nb : Int) + (j : Int)
  | 0, x, h => .inl h
  | k + 1, x, h => by
    rcases join_mem h with e | e
    · exact .inr ⟨k, by omega, e⟩
    · rcases VD.enc_mem d l k x e with e | ⟨j, hj, e⟩
      · exact .inl e
      · exact .inr ⟨j, by omega, e⟩
/-- a byte's token is the place at which it stands -/
theorem VD.btk_spec (d : VD) (b : Nat) : ∀ k, d.btk k b = 0 ∨ ∃ i, i < d.nb ∧ d.B i = (b : Int) ∧ d.btk k b = (i : Int) + 1
  | 0 => .inl rfl
  | k + 1 => by
    rw [VD.btk]
    split
    · rename_i h
      exact .inr ⟨k - 1, by omega, h.2.2, by omega⟩
    · exact VD.btk_spec d b k
theorem VD.btk_has (d : VD) (b : Nat) {i : Nat} (hi : i < d.nb) (hB : d.B i = (b : Int)) : ∀ k, i + 1 < k → d.btk k b ≠ 0
  | 0, h => by omega
  | k + 1, h => by
    rw [VD.btk]
    split
    · omega
    · rename_i hn
      by_cases e : k = i + 1
      · subst e
        exact absurd ⟨by omega, by omega, by simpa using hB⟩ hn
      · exact VD.btk_has d b hi hB k (by omega)
theorem VD.tok_zero (d : VD) {x : Int} (hx : 0 ≤ x) : d.tok x = 0 ↔ ∀ i, i < d.nb → d.B i ≠ x := by
  unfold VD.tok
  constructor
  · intro h i hi e
    exact d.btk_has x.toNat hi (by rw [e]; omega) (d.nb + 1) (by omega) h
  · intro h
    rcases d.btk_spec x.toNat (d.nb + 1) with e | ⟨i, hi, e, _⟩
    · exact e
    · exact absurd (by rw [e]; omega) (h i hi)
theorem VD.tok_pc (d : VD) {x : Int} (hx : 0 ≤ x) (h : d.tok x ≠ 0) : d.pc (d.tok x).toNat = [x] ∧ 1 ≤ d.tok x ∧ d.tok x ≤ (d.nb : Int) := by
  unfold VD.tok at *
  rcases d.btk_spec x.toNat (d.nb + 1) with e | ⟨i, hi, e, e2⟩
  · exact absurd e h
  · rw [e2, show ((i : Int) + 1).toNat = i + 1 by omega, d.pc_base hi, e]
    exact ⟨by simp [Int.toNat_of_nonneg hx], by omega, by omega⟩
theorem VD.first_spell (d : VD) {X : Nat → Int} : ∀ (n : Nat), (∀ i, i < n → 0 ≤ X i ∧ X i ≤ 255) → (∀ i, i < n → d.tok (X i) ≠ 0) → d.spell (d.first X n) = (List.range n).map X
  | 0, _, _ => by simp [VD.first, VD.spell]
  | n + 1, h, k => by
    have ih := VD.first_spell d n (fun i hi => h i (by omega)) (fun i hi => k i (by omega))
    simp only [VD.first, VD.spell, List.range_succ, List.map_append, List.flatMap_append, List.map_cons, List.map_nil, List.flatMap_cons, List.flatMap_nil, List.append_nil] at *
    rw [ih, (d.tok_pc (h n (by omega)).1 (k n (by omega))).1]
/-- what Encode gives is told back by Decode -/
theorem VD.enc_dec (d : VD) (hR : d.Right) {X : Nat → Int} {n : Nat} (hX : ∀ i, i < n → 0 ≤ X i ∧ X i ≤ 255) (hk : ∀ i, i < n → d.tok (X i) ≠ 0) :
    d.decOut (fun i => (d.encL (d.first X n) d.np).getD i 0) (d.encL (d.first X n) d.np).length 0 ((List.range n).map X) := by
  refine .inr (.inr ⟨hR, fun i hi => ?_, rfl, ?_⟩)
  · have hm : (d.encL (d.first X n) d.np).getD i 0 ∈ d.encL (d.first X n) d.np := by
      rw [List.getD_eq_getElem?_getD, List.getElem?_eq_getElem hi]; exact List.getElem_mem _
    rcases d.enc_mem _ _ _ hm with e | ⟨j, hj, e⟩
    · obtain ⟨j, hj, e⟩ := List.mem_map.1 e
      have := (d.tok_pc (hX j (List.mem_range.1 hj)).1 (hk j (List.mem_range.1 hj))).2
      dsimp only
      rw [← e]
      exact ⟨by omega, by omega⟩
    · dsimp only
      rw [e]
      exact ⟨by omega, by omega⟩
  · rw [d.dec_spell _ _ (Nat.le_refl _), List.take_length, d.enc_spell hR _ _ (Nat.le_refl _), d.first_spell n hX hk]
end Go.Proofs.Yteiocgciblogdab
