import Derived.Test.YtdceahebkohbjabScRi
namespace Go.Proofs.Ytdceahebkohbjab
open Go.RowKit
/-! The reference's plan and the plan over the sorted seats: who comes next. -/
theorem mkN_skip {c : Me} {L : Nat → Se} {n : Nat} {pk : Int → Bool} {t : Nat} : ∀ u, t ≤ u → (∀ r, t ≤ r → r < u → pk (L r).id = false) → mkN c L n pk u = mkN c L n pk t := by
  intro u
  induction u with
  | zero => intro h _; obtain rfl : t = 0 := by omega
            rfl
  | succ u ih =>
    intro h hk
    by_cases e : t = u + 1
    · rw [e]
    · have h1 := ih (by omega) (fun r h1 h2 => hk r h1 (by omega))
      have h2 := hk u (by omega) (by omega)
      have h3 : ¬ ((mkN c L n pk u).out u = false ∧ pk (L u).id = true) := fun q => by rw [h2] at q; exact absurd q.2 (by simp)
      rw [mkN, if_neg h3]
      split <;> exact h1
theorem mkN_over {c : Me} {L : Nat → Se} {n : Nat} {pk : Int → Bool} {t : Nat} (h0 : (mkN c L n pk t).left = 0) : ∀ u, t ≤ u → mkN c L n pk u = mkN c L n pk t := by
  intro u
  induction u with
  | zero => intro h; obtain rfl : t = 0 := by omega
            rfl
  | succ u ih =>
    intro h
    by_cases e : t = u + 1
    · rw [e]
    · have h1 := ih (by omega)
      rw [mkN, if_pos (by rw [h1]; exact h0), h1]
/-- the next place from t on -/
theorem nx_place {c : Me} {S L : Nat → Se} {n : Nat} {pk : Int → Bool} {id : Int} {fst : Bool} {b : Int} {t : Nat} (hp : PO n S L) (ht : t ≤ n) (hc : ∀ q, q < n → ((fst = true ∨ id < (L q).id) ↔ t ≤ q)) (h : NxR S n id fst pk b) :
    (b = -1 ∧ mkN c L n pk n = mkN c L n pk t) ∨ ∃ i q : Nat, b = (i : Int) ∧ i < n ∧ t ≤ q ∧ q < n ∧ er (L q) = er (S i) ∧ pk (L q).id = true ∧ mkN c L n pk q = mkN c L n pk t := by
  rcases h with ⟨h1, h2⟩ | ⟨i, hi, hb, ⟨k1, k2⟩, k3⟩
  · refine .inl ⟨h1, mkN_skip n ht (fun r h3 h4 => ?_)⟩
    obtain ⟨i, hi, e⟩ := hp.of_mem h4
    rw [Bool.eq_false_iff]
    intro hk
    exact h2 i hi ⟨by rw [← er_id e]; exact hk, by rw [← er_id e]; exact (hc r h4).2 h3⟩
  · obtain ⟨q, hq, e⟩ := hp.to_mem hi
    rw [← er_id e] at k1 k2
    refine .inr ⟨i, q, hb, hi, (hc q hq).1 k2, hq, e, k1, mkN_skip q ((hc q hq).1 k2) (fun r h3 h4 => ?_)⟩
    obtain ⟨j, hj, e2⟩ := hp.of_mem (show r < n by omega)
    rw [Bool.eq_false_iff]
    intro hk
    have h5 := k3 j hj ⟨by rw [← er_id e2]; exact hk, by rw [← er_id e2]; exact (hc r (by omega)).2 h3⟩
    rw [← er_id e, ← er_id e2] at h5
    have := hp.up r q h4 hq
    omega
theorem nx_first {c : Me} {S L : Nat → Se} {n : Nat} {pk : Int → Bool} {b : Int} (hp : PO n S L) (h : NxR S n 0 true pk b) :
    (b = -1 ∧ mkN c L n pk n = mkN c L n pk 0) ∨ ∃ i q : Nat, b = (i : Int) ∧ i < n ∧ 0 ≤ q ∧ q < n ∧ er (L q) = er (S i) ∧ pk (L q).id = true ∧ mkN c L n pk q = mkN c L n pk 0 :=
  nx_place hp (Nat.zero_le _) (fun _ _ => ⟨fun _ => Nat.zero_le _, fun _ => .inl rfl⟩) h
theorem nx_next {c : Me} {S L : Nat → Se} {n : Nat} {pk : Int → Bool} {b : Int} {p : Nat} (hp : PO n S L) (hpn : p < n) (h : NxR S n (L p).id false pk b) :
    (b = -1 ∧ mkN c L n pk n = mkN c L n pk (p + 1)) ∨ ∃ i q : Nat, b = (i : Int) ∧ i < n ∧ p + 1 ≤ q ∧ q < n ∧ er (L q) = er (S i) ∧ pk (L q).id = true ∧ mkN c L n pk q = mkN c L n pk (p + 1) :=
  nx_place hp hpn (fun q hq => ⟨fun k => by
    rcases k with k | k
    · cases k
    · exact hp.lt hpn k, fun k => .inr (hp.up p q (by omega) hq)⟩) h
theorem mkN_step {c : Me} {L : Nat → Se} {n : Nat} {pk : Int → Bool} {q : Nat} (h1 : (mkN c L n pk q).left ≠ 0) (h2 : pk (L q).id = true) : mkN c L n pk (q + 1) = if (mkN c L n pk q).out q = false then lok c L n q (mkN c L n pk q) else mkN c L n pk q := by
  rw [mkN, if_neg h1]
  by_cases e : (mkN c L n pk q).out q = false
  · rw [if_pos ⟨e, h2⟩, if_pos e]
  · rw [if_neg (fun k => e k.1), if_neg e]
theorem cnt_below (t : Nat) : ∀ m, cnt (fun q => decide (q < t)) m = min m t := by
  intro m
  induction m with
  | zero => simp [cnt]
  | succ m ih =>
    unfold cnt
    rw [ih]
    by_cases h : m < t
    · simp [h]; omega
    · simp [h]; omega
/-- a seat's place -/
def plc (S L : Nat → Se) (n : Nat) (b : Int) : Nat := if b < 0 then 0 else n - cnt (fun q => decide ((L q).id < (S b.toNat).id)) n
theorem plc_eq {S L : Nat → Se} {n t j : Nat} (hp : PO n S L) (ht : t < n) (he : er (L t) = er (S j)) : plc S L n (j : Int) = n - t := by
  unfold plc
  rw [if_neg (by omega)]
  have e : cnt (fun q => decide ((L q).id < (S ((j : Int).toNat)).id)) n = cnt (fun q => decide (q < t)) n := cnt_congr (fun q hq => by
    rw [Int.toNat_natCast, ← er_id he]
    by_cases h : q < t
    · have := hp.up q t h ht
      simp [h, this]
    · have : ¬ (L q).id < (L t).id := fun k => h (hp.lt hq k)
      simp [h, this])
  rw [e, cnt_below]
  omega
end Go.Proofs.Ytdceahebkohbjab
