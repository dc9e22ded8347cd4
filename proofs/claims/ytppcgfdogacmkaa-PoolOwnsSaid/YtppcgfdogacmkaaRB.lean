import Derived.Test.YtppcgfdogacmkaaRA
import Derived.Test.YtppcgfdogacmkaaLPGr
namespace Go.Proofs.Ytppcgfdogacmkaa
open Go.RowKit
/-! Two tables that share: the numbers. -/
/-- the slot of a position -/
def slo (bl : Nat → Nat) (S i : Nat) : Nat := bl (i / S) * S + i % S
structure OwI (B S N LG : Nat) (s : Dy) (V1 V2 : Nat → Int) : Prop where
  m0 : s.m 0 = N
  m1 : s.m 1 = N
  lt0 : ∀ j, j < N → s.bl 0 j < B
  lt1 : ∀ j, j < N → s.bl 1 j < B
  ne0 : ∀ i j, i < j → j < N → s.bl 0 i ≠ s.bl 0 j
  ne1 : ∀ i j, i < j → j < N → s.bl 1 i ≠ s.bl 1 j
  al : ∀ i j, i < N → j < N → s.bl 1 j = s.bl 0 i → i = j
  cnt : ∀ b, b < B → s.cnt b = tms (s.bl 0) b N + tms (s.bl 1) b N
  v1 : ∀ i, i < LG → ∀ j, j < 12 → V1 (i * 12 + j) = s.num (slo (s.bl 0) S i * 12 + j)
  v2 : ∀ i, i < LG → ∀ j, j < 12 → V2 (i * 12 + j) = s.num (slo (s.bl 1) S i * 12 + j)
theorem slo_idx {bl : Nat → Nat} {S i j : Nat} (_hS : 0 < S) : slo bl S i * 12 + j = bl (i / S) * (S * 12) + (i % S * 12 + j) := by
  unfold slo
  rw [Nat.add_mul, Nat.mul_assoc]
  omega
theorem in_blk {S i j : Nat} (hS : 0 < S) (hj : j < 12) : i % S * 12 + j < S * 12 := by
  have := Nat.mod_lt i hS
  omega
/-- blocks of numbers are apart -/
theorem blk_ne {a b n k : Nat} (h : a ≠ b) (hk : k < n) : ¬ (b * n ≤ a * n + k ∧ a * n + k < b * n + n) := by
  rintro ⟨h1, h2⟩
  have e1 := (part_div h1 h2).1
  have e2 := (part_div (q := n) (k := a) (j := a * n + k) (by omega) (by omega)).1
  omega
theorem copied_out {num : Nat → Int} {a b lo n k : Nat} (h : b ≠ lo) (hk : k < n) : copiedB (zeroed num (lo * n) n) (a * n) (lo * n) n (b * n + k) = num (b * n + k) := by
  unfold copiedB zeroed
  have := blk_ne h hk
  rw [if_neg this, if_neg this]
theorem copied_in {num : Nat → Int} {a lo n k : Nat} (h : a ≠ lo) (hk : k < n) : copiedB (zeroed num (lo * n) n) (a * n) (lo * n) n (lo * n + k) = num (a * n + k) := by
  unfold copiedB zeroed
  rw [if_pos (by omega), show lo * n + k - lo * n + a * n = a * n + k by omega, if_neg (blk_ne h hk)]
theorem OwI.two {B S N LG : Nat} {s : Dy} {V1 V2 : Nat → Int} (h : OwI B S N LG s V1 V2) {p : Nat} (hp : p < N) : (s.bl 0 p = s.bl 1 p ∧ s.cnt (s.bl 1 p) = 2) ∨ (s.bl 0 p ≠ s.bl 1 p ∧ s.cnt (s.bl 1 p) = 1 ∧ ∀ i, i < N → s.bl 0 i ≠ s.bl 1 p) := by
  have hc := h.cnt _ (h.lt1 p hp)
  have h1 := tms_one h.ne1 hp
  by_cases e : s.bl 0 p = s.bl 1 p
  · left
    have h0 := tms_one h.ne0 hp
    rw [e] at h0
    exact ⟨e, by omega⟩
  · right
    have hn : ∀ i, i < N → s.bl 0 i ≠ s.bl 1 p := fun i hi k => by
      have := h.al i p hi hp k.symm
      subst this
      exact e k
    have h0 := tms_none hn
    exact ⟨e, by omega, hn⟩
theorem OwI.copy {B S N LG : Nat} {s : Dy} {V1 V2 : Nat → Int} (h : OwI B S N LG s V1 V2) (hS : 0 < S) (hLG : ∀ i, i < LG → i / S < N) {p lo : Nat} {v : Value} (hp : p < N) (hlo : lo < B) (h0 : s.cnt lo = 0) (_hsh : s.bl 0 p = s.bl 1 p) (hc : s.cnt (s.bl 1 p) = 2) :
    OwI B S N LG ⟨updN (updN s.cnt lo 1) (s.bl 1 p) (2 - 1), copiedB (zeroed s.num (lo * (S * 12)) (S * 12)) (s.bl 1 p * (S * 12)) (lo * (S * 12)) (S * 12), updA s.v 1 v, updN s.m 1 (s.m 1), updA s.bl 1 (updN (s.bl 1) p lo)⟩ V1 V2 := by
  have hlc := h.cnt lo hlo
  have n0 : ∀ i, i < N → s.bl 0 i ≠ lo := fun i hi e => by have := tms_pos (n := N) hi e; omega
  have n1 : ∀ i, i < N → s.bl 1 i ≠ lo := fun i hi e => by have := tms_pos (n := N) hi e; omega
  have e0 : updA s.bl 1 (updN (s.bl 1) p lo) 0 = s.bl 0 := updA_ne _ _ (by decide)
  have e1 : updA s.bl 1 (updN (s.bl 1) p lo) 1 = updN (s.bl 1) p lo := updA_at _ _ _
  refine ⟨?_, ?_, ?_, ?_, ?_, ?_, ?_, ?_, ?_, ?_⟩
  · show updN s.m 1 (s.m 1) 0 = N
    rw [updN_ne _ _ (by decide)]; exact h.m0
  · show updN s.m 1 (s.m 1) 1 = N
    rw [updN_at]; exact h.m1
  · show ∀ j, j < N → updA s.bl 1 (updN (s.bl 1) p lo) 0 j < B
    rw [e0]; exact h.lt0
  · show ∀ j, j < N → updA s.bl 1 (updN (s.bl 1) p lo) 1 j < B
    rw [e1]
    intro j hj
    by_cases e : j = p
    · rw [e, updN_at]; exact hlo
    · rw [updN_ne _ _ e]; exact h.lt1 j hj
  · show ∀ i j, i < j → j < N → updA s.bl 1 (updN (s.bl 1) p lo) 0 i ≠ updA s.bl 1 (updN (s.bl 1) p lo) 0 j
    rw [e0]; exact h.ne0
  · show ∀ i j, i < j → j < N → updA s.bl 1 (updN (s.bl 1) p lo) 1 i ≠ updA s.bl 1 (updN (s.bl 1) p lo) 1 j
    rw [e1]
    intro i j hij hj
    by_cases e : i = p
    · rw [e, updN_at, updN_ne _ _ (by omega)]
      exact fun k => n1 j hj k.symm
    · rw [updN_ne _ _ e]
      by_cases e2 : j = p
      · rw [e2, updN_at]; exact n1 i (by omega)
      · rw [updN_ne _ _ e2]; exact h.ne1 i j hij hj
  · show ∀ i j, i < N → j < N → updA s.bl 1 (updN (s.bl 1) p lo) 1 j = updA s.bl 1 (updN (s.bl 1) p lo) 0 i → i = j
    rw [e0, e1]
    intro i j hi hj e
    by_cases k : j = p
    · rw [k, updN_at] at e
      exact absurd e.symm (n0 i hi)
    · rw [updN_ne _ _ k] at e
      exact h.al i j hi hj e
  · show ∀ b, b < B → updN (updN s.cnt lo 1) (s.bl 1 p) (2 - 1) b = tms (updA s.bl 1 (updN (s.bl 1) p lo) 0) b N + tms (updA s.bl 1 (updN (s.bl 1) p lo) 1) b N
    rw [e0, e1]
    intro b hb
    have hu := tms_upd (f := s.bl 1) (b := b) (y := lo) hp
    have hcb := h.cnt b hb
    by_cases k1 : b = s.bl 1 p
    · subst k1
      rw [if_pos rfl, if_neg (fun k => n1 p hp k.symm)] at hu
      rw [updN_at]
      omega
    · rw [if_neg (fun k => k1 k.symm)] at hu
      rw [updN_ne _ _ k1]
      by_cases k2 : b = lo
      · subst k2
        rw [if_pos rfl] at hu
        rw [updN_at]
        omega
      · rw [if_neg (fun k => k2 k.symm)] at hu
        rw [updN_ne _ _ k2]
        omega
  · show ∀ i, i < LG → ∀ j, j < 12 → V1 (i * 12 + j) = copiedB (zeroed s.num (lo * (S * 12)) (S * 12)) (s.bl 1 p * (S * 12)) (lo * (S * 12)) (S * 12) (slo (updA s.bl 1 (updN (s.bl 1) p lo) 0) S i * 12 + j)
    rw [e0]
    intro i hi j hj
    rw [h.v1 i hi j hj, slo_idx hS, copied_out (n0 _ (hLG i hi)) (in_blk hS hj)]
  · show ∀ i, i < LG → ∀ j, j < 12 → V2 (i * 12 + j) = copiedB (zeroed s.num (lo * (S * 12)) (S * 12)) (s.bl 1 p * (S * 12)) (lo * (S * 12)) (S * 12) (slo (updA s.bl 1 (updN (s.bl 1) p lo) 1) S i * 12 + j)
    rw [e1]
    intro i hi j hj
    rw [h.v2 i hi j hj, slo_idx hS, slo_idx hS]
    by_cases k : i / S = p
    · rw [k, updN_at, copied_in (n1 p hp) (in_blk hS hj)]
    · rw [updN_ne _ _ k, copied_out (n1 _ (hLG i hi)) (in_blk hS hj)]
theorem setS_far {num nv : Nat → Int} {a b j : Nat} (h : a ≠ b) (hj : j < 12) : setS num (b * 12) nv (a * 12 + j) = num (a * 12 + j) := setS_out (by omega)
theorem slo_eq {f g : Nat → Nat} {S i k : Nat} (hS : 0 < S) (e : slo f S i = slo g S k) : f (i / S) = g (k / S) ∧ i % S = k % S := by
  unfold slo at e
  have h1 := Nat.mod_lt i hS
  have h2 := Nat.mod_lt k hS
  have e1 := congrArg (· / S) e
  simp only [slot_quo h1, slot_quo h2] at e1
  rw [e1] at e
  exact ⟨e1, by omega⟩
theorem OwI.fill {B S N LG : Nat} {s : Dy} {V1 V2 nv : Nat → Int} (h : OwI B S N LG s V1 V2) (hS : 0 < S) (hLG : ∀ i, i < LG → i / S < N) {pos : Nat} (hp : pos < LG) (hn : ∀ i, i < N → s.bl 0 i ≠ s.bl 1 (pos / S)) :
    OwI B S N LG { s with num := setS s.num (slo (s.bl 1) S pos * 12) nv } V1 (setS V2 (pos * 12) nv) := by
  refine ⟨h.m0, h.m1, h.lt0, h.lt1, h.ne0, h.ne1, h.al, h.cnt, fun i hi j hj => ?_, fun i hi j hj => ?_⟩
  · show V1 (i * 12 + j) = setS s.num (slo (s.bl 1) S pos * 12) nv (slo (s.bl 0) S i * 12 + j)
    rw [setS_far (fun e => hn _ (hLG i hi) (slo_eq hS e).1) hj]
    exact h.v1 i hi j hj
  · show setS V2 (pos * 12) nv (i * 12 + j) = setS s.num (slo (s.bl 1) S pos * 12) nv (slo (s.bl 1) S i * 12 + j)
    by_cases e : i = pos
    · subst e
      rw [setS_in hj, setS_in hj]
    · rw [setS_far e hj, setS_far (fun k => ?_) hj]
      · exact h.v2 i hi j hj
      · obtain ⟨q1, q2⟩ := slo_eq hS k
        have q3 : i / S = pos / S := by
          rcases Nat.lt_trichotomy (i / S) (pos / S) with x | x | x
          · exact absurd q1 (h.ne1 _ _ x (hLG pos hp))
          · exact x
          · exact absurd q1.symm (h.ne1 _ _ x (hLG i hi))
        have q4 := Nat.div_add_mod i S
        have q5 := Nat.div_add_mod pos S
        rw [q3] at q4
        exact e (by omega)
end Go.Proofs.Ytppcgfdogacmkaa
