import Derived.Test.YteiocgciblogdaaVRJn
import Derived.Test.YteiocgciblogdaaVSpl
namespace Go.Proofs.Yteiocgciblogdaa
open Go.RowKit
/-! A vocabulary without its last pairs. -/
def VD.cut (d : VD) (k : Nat) : VD := { d with np := k }
theorem VD.cut_pc (d : VD) (k : Nat) : ∀ (n t : Nat), t < n → (d.cut k).pc t = d.pc t
  | 0, _, h => absurd h (by omega)
  | n + 1, t, h => by
    rw [VD.pc, VD.pc.eq_def d t]
    by_cases h0 : t = 0
    · rw [if_pos h0, if_pos h0]
    · rw [if_neg h0, if_neg h0]
      by_cases h1 : t ≤ d.nb
      · rw [if_pos (show t ≤ (d.cut k).nb from h1), if_pos h1]; rfl
      · rw [if_neg (show ¬ t ≤ (d.cut k).nb from h1), if_neg h1]
        by_cases h2 : (d.P (t - d.nb - 1)).toNat < t ∧ (d.Q (t - d.nb - 1)).toNat < t
        · rw [dif_pos (show ((d.cut k).P (t - (d.cut k).nb - 1)).toNat < t ∧ ((d.cut k).Q (t - (d.cut k).nb - 1)).toNat < t from h2), dif_pos h2]
          have e1 := VD.cut_pc d k n (d.P (t - d.nb - 1)).toNat (by omega)
          have e2 := VD.cut_pc d k n (d.Q (t - d.nb - 1)).toNat (by omega)
          exact congr (congrArg _ e1) e2
        · rw [dif_neg (show ¬ (((d.cut k).P (t - (d.cut k).nb - 1)).toNat < t ∧ ((d.cut k).Q (t - (d.cut k).nb - 1)).toNat < t) from h2), dif_neg h2]
theorem VD.cut_right {d : VD} (hR : d.Right) {k : Nat} (hk : k ≤ d.np) : (d.cut k).Right := by
  obtain ⟨z1, z2, z3⟩ := hR.cnt
  refine ⟨⟨z1, z2, ?_⟩, fun i hi => hR.base i hi, fun j hj => hR.pair j (Nat.lt_of_lt_of_le hj hk), fun j hj => hR.ok j (Nat.lt_of_lt_of_le hj hk), fun j hj => ?_⟩
  · show k + d.nb ≤ 63
    omega
  · have e : ((d.cut k).pc ((d.cut k).nb + 1 + j)) = d.pc (d.nb + 1 + j) := d.cut_pc k (d.nb + 1 + j + 1) (d.nb + 1 + j) (by omega)
    show (((d.cut k).pc ((d.cut k).nb + 1 + j))).length ≤ 16
    rw [e]
    exact hR.len j (Nat.lt_of_lt_of_le hj hk)
theorem VD.cut_enc (d : VD) (k : Nat) (l : List Int) : ∀ j, (d.cut k).encL l j = d.encL l j
  | 0 => rfl
  | j + 1 => by
    rw [VD.encL, VD.encL, VD.cut_enc d k l j]; rfl
theorem VD.cut_btk (d : VD) (k : Nat) (b : Nat) : ∀ j, (d.cut k).btk j b = d.btk j b
  | 0 => rfl
  | j + 1 => by
    rw [VD.btk, VD.btk, VD.cut_btk d k b j]; rfl
theorem VD.cut_tok (d : VD) (k : Nat) (x : Int) : (d.cut k).tok x = d.tok x := d.cut_btk k _ _
theorem VD.cut_first (d : VD) (k : Nat) (X : Nat → Int) (n : Nat) : (d.cut k).first X n = d.first X n := by
  unfold VD.first
  exact List.map_congr_left fun i _ => d.cut_tok k (X i)
theorem VD.cut_out {d : VD} (hR : d.Right) {X : Nat → Int} {n : Nat} (hk : ∀ i, i < n → d.tok (X i) ≠ 0) {k : Nat} (h : k ≤ d.np) : (d.cut k).encOut X n 0 (d.encL (d.first X n) k) :=
  .inr (.inr ⟨VD.cut_right hR h, fun i hi => by rw [d.cut_tok]; exact hk i hi, rfl, by rw [d.cut_first, d.cut_enc]; rfl⟩)
theorem VD.encL_mono (d : VD) (l : List Int) {k : Nat} : ∀ m, (d.encL l (k + m)).length ≤ (d.encL l k).length
  | 0 => Nat.le_refl _
  | m + 1 => Nat.le_trans (joinL_len _ _ _ _) (VD.encL_mono d l m)
theorem VD.encL_down (d : VD) (l : List Int) {k : Nat} (h : k ≤ d.np) : (d.encL l d.np).length ≤ (d.encL l k).length := by
  have := d.encL_mono l (k := k) (d.np - k)
  rwa [show k + (d.np - k) = d.np by omega] at this
theorem VD.enc_noEnd {d : VD} {X : Nat → Int} {n : Nat} (hk : ∀ i, i < n → d.tok (X i) ≠ 0) (k : Nat) : ∀ i, i < (d.encL (d.first X n) k).length → (d.encL (d.first X n) k).getD i 0 ≠ 0 := by
  intro i hi e
  have hm : (0 : Int) ∈ d.encL (d.first X n) k := by
    rw [← e, List.getD_eq_getElem?_getD, List.getElem?_eq_getElem hi]
    exact List.getElem_mem hi
  rcases d.enc_mem _ k 0 hm with h | ⟨j, _, h⟩
  · obtain ⟨i, hi, e⟩ := List.mem_map.1 h
    exact hk i (by simpa using hi) e
  · omega
theorem RdA.upto {w : World} {ao : Option Addr} {sz n cap k : Nat} {cs : Nat → Value} (h : RdA w ao sz n cap cs) (hk : k ≤ n) : RdA w ao sz k cap cs := by
  refine ⟨Nat.le_trans hk h.le, h.top, fun h0 => ?_⟩
  obtain ⟨b, off, e, hc⟩ := h.at_ (by omega)
  exact ⟨b, off, e, fun j hj => hc j (Nat.lt_of_lt_of_le hj (Nat.mul_le_mul_right _ hk))⟩
end Go.Proofs.Yteiocgciblogdaa
