import Derived.Test.YtakekdbclmgeoabTjB
import Derived.Test.YtakekdbclmgeoabCqI
namespace Go.Proofs.Ytakekdbclmgeoab
open Go.RowKit
/-! A joined list's ways are the ways of the lists. -/
theorem wsOf_mem {R : List (Int × Int)} {v : Int} {L : List Int} : L ∈ wsOf R v ↔ ∃ j, j < R.length ∧ wl (rP R) (rT R) v j = some L := by
  have ok := wsD_ok (rP R) (rT R) v R.length R.length
  constructor
  · exact ok.some_ L
  · rintro ⟨j, hj, e⟩
    exact ok.all j hj L e (by have := (wl_len j L e).2.1; omega)
theorem mvd_at (a : Nat) (R : List (Int × Int)) {j : Nat} (hj : j < R.length) : (mvd a R).getD j (0, 0) = (shf a (R.getD j (0, 0)).1, (R.getD j (0, 0)).2) := by
  unfold mvd
  simp only [List.getD_eq_getElem?_getD, List.getElem?_map, List.getElem?_eq_getElem hj, Option.map_some, Option.getD_some]
theorem jn_at (X : Nat → List (Int × Int)) {i j : Nat} (hj : j < (X i).length) : ∀ m, i < m → (jn X m).getD ((jn X i).length + j) (0, 0) = (shf (jn X i).length ((X i).getD j (0, 0)).1, ((X i).getD j (0, 0)).2) := by
  intro m
  induction m with
  | zero => intro h; omega
  | succ k ih =>
    intro h
    show (jn X k ++ mvd (jn X k).length (X k)).getD _ _ = _
    by_cases e : i = k
    · subst e
      rw [List.getD_eq_getElem?_getD, List.getElem?_append_right (by omega), ← List.getD_eq_getElem?_getD, Nat.add_sub_cancel_left, mvd_at _ _ hj]
    · have h1 := jn_mono X (k - (i + 1)) (i + 1)
      rw [show i + 1 + (k - (i + 1)) = k by omega, jn_len] at h1
      rw [List.getD_eq_getElem?_getD, List.getElem?_append_left (by omega), ← List.getD_eq_getElem?_getD]
      exact ih (by omega)
theorem jn_ix (X : Nat → List (Int × Int)) : ∀ m k, k < (jn X m).length → ∃ i j, i < m ∧ j < (X i).length ∧ k = (jn X i).length + j := by
  intro m
  induction m with
  | zero => intro k h; exact absurd h (Nat.not_lt_zero _)
  | succ m ih =>
    intro k h
    rw [jn_len] at h
    by_cases e : k < (jn X m).length
    · obtain ⟨i, j, h1, h2, h3⟩ := ih k e
      exact ⟨i, j, by omega, h2, h3⟩
    · exact ⟨m, k - (jn X m).length, by omega, by omega, by omega⟩
theorem shf_neg {a : Nat} {p : Int} (h : p < 0) : shf a p = p := if_neg (by omega)
theorem shf_low {a : Nat} {p : Int} (h : 0 ≤ p) (h2 : p + (a : Int) ≤ 9223372036854775807) : shf a p = p + (a : Int) := by
  unfold shf
  rw [if_pos h, IntKind.wrap_i64]
  omega
theorem shf_far {a : Nat} {p : Int} (ha : a ≤ 1048576) (h : p ≤ 9223372036854775807) (h2 : ¬ p + (a : Int) ≤ 9223372036854775807) : shf a p < -1 := by
  unfold shf
  rw [if_pos (by omega), IntKind.wrap_i64]
  omega
theorem shf_gd {a : Nat} {p t v : Int} {j : Nat} (ha : a + j ≤ 1048576) (h : p ≤ 9223372036854775807) : gdW (shf a p) t v (a + j) ↔ gdW p t v j := by
  unfold gdW
  by_cases h0 : p < 0
  · rw [shf_neg h0]; omega
  · by_cases h1 : p + (a : Int) ≤ 9223372036854775807
    · rw [shf_low (by omega) h1]; omega
    · have := shf_far (by omega) h h1
      omega
theorem jn_wl {X : Nat → List (Int × Int)} {v : Int} {m i : Nat} (hi : i < m) (ht : (jn X m).length ≤ 1048576) (hp : ∀ j, j < (X i).length → ((X i).getD j (0, 0)).1 ≤ 9223372036854775807) : ∀ j, j < (X i).length → wl (rP (jn X m)) (rT (jn X m)) v ((jn X i).length + j) = wl (rP (X i)) (rT (X i)) v j := by
  intro j
  have h1 := jn_mono X (m - (i + 1)) (i + 1)
  rw [show i + 1 + (m - (i + 1)) = m by omega, jn_len] at h1
  induction j using Nat.strongRecOn with
  | ind j ih =>
    intro hj
    have e := jn_at X hj m hi
    have eP : rP (jn X m) ((jn X i).length + j) = shf (jn X i).length (rP (X i) j) := by show ((jn X m).getD _ _).1 = _; rw [e]; rfl
    have eT : rT (jn X m) ((jn X i).length + j) = rT (X i) j := by show ((jn X m).getD _ _).2 = _; rw [e]; rfl
    have hpj : rP (X i) j ≤ 9223372036854775807 := hp j hj
    have hg := shf_gd (a := (jn X i).length) (p := rP (X i) j) (t := rT (X i) j) (v := v) (j := j) (by omega) hpj
    by_cases g : gdW (rP (X i) j) (rT (X i) j) v j
    · have g2 := hg.2 g
      rw [← eP, ← eT] at g2
      have g3 := g.2.2.1
      have g4 := g.2.2.2
      by_cases h0 : rP (X i) j = -1
      · rw [wl_one g h0, wl_one g2 (by rw [eP, h0]; rfl), eT]
      · have e2 : shf (jn X i).length (rP (X i) j) = rP (X i) j + ((jn X i).length : Int) := shf_low (by omega) (by omega)
        rw [wl_up g h0, wl_up g2 (by rw [eP, e2]; omega), eP, e2, eT, ← ih (rP (X i) j).toNat (by omega) (by omega)]
        rw [show (rP (X i) j + ((jn X i).length : Int)).toNat = (jn X i).length + (rP (X i) j).toNat by omega]
    · rw [wl_bad g, wl_bad (by rw [eP, eT]; exact fun q => g (hg.1 q))]
/-- the ways of what is joined -/
theorem jn_ws {X : Nat → List (Int × Int)} {v : Int} {m : Nat} (ht : (jn X m).length ≤ 1048576) (hp : ∀ i, i < m → ∀ j, j < (X i).length → ((X i).getD j (0, 0)).1 ≤ 9223372036854775807) (L : List Int) : L ∈ wsOf (jn X m) v ↔ ∃ i, i < m ∧ L ∈ wsOf (X i) v := by
  rw [wsOf_mem]
  constructor
  · rintro ⟨k, hk, e⟩
    obtain ⟨i, j, h1, h2, rfl⟩ := jn_ix X m k hk
    rw [jn_wl h1 ht (hp i h1) j h2] at e
    exact ⟨i, h1, wsOf_mem.2 ⟨j, h2, e⟩⟩
  · rintro ⟨i, hi, h⟩
    obtain ⟨j, hj, e⟩ := wsOf_mem.1 h
    refine ⟨(jn X i).length + j, ?_, by rw [jn_wl hi ht (hp i hi) j hj]; exact e⟩
    have h1 := jn_mono X (m - (i + 1)) (i + 1)
    rw [show i + 1 + (m - (i + 1)) = m by omega, jn_len] at h1
    omega
/-- the ways of a tree of fewer than 32 nodes: all -/
theorem few_ws {WS : List (List Int)} {m : Nat} (hm : m = min 32 (WS.length + 1)) (h : m < 32) : WS.length = m - 1 := by omega
end Go.Proofs.Ytakekdbclmgeoab
