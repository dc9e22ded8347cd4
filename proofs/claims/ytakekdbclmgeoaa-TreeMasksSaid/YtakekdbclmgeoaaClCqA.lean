import Derived.Test.YtakekdbclmgeoaaClRcAt
import Derived.Test.YtakekdbclmgeoaaClSrP
namespace Go.Proofs.Ytakekdbclmgeoaa.Cl
open Go.RowKit
/-! The two Cleans: the nodes' ways. -/
/-- a node's way -/
def wo (P T : Nat → Int) : Nat → Nat → List Int
  | 0, _ => []
  | f + 1, x => if x = 0 then [] else wo P T f (P x).toNat ++ [T x]
theorem wo_eq {P T : Nat → Int} {n : Nat} (h : ∀ i, 0 < i → i < n → 0 ≤ P i ∧ P i < i) : ∀ x, x < n → ∀ f, x ≤ f → wo P T f x = wo P T x x := by
  intro x
  induction x using Nat.strongRecOn with
  | ind x ih =>
    intro hx f hf
    by_cases h0 : x = 0
    · subst h0
      cases f with
      | zero => rfl
      | succ f => unfold wo; rw [if_pos rfl]
    · obtain ⟨g, rfl⟩ : ∃ g, f = g + 1 := ⟨f - 1, by omega⟩
      obtain ⟨y, rfl⟩ : ∃ y, x = y + 1 := ⟨x - 1, by omega⟩
      have hp := h (y + 1) (by omega) hx
      unfold wo
      rw [if_neg h0, if_neg h0, ih (P (y + 1)).toNat (by omega) (by omega) g (by omega), ih (P (y + 1)).toNat (by omega) (by omega) y (by omega)]
def wyO (s : Ga) (x : Nat) : List Int := wo s.P s.T x x
theorem wyO_zero (s : Ga) : wyO s 0 = [] := rfl
theorem wyO_step {vocab : Int} {s : Ga} {k : Nat} (h : GaOk vocab s k) {x : Nat} (h0 : 0 < x) (hx : x < s.n) : wyO s x = wyO s (s.P x).toNat ++ [s.T x] := by
  have hp := h.par x h0 hx
  unfold wyO
  obtain ⟨y, rfl⟩ : ∃ y, x = y + 1 := ⟨x - 1, by omega⟩
  rw [wo, if_neg (by omega), wo_eq (fun i i0 i1 => ⟨(h.par i i0 i1).1, (h.par i i0 i1).2.1⟩) (s.P (y + 1)).toNat (by omega) y (by omega)]
theorem wo_congr {P T P' T' : Nat → Int} {n : Nat} (h : ∀ i, i < n → P i = P' i ∧ T i = T' i) (hp : ∀ i, 0 < i → i < n → 0 ≤ P i ∧ P i < i) : ∀ f x, x < n → wo P T f x = wo P' T' f x := by
  intro f
  induction f with
  | zero => intro x _; rfl
  | succ f ih =>
    intro x hx
    unfold wo
    by_cases h0 : x = 0
    · rw [if_pos h0, if_pos h0]
    · have := hp x (by omega) hx
      rw [if_neg h0, if_neg h0, ← (h x hx).1, ← (h x hx).2, ih (P x).toNat (by omega)]
/-- later states keep the nodes -/
structure Ext (s s' : Ga) (k : Nat) : Prop where
  n : s.n ≤ s'.n
  P : ∀ i, i < s.n → s'.P i = s.P i
  T : ∀ i, i < s.n → s'.T i = s.T i
  D : ∀ i, i < s.n → s'.D i = s.D i
  A : ∀ j, j ≤ k → s'.A j = s.A j
theorem Ext.refl (s : Ga) (k : Nat) : Ext s s k := ⟨Nat.le_refl _, fun _ _ => rfl, fun _ _ => rfl, fun _ _ => rfl, fun _ _ => rfl⟩
theorem Ext.trans {a b c : Ga} {k k' : Nat} (h : Ext a b k) (q : Ext b c k') (hk : k ≤ k') : Ext a c k :=
  ⟨Nat.le_trans h.n q.n, fun i hi => (q.P i (Nat.lt_of_lt_of_le hi h.n)).trans (h.P i hi), fun i hi => (q.T i (Nat.lt_of_lt_of_le hi h.n)).trans (h.T i hi), fun i hi => (q.D i (Nat.lt_of_lt_of_le hi h.n)).trans (h.D i hi), fun j hj => (q.A j (by omega)).trans (h.A j hj)⟩
theorem ext_out (s : Ga) (k : Nat) (x : Int) : Ext s (gaOut s k x) k := ⟨Nat.le_refl _, fun _ _ => rfl, fun _ _ => rfl, fun _ _ => rfl, fun j hj => ext_ne (by omega)⟩
theorem ext_new (s : Ga) (k : Nat) (up t : Int) : Ext s (gaNew s k up t) k := ⟨Nat.le_succ _, fun _ hi => ext_lt hi, fun _ hi => ext_lt hi, fun _ hi => ext_lt hi, fun j hj => ext_ne (by omega)⟩
theorem ext_next (s : Ga) (k : Nat) (p t v : Int) : Ext s (gaN s k p t v) k := by
  unfold gaN
  split
  · exact ext_out s k _
  · split
    · exact ext_out s k _
    · exact ext_new s k _ _
theorem ext_gaS (root v : Int) (Pr Tr : Nat → Int) : ∀ k j, k ≤ j → Ext (gaS root v Pr Tr k) (gaS root v Pr Tr j) k := by
  intro k j
  induction j with
  | zero => intro h; obtain rfl : k = 0 := by omega
            exact Ext.refl _ _
  | succ j ih =>
    intro h
    by_cases e : k = j + 1
    · subst e; exact Ext.refl _ _
    · exact (ih (by omega)).trans (ext_next _ j _ _ _) (by omega)
theorem wyO_ext {vocab : Int} {s s' : Ga} {k : Nat} (h : GaOk vocab s k) (e : Ext s s' k) {x : Nat} (hx : x < s.n) : wyO s' x = wyO s x :=
  (wo_congr (fun i hi => ⟨(e.P i hi).symm, (e.T i hi).symm⟩) (fun i i0 i1 => ⟨(h.par i i0 i1).1, (h.par i i0 i1).2.1⟩) x x hx).symm
theorem wyO_len {vocab : Int} {s : Ga} {k : Nat} (h : GaOk vocab s k) : ∀ x, x < s.n → ((wyO s x).length : Int) = s.D x := by
  intro x
  induction x using Nat.strongRecOn with
  | ind x ih =>
    intro hx
    by_cases h0 : x = 0
    · subst h0; rw [wyO_zero, h.root.2]; rfl
    · have hp := h.par x (by omega) hx
      rw [wyO_step h (by omega) hx, List.length_append, hp.2.2.1, ← ih (s.P x).toNat (by omega) (by omega)]
      simp
theorem wyO_inj {vocab : Int} {s : Ga} {k : Nat} (h : GaOk vocab s k) (hu : GaU s) : ∀ x y, x < s.n → y < s.n → wyO s x = wyO s y → x = y := by
  intro x
  induction x using Nat.strongRecOn with
  | ind x ih =>
    intro y hx hy e
    have lx := wyO_len h x hx
    have ly := wyO_len h y hy
    by_cases h0 : x = 0
    · subst h0
      by_cases y0 : y = 0
      · exact y0.symm
      · rw [wyO_zero, wyO_step h (by omega) hy] at e
        simp at e
    · by_cases y0 : y = 0
      · subst y0
        rw [wyO_zero, wyO_step h (by omega) hx] at e
        simp at e
      · have px := h.par x (by omega) hx
        have py := h.par y (by omega) hy
        rw [wyO_step h (by omega) hx, wyO_step h (by omega) hy] at e
        obtain ⟨e1, e2⟩ := List.append_inj' e rfl
        have e3 := ih (s.P x).toNat (by omega) (s.P y).toNat (by omega) (by omega) e1
        have e4 : s.T x = s.T y := by simpa using e2
        have e5 : s.P x = s.P y := by omega
        rcases Nat.lt_trichotomy x y with q | q | q
        · exact absurd ⟨e5, e4⟩ (hu x y (by omega) q hy)
        · exact q
        · exact absurd ⟨e5.symm, e4.symm⟩ (hu y x (by omega) q hx)
/-- the node of a raw node's way -/
def Ans (p t : Nat → Int) (v : Int) (s : Ga) (j : Nat) : Prop := (s.A (j + 1) = -1 ∧ wl p t v j = none) ∨ (0 < s.A (j + 1) ∧ s.A (j + 1) < s.n ∧ wl p t v j = some (wyO s (s.A (j + 1)).toNat))
theorem Ans.ext {p t : Nat → Int} {v vocab : Int} {s s' : Ga} {k j : Nat} (h : GaOk vocab s k) (e : Ext s s' k) (hj : j < k) (a : Ans p t v s j) : Ans p t v s' j := by
  have ea := e.A (j + 1) (by omega)
  rcases a with ⟨a1, a2⟩ | ⟨a1, a2, a3⟩
  · exact .inl ⟨by rw [ea]; exact a1, a2⟩
  · refine .inr ⟨by rw [ea]; exact a1, by rw [ea]; have := e.n; omega, ?_⟩
    rw [ea, wyO_ext h e (by omega)]
    exact a3
theorem ans_all (root v : Int) (p t : Nat → Int) : ∀ k, ((gaS root v p t k).A 0 = 0) ∧ ∀ j, j < k → Ans p t v (gaS root v p t k) j := by
  intro k
  induction k with
  | zero => exact ⟨rfl, fun j hj => absurd hj (by omega)⟩
  | succ k ih =>
    obtain ⟨i0, i1⟩ := ih
    have ok := gaS_ok root v p t k
    have ok2 := gaS_ok root v p t (k + 1)
    have ex := ext_gaS root v p t k (k + 1) (by omega)
    refine ⟨by rw [ex.A 0 (by omega)]; exact i0, fun j hj => ?_⟩
    by_cases e : j = k
    · subst e
      show Ans p t v (gaN (gaS root v p t j) j (p j) (t j) v) j
      have ok2' : GaOk v (gaN (gaS root v p t j) j (p j) (t j) v) (j + 1) := ok2
      generalize gaS root v p t j = s at i0 i1 ok ok2' ⊢
      by_cases hg : gdW (p j) (t j) v j
      · have hup : upG s j (p j) (t j) v = s.A (p j + 1).toNat := if_pos ⟨hg.2.2.1, hg.2.2.2, hg.1, hg.2.1⟩
        -- what stands above
        have key : (s.A (p j + 1).toNat = -1 ∧ wl p t v j = none) ∨ (0 ≤ s.A (p j + 1).toNat ∧ s.A (p j + 1).toNat < s.n ∧ wl p t v j = some (wyO s (s.A (p j + 1).toNat).toNat ++ [t j])) := by
          by_cases hp : p j = -1
          · right
            have e0 : (p j + 1).toNat = 0 := by omega
            rw [e0, i0, wl_one hg hp]
            have := ok.one
            exact ⟨by omega, by omega, by rw [Int.toNat_zero, wyO_zero]; rfl⟩
          · have h3 := hg.2.2.1
            have h4 := hg.2.2.2
            have e0 : (p j + 1).toNat = (p j).toNat + 1 := by omega
            rw [e0, wl_up hg hp]
            rcases i1 (p j).toNat (by omega) with ⟨a1, a2⟩ | ⟨a1, a2, a3⟩
            · exact .inl ⟨a1, by rw [a2]; rfl⟩
            · exact .inr ⟨by omega, a2, by rw [a3]; rfl⟩
        rcases key with ⟨k1, k2⟩ | ⟨k1, k2, k3⟩
        · left
          refine ⟨?_, k2⟩
          unfold gaN
          rw [hup, if_pos k1]
          exact ext_at _ _ _
        · right
          have hne : ¬ s.A (p j + 1).toNat = -1 := by omega
          unfold gaN at ok2' ⊢
          rw [hup, if_neg hne] at ok2' ⊢
          cases ef : fndK s.P s.T s.n (s.A (p j + 1).toNat) (t j) with
          | some x =>
            obtain ⟨x1, x2, x3, x4⟩ := fndK_some ef
            show 0 < ext s.A (j + 1) x (j + 1) ∧ ext s.A (j + 1) x (j + 1) < s.n ∧ wl p t v j = some (wyO (gaOut s j x) (ext s.A (j + 1) x (j + 1)).toNat)
            rw [ext_at]
            refine ⟨x1, x2, ?_⟩
            rw [k3, wyO_ext ok (ext_out s j x) (x := x.toNat) (by omega), wyO_step ok (x := x.toNat) (by omega) (by omega), x3, x4]
          | none =>
            simp only [ef] at ok2'
            have hn1 := ok.one
            show 0 < ext s.A (j + 1) s.n (j + 1) ∧ ext s.A (j + 1) s.n (j + 1) < ((s.n + 1 : Nat) : Int) ∧ wl p t v j = some (wyO (gaNew s j (s.A (p j + 1).toNat) (t j)) (ext s.A (j + 1) s.n (j + 1)).toNat)
            rw [ext_at]
            refine ⟨by omega, by omega, ?_⟩
            rw [Int.toNat_natCast, wyO_step ok2' (by omega) (Nat.lt_succ_self _)]
            show _ = some (wyO _ (ext s.P s.n (s.A (p j + 1).toNat) s.n).toNat ++ [ext s.T s.n (t j) s.n])
            rw [ext_at, ext_at, wyO_ext ok (ext_new s j _ _) (by omega), k3]
      · left
        refine ⟨?_, wl_bad hg⟩
        have hup : upG s j (p j) (t j) v = -1 := if_neg (fun q => hg ⟨q.2.2.1, q.2.2.2, q.1, q.2.1⟩)
        unfold gaN
        rw [hup, if_pos rfl]
        exact ext_at _ _ _
    · exact (i1 j (by omega)).ext ok ex (by omega)
end Go.Proofs.Ytakekdbclmgeoaa.Cl
