import Derived.Test.YteiocgciblogdabVBkN
import Derived.Laws.OwnMore
namespace Go.Proofs.Yteiocgciblogdab
open Go.RowKit
/-! The book's apart: what it writes. -/
theorem Own.write {w : World} {base : Nat} {e : TypeId} {g n cap : Nat} {cs : Nat → Value} (h : Own w base e 1 (.slice (some ⟨g, 0, none⟩) n cap) n cs) (j : Nat) (x : Value) (cs' : Nat → Value) (hx : ∀ q, q < n → cs' q = if q = j then x else cs q) : Own (w.setCell ⟨g, j, none⟩ x) base e 1 (.slice (some ⟨g, 0, none⟩) n cap) n cs' := by
  have h2 := World.ownsRow.stored h j x
  unfold Own
  have e1 : (List.range (n * 1)).map cs' = ((List.range (n * 1)).map cs).set j x := by
    apply List.ext_getElem?
    intro q
    rw [List.getElem?_set]
    by_cases hq : q < n
    · by_cases hqj : j = q
      · subst hqj
        simp [hq, hx j hq]
      · simp [hq, hqj, hx q hq, show ¬ q = j from fun e => hqj e.symm]
    · simp [show n ≤ q by omega]
      omega
  rw [e1]
  exact h2.1
theorem Own.froz {w : World} {base : Nat} {e : TypeId} {g n cap : Nat} {cs : Nat → Value} (h : Own w base e 1 (.slice (some ⟨g, 0, none⟩) n cap) n cs) : ∀ j, w.frozen? ⟨g, j, none⟩ = false := fun j => World.ownsRow.frozenAt h j
/-- a list is written at a place; another one, in another block, is not -/
theorem Own.other {w : World} {base : Nat} {e : TypeId} {sz : Nat} {v : Value} {n : Nat} {cs : Nat → Value} (h : Own w base e sz v n cs) {g j : Nat} {x : Value} (hg : v.ownBlock ≠ some g) : Own (w.setCell ⟨g, j, none⟩ x) base e sz v n cs := by
  refine ⟨h.1, ?_⟩
  rcases h.2 with hn | ⟨k, cap, cur, rfl, hb, hgg, rest⟩
  · exact .inl hn
  · refine .inr ⟨k, cap, cur, rfl, hb, ?_, rest⟩
    have hk : k ≠ g := fun e => hg (by simp [Value.ownBlock, e])
    rw [Below.heap_setCell _ _ _ _ hk]; exact hgg
structure PenR (w : World) (base g m : Nat) (vL vZ : Value) (A : Nat → Value) (n : Nat → Nat) (V : Nat → Nat → Int) : Prop where
  row : w.rowIs g 40 3 (three vL (.slice none 0 0) vZ)
  low : g < base
  L : Own w base 22 1 vL m A
  a : ∀ i, i < m → Own w base 5 1 (A i) (n i) (fun q => .int .u8 (V i q))
  offL : ∀ i, i < m → Off vL (A i)
  apart : ∀ i j, i < m → j < m → i ≠ j → Off (A i) (A j)
theorem PenR.start {w : World} {base g m k : Nat} {vL vZ : Value} {A Z : Nat → Value} {l : Nat → List Int} (h : BookR w base g m k vL vZ A Z l) : PenR w base g m vL vZ A (fun i => (l i).length) (fun i q => (l i).getD q 0) :=
  ⟨h.row, h.low, h.L, h.a, h.offL, h.apart⟩
/-- one number written -/
theorem PenR.pen {w : World} {base g m : Nat} {vL vZ : Value} {A : Nat → Value} {n : Nat → Nat} {V V' : Nat → Nat → Int} (h : PenR w base g m vL vZ A n V) {i gA cA q : Nat} (hi : i < m) (eA : A i = .slice (some ⟨gA, 0, none⟩) (n i) cA) (x : Int)
    (h1 : ∀ j, j < m → j ≠ i → V' j = V j) (h2 : ∀ r, r < n i → V' i r = if r = q then x else V i r) : PenR (w.setCell ⟨gA, q, none⟩ (.int .u8 x)) base g m vL vZ A n V' := by
  have hoA := h.a i hi
  have hb : (A i).ownBlock = some gA := by rw [eA]; rfl
  have hge := (hoA.lt gA hb).1
  refine ⟨h.row.setOther (a := ⟨gA, q, none⟩) (by dsimp only; have := h.low; omega) _, h.low, h.L.other (fun e => h.offL i hi gA e hb), fun j hj => ?_, h.offL, h.apart⟩
  by_cases e : j = i
  · subst e
    rw [eA] at hoA ⊢
    refine hoA.write q (.int .u8 x) _ (fun r hr => ?_)
    rw [h2 r hr]
    by_cases hrq : r = q <;> simp [hrq]
  · rw [h1 j hj e]
    exact (h.a j hj).other (fun e2 => h.apart j i hj hi e gA e2 hb)
end Go.Proofs.Yteiocgciblogdab
