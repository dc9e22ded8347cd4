import Derived.Test.YtknfddakpfkcfabDoorJdA
import Derived.Test.YtknfddakpfkcfabDoorTrCj
import Derived.Deep.LoopGhost
namespace Go.Proofs.YtknfddakpfkcfabDoor
open Go.RowKit
/-! The judged way; goDown, child. -/
def Kd (n : Nat) (P T : Nat → Int) (a : Nat) (t : Int) (i : Nat) : Prop := i < n ∧ P i = (a : Int) ∧ T i = t
theorem Kd.pos {n : Nat} {P T D : Nat → Int} (h : okT n P T D) {a : Nat} {t : Int} {i : Nat} (k : Kd n P T a t i) : 1 ≤ i := by
  rcases Nat.eq_zero_or_pos i with e | e
  · subst e
    have h1 := h.2.2.1
    have h2 := k.2.1
    omega
  · exact e
theorem Kd.gt {n : Nat} {P T D : Nat → Int} (h : okT n P T D) {a : Nat} {t : Int} {i : Nat} (k : Kd n P T a t i) : a < i := by
  have h1 := (h.2.2.2.2 i (k.pos h) k.1).2.1
  have h2 := k.2.1
  omega
theorem Kd.uniq {n : Nat} {P T D : Nat → Int} (h : okT n P T D) {a : Nat} {t : Int} {i j : Nat} (k : Kd n P T a t i) (l : Kd n P T a t j) : i = j := by
  have hi := k.pos h
  have hj := l.pos h
  rcases Nat.lt_trichotomy i j with q | q | q
  · exact absurd ⟨k.2.1.trans l.2.1.symm, k.2.2.trans l.2.2.symm⟩ ((h.2.2.2.2 j hj l.1).2.2.2.2.2 i hi q)
  · exact q
  · exact absurd ⟨l.2.1.trans k.2.1.symm, l.2.2.trans k.2.2.symm⟩ ((h.2.2.2.2 i hi k.1).2.2.2.2.2 j hj q)
/-- depths: each is at most the place's number, and they never fall -/
theorem okT.deep {n : Nat} {P T D : Nat → Int} (h : okT n P T D) : ∀ i, i < n → 0 ≤ D i ∧ D i ≤ (i : Int) := by
  intro i
  induction i using Nat.strongRecOn with
  | ind i ih =>
    intro hi
    rcases Nat.eq_zero_or_pos i with e | e
    · subst e
      have := h.2.2.2.1
      omega
    · have k := h.2.2.2.2 i e hi
      have hp := k.2.1
      have h0 := k.1
      have q := ih (P i).toNat (by omega) (by omega)
      have hd := k.2.2.2.1
      have h32 := h.2.1
      rw [hd]
      have : IntKind.i64.wrap (D (P i).toNat + 1) = D (P i).toNat + 1 := by
        have e1 : (P i).toNat < 32 := by omega
        unfold IntKind.wrap IntKind.bits IntKind.signed
        simp
        omega
      omega
theorem okT.kid {n : Nat} {P T D : Nat → Int} (h : okT n P T D) {a : Nat} {t : Int} {i : Nat} (k : Kd n P T a t i) : D i = D a + 1 := by
  have hi := k.pos h
  have q := h.2.2.2.2 i hi k.1
  have hd := q.2.2.2.1
  have e : (P i).toNat = a := by have := k.2.1; omega
  rw [e] at hd
  have g := k.gt h
  have dd := h.deep a (by have := k.1; omega)
  have h32 := h.2.1
  have k1 := k.1
  rw [hd]
  unfold IntKind.wrap IntKind.bits IntKind.signed
  simp
  omega
theorem okT.mono {n : Nat} {P T D : Nat → Int} (h : okT n P T D) {i j : Nat} (hij : i ≤ j) (hj : j < n) : D i ≤ D j := by
  induction j with
  | zero => obtain rfl : i = 0 := by omega
            exact Int.le_refl _
  | succ j ih =>
    by_cases e : i = j + 1
    · rw [e]; exact Int.le_refl _
    · have := ih (by omega) (by omega)
      have q := (h.2.2.2.2 (j + 1) (by omega) hj).2.2.2.2.1
      simp at q
      omega
open Classical in
noncomputable def nx (n : Nat) (P T C : Nat → Int) (a : Nat) : Nat := if h : ∃ i, Kd n P T a (C a) i then Classical.choose h else n
theorem nx_of {n : Nat} {P T D C : Nat → Int} (h : okT n P T D) {a i : Nat} (k : Kd n P T a (C a) i) : nx n P T C a = i := by
  have he : ∃ i, Kd n P T a (C a) i := ⟨i, k⟩
  unfold nx
  rw [dif_pos he]
  exact (Classical.choose_spec he).uniq h k
theorem nx_none {n : Nat} {P T C : Nat → Int} {a : Nat} (h : ∀ i, i < n → ¬ (P i = (a : Int) ∧ T i = C a)) : nx n P T C a = n := by
  unfold nx
  rw [dif_neg]
  rintro ⟨i, k⟩
  exact h i k.1 k.2
noncomputable def wyF (n : Nat) (P T C : Nat → Int) : Nat → Nat
  | 0 => 0
  | k + 1 => nx n P T C (wyF n P T C k)
/-- m nodes are on the way -/
structure WyE (n : Nat) (P T C : Nat → Int) (m : Nat) : Prop where
  pos : 1 ≤ m
  lt : ∀ j, j < m → wyF n P T C j < n
  ends : wyF n P T C m = n
  mono : ∀ j, j + 1 < m → wyF n P T C j < wyF n P T C (j + 1)
theorem WyE.uniq {n : Nat} {P T C : Nat → Int} {m l : Nat} (h : WyE n P T C m) (k : WyE n P T C l) : m = l := by
  rcases Nat.lt_trichotomy m l with q | q | q
  · have := k.lt m q; have := h.ends; omega
  · exact q
  · have := h.lt l q; have := k.ends; omega
/-- m nodes so far -/
structure WyP (n : Nat) (P T C : Nat → Int) (m : Nat) : Prop where
  pos : 1 ≤ m
  lt : ∀ j, j < m → wyF n P T C j < n
  mono : ∀ j, j + 1 < m → wyF n P T C j < wyF n P T C (j + 1)
theorem WyP.start {n : Nat} {P T C : Nat → Int} (h : 1 ≤ n) : WyP n P T C 1 := by
  refine ⟨Nat.le_refl _, fun j hj => ?_, fun j hj => absurd hj (by omega)⟩
  obtain rfl : j = 0 := by omega
  exact h
theorem WyP.le {n : Nat} {P T C : Nat → Int} {m : Nat} (h : WyP n P T C m) : ∀ j, j < m → j ≤ wyF n P T C j := by
  intro j
  induction j with
  | zero => intro _; exact Nat.zero_le _
  | succ j ih => intro hj; have := ih (by omega); have := h.mono j hj; omega
theorem WyP.len {n : Nat} {P T C : Nat → Int} {m : Nat} (h : WyP n P T C m) : m ≤ n := by
  have h1 := h.le (m - 1) (by have := h.pos; omega)
  have h2 := h.lt (m - 1) (by have := h.pos; omega)
  omega
theorem WyP.next {n : Nat} {P T D C : Nat → Int} (ht : okT n P T D) {m a i : Nat} (h : WyP n P T C m) (ha : a = wyF n P T C (m - 1)) (k : Kd n P T a (C a) i) : WyP n P T C (m + 1) ∧ wyF n P T C m = i := by
  have hp := h.pos
  have e : wyF n P T C m = i := by
    obtain ⟨q, rfl⟩ : ∃ q, m = q + 1 := ⟨m - 1, by omega⟩
    simp only [Nat.add_sub_cancel] at ha
    show nx n P T C (wyF n P T C q) = i
    rw [← ha]
    exact nx_of ht k
  refine ⟨⟨by omega, fun j hj => ?_, fun j hj => ?_⟩, e⟩
  · by_cases q : j = m
    · rw [q, e]; exact k.1
    · exact h.lt j (by omega)
  · by_cases q : j + 1 = m
    · rw [q, e]
      have : a < i := k.gt ht
      rw [show j = m - 1 by omega, ← ha]
      exact this
    · exact h.mono j (by omega)
theorem WyP.ends {n : Nat} {P T C : Nat → Int} {m a : Nat} (h : WyP n P T C m) (ha : a = wyF n P T C (m - 1)) (k : ∀ i, i < n → ¬ (P i = (a : Int) ∧ T i = C a)) : WyE n P T C m := by
  have hp := h.pos
  refine ⟨h.pos, h.lt, ?_, h.mono⟩
  obtain ⟨q, rfl⟩ : ∃ q, m = q + 1 := ⟨m - 1, by omega⟩
  simp only [Nat.add_sub_cancel] at ha
  show nx n P T C (wyF n P T C q) = n
  rw [← ha]
  exact nx_none k
theorem WyE.p {n : Nat} {P T C : Nat → Int} {m : Nat} (h : WyE n P T C m) : WyP n P T C m := ⟨h.pos, h.lt, h.mono⟩
noncomputable def wyC (n : Nat) (P T C : Nat → Int) : Nat → Value := fun j => .int .i64 ((wyF n P T C j : Nat) : Int)
theorem own_one {w : World} (x : Value) (t : TypeId) (f : Nat → Value) (h : f 0 = x) : Own (w.alloc (.cells #[x] t)) w.heap.size t 1 (.slice (some ⟨w.heap.size, 0, none⟩) 1 1) 1 f := by
  refine ⟨by simp, .inr ⟨w.heap.size, 1, #[x], rfl, Nat.le_refl _, ?_, Nat.le_refl _, by simp [maxLen], by simp, ?_⟩⟩
  · exact Go.Deep.blk_alloc_new _ _
  · simp [h]
end Go.Proofs.YtknfddakpfkcfabDoor
