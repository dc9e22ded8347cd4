import Derived.Shelf.SlSortCmp.Insertion
namespace Go.Proofs.Ytlnbbnojkpdccaa
open Go.RowKit Go.Shelf Go.Lib Go.Sort
/-! The order of tokens: by logit and number. -/
def cfH (x y : Int × Int) : Int := if Lib.compareInt y.2 x.2 = 0 then Lib.compareInt x.1 y.1 else Lib.compareInt y.2 x.2
def AheadP (x y : Int × Int) : Prop := y.2 < x.2 ∨ (x.2 = y.2 ∧ x.1 < y.1)
theorem ltH (x y : Int × Int) : (ltOf cfH x y = true) ↔ AheadP x y := by
  unfold ltOf cfH AheadP Lib.compareInt
  rw [decide_eq_true_iff]
  split <;> rename_i h <;> (repeat' split at h) <;> (repeat' split) <;> omega
theorem ltHf (x y : Int × Int) : (ltOf cfH x y = false) ↔ ¬ AheadP x y := by rw [← ltH]; simp
theorem swoH : SWO (ltOf cfH) where
  irrefl x := by rw [ltHf]; unfold AheadP; omega
  trans x y z h1 h2 := by rw [ltH] at *; unfold AheadP at *; omega
  ntrans x y z h1 h2 := by rw [ltHf] at *; unfold AheadP at *; omega
theorem totH (x y : Int × Int) (h1 : ltOf cfH x y = false) (h2 : ltOf cfH y x = false) : x = y := by
  rw [ltHf] at *
  unfold AheadP at *
  obtain ⟨a, b⟩ := x
  obtain ⟨c, d⟩ := y
  simp only [Prod.mk.injEq] at *
  omega
def cand (f : Nat → Int) (n : Nat) : List (Int × Int) := (List.range n).map fun (i : Nat) => ((i : Int), f i)
def leH (x y : Int × Int) : Bool := !ltOf cfH y x
def ordL (f : Nat → Int) (n : Nat) : List (Int × Int) := (cand f n).mergeSort fun x y => !ltOf cfH y x
theorem cand_len (f : Nat → Int) (n : Nat) : (cand f n).length = n := by simp [cand]
theorem ordL_perm (f : Nat → Int) (n : Nat) : (ordL f n).Perm (cand f n) := List.mergeSort_perm _ _
theorem ordL_len (f : Nat → Int) (n : Nat) : (ordL f n).length = n := by rw [(ordL_perm f n).length_eq, cand_len]
theorem cand_mem {f : Nat → Int} {n : Nat} {x : Int × Int} : x ∈ cand f n ↔ ∃ i : Nat, i < n ∧ x = ((i : Int), f i) := by
  unfold cand
  simp only [List.mem_map, List.mem_range]
  exact ⟨fun ⟨i, h, e⟩ => ⟨i, h, e.symm⟩, fun ⟨i, h, e⟩ => ⟨i, h, e.symm⟩⟩
theorem cand_nodup (f : Nat → Int) (n : Nat) : (cand f n).Nodup := by
  unfold cand
  rw [List.nodup_iff_pairwise_ne, List.pairwise_map]
  exact (List.nodup_range (n := n)).imp fun h e => h (by simp only [Prod.mk.injEq] at e; omega)
theorem ordL_mem {f : Nat → Int} {n : Nat} {x : Int × Int} : x ∈ ordL f n ↔ ∃ i : Nat, i < n ∧ x = ((i : Int), f i) := by
  rw [(ordL_perm f n).mem_iff, cand_mem]
theorem ordL_sorted (f : Nat → Int) (n : Nat) : (ordL f n).Pairwise fun x y => AheadP x y := by
  have h1 : (ordL f n).Pairwise fun x y => (!ltOf cfH y x) = true := List.pairwise_mergeSort (fun a b c h1 h2 => by
      simp only [Bool.not_eq_true'] at *
      exact swoH.ntrans _ _ _ h2 h1) (fun a b => by
      cases h : ltOf cfH b a with
      | false => simp
      | true =>
        have := (ltH _ _).1 h
        have : ltOf cfH a b = false := (ltHf _ _).2 (by unfold AheadP at *; omega)
        simp [this]) _
  have h2 : (ordL f n).Pairwise (· ≠ ·) := List.nodup_iff_pairwise_ne.1 ((ordL_perm f n).nodup_iff.2 (cand_nodup f n))
  refine (h1.and h2).imp fun {x y} h => ?_
  obtain ⟨h, hne⟩ := h
  by_cases hl : ltOf cfH x y = true
  · exact (ltH _ _).1 hl
  · exact absurd (totH x y (by simpa using hl) (by simpa using h)) hne
/-- the token at place k -/
def sg (f : Nat → Int) (n k : Nat) : Nat := ((ordL f n).getD k (0, 0)).1.toNat
theorem ordL_get {f : Nat → Int} {n k : Nat} (h : k < n) : (ordL f n)[k]? = some ((sg f n k : Int), f (sg f n k)) ∧ sg f n k < n := by
  have hl : k < (ordL f n).length := by rw [ordL_len]; exact h
  obtain ⟨i, hi, e⟩ := ordL_mem.1 (List.getElem_mem hl)
  have es : sg f n k = i := by
    unfold sg
    rw [List.getD_eq_getElem?_getD, List.getElem?_eq_getElem hl, e]
    simp
  rw [es, List.getElem?_eq_getElem hl, e]
  exact ⟨rfl, hi⟩
theorem sg_lt {f : Nat → Int} {n k : Nat} (h : k < n) : sg f n k < n := (ordL_get h).2
theorem sg_ahead {f : Nat → Int} {n i j : Nat} (hij : i < j) (hj : j < n) : f (sg f n j) < f (sg f n i) ∨ (f (sg f n i) = f (sg f n j) ∧ sg f n i < sg f n j) := by
  have hi : i < n := by omega
  have h := List.pairwise_iff_getElem.1 (ordL_sorted f n) i j (by rw [ordL_len]; exact hi) (by rw [ordL_len]; exact hj) hij
  have e1 := (ordL_get (f := f) hi).1
  have e2 := (ordL_get (f := f) hj).1
  rw [List.getElem?_eq_getElem (by rw [ordL_len]; exact hi)] at e1
  rw [List.getElem?_eq_getElem (by rw [ordL_len]; exact hj)] at e2
  rw [Option.some.injEq] at e1 e2
  rw [e1, e2] at h
  unfold AheadP at h
  simp only at h
  omega
theorem sg_inj {f : Nat → Int} {n i j : Nat} (hi : i < n) (hj : j < n) (e : sg f n i = sg f n j) : i = j := by
  rcases Nat.lt_trichotomy i j with h | h | h
  · have := sg_ahead (f := f) h hj; rw [e] at this; omega
  · exact h
  · have := sg_ahead (f := f) h hi; rw [e] at this; omega
theorem sg_surj {f : Nat → Int} {n m : Nat} (h : m < n) : ∃ k, k < n ∧ sg f n k = m := by
  have hm : ((m : Int), f m) ∈ ordL f n := ordL_mem.2 ⟨m, h, rfl⟩
  obtain ⟨k, hk, e⟩ := List.getElem_of_mem hm
  rw [ordL_len] at hk
  refine ⟨k, hk, ?_⟩
  have e1 := (ordL_get (f := f) hk).1
  rw [List.getElem?_eq_getElem (by rw [ordL_len]; exact hk), e] at e1
  simp only [Option.some.injEq, Prod.mk.injEq] at e1
  omega
theorem ordL_congr {f g : Nat → Int} {n : Nat} (h : ∀ i, i < n → f i = g i) : ordL f n = ordL g n := by
  have : cand f n = cand g n := List.map_congr_left fun i hi => by rw [h i (List.mem_range.1 hi)]
  unfold ordL
  rw [this]
theorem sg_congr {f g : Nat → Int} {n : Nat} (h : ∀ i, i < n → f i = g i) (k : Nat) : sg f n k = sg g n k := by
  unfold sg
  rw [ordL_congr h]
theorem sg_shift {f g : Nat → Int} {n : Nat} {c : Int} (h : ∀ i, i < n → g i = f i + c) {k : Nat} (hk : k < n) : sg g n k = sg f n k := by
  have e : ordL g n = (ordL f n).map fun x => (x.1, x.2 + c) := by
    unfold ordL
    rw [List.map_mergeSort (s := fun x y => !ltOf cfH y x)]
    · congr 1
      unfold cand
      rw [List.map_map]
      exact List.map_congr_left fun i hi => by simp [h i (List.mem_range.1 hi)]
    · intro a _ b _
      have : ltOf cfH b a = ltOf cfH (b.1, b.2 + c) (a.1, a.2 + c) := by
        rw [Bool.eq_iff_iff, ltH, ltH]
        unfold AheadP
        simp only
        omega
      rw [this]
  have e1 := (ordL_get (f := f) hk).1
  unfold sg
  rw [e, List.getD_eq_getElem?_getD, List.getElem?_map, e1, List.getD_eq_getElem?_getD, e1]
  rfl
/-- a vector of two -/
theorem sg_two {f : Nat → Int} (h0 : f 0 = 3) (h1 : f 1 = 5) : sg f 2 0 = 1 ∧ sg f 2 1 = 0 := by
  have a := sg_lt (f := f) (n := 2) (k := 0) (by omega)
  have b := sg_lt (f := f) (n := 2) (k := 1) (by omega)
  have c := sg_ahead (f := f) (n := 2) (i := 0) (j := 1) (by omega) (by omega)
  generalize sg f 2 0 = x at *
  generalize sg f 2 1 = y at *
  have hx : x = 0 ∨ x = 1 := by omega
  have hy : y = 0 ∨ y = 1 := by omega
  rcases hx with rfl | rfl <;> rcases hy with rfl | rfl <;> simp only [h0, h1] at c <;> omega
/-- what is not among the first k stands behind the one before -/
theorem sg_rest {f : Nat → Int} {n k m : Nat} (hm : m < n) (hno : ∀ j, j ≤ k → sg f n j ≠ m) : ¬ (f (sg f n k) < f m ∨ (f m = f (sg f n k) ∧ m < sg f n k)) := by
  obtain ⟨j, hj, e⟩ := sg_surj (f := f) hm
  by_cases h : j ≤ k
  · exact absurd e (hno j h)
  · have := sg_ahead (f := f) (n := n) (i := k) (j := j) (by omega) hj
    rw [e] at this
    omega
end Go.Proofs.Ytlnbbnojkpdccaa
