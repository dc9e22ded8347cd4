import Derived.Test.YtemmghneohnigaaDoorWuD
namespace Go.Proofs.YtemmghneohnigaaDoor
open Go.RowKit
/-! byteOf, as the walk of Unquote wants it. -/
theorem hvD_bd {c d : Int} (h : hvD c = some d) : 0 ≤ d ∧ d < 16 := by
  unfold hvD at h
  split at h
  · simp only [Option.some.injEq] at h; omega
  · split at h
    · simp only [Option.some.injEq] at h; omega
    · cases h
theorem p16_bd {x y v : Int} (h : p16 x y = some v) : 0 ≤ v ∧ v ≤ 255 := by
  unfold p16 at h
  split at h
  · cases h
  · rename_i a ha
    split at h
    · cases h
    · rename_i b hb
      have h1 := hvD_bd ha
      have h2 := hvD_bd hb
      simp only [Option.some.injEq] at h
      omega
theorem p16_hx {c : Int} (h : 0 ≤ c ∧ c ≤ 255) : p16 (hxD (c / 16)) (hxD (c % 16)) = some c := by
  unfold p16
  rw [hvD_hx (by omega) (by omega)]
  simp only [hvD_hx (q := c % 16) (by omega) (by omega)]
  congr 1
  omega
theorem byteOf_yes {ch : List Int} {x c : Int} (hp : Part ch) (hB : Byt (ch ++ [x])) (hc : 0 ≤ c ∧ c ≤ 255) (e : ch ++ [x] = pie c) (w : World) :
    Calls Tryd.prog 26 #[.string (strOfNums (ch ++ [x]))] w fun e w' => e = .returned (.tuple #[.int .u8 c, .bool true]) ∧ Below w.heap.size w w' := by
  have hx := hB x (by simp)
  obtain ⟨X, rfl⟩ := Int.eq_ofNat_of_zero_le hx.1
  rcases pie_cases c with ⟨q, k⟩ | ⟨q, k1, k2, k3⟩ | ⟨q, k1, k2⟩
  · rw [q] at e
    cases hp with
    | nil => simp at e
    | one =>
      simp at e
      subst e
      have := byteOf_two (X := X) (by omega) (by omega) w
      rw [q] at this
      simpa using this
    | two => simp at e
    | three y => simp at e
  · rw [q] at e
    cases hp with
    | nil =>
      simp at e
      subst e
      have := byteOf_one (X := X) (by omega) w
      rw [q] at this
      simpa using this
    | one => simp at e
    | two => simp at e
    | three y => simp at e
  · rw [q] at e
    cases hp with
    | nil => simp at e
    | one => simp at e
    | two => simp at e
    | three y =>
      simp at e
      obtain ⟨e1, e2⟩ := e
      have := byteOf_hex (x := y) (y := X) (v := c) (hB y (by simp)) hx (by rw [e1, e2]; exact p16_hx hc) hc w
      rw [q, e1, e2] at this
      rw [e1, e2]
      simpa using this
theorem byteOf_nope {ch : List Int} {x : Int} (hp : Part ch) (hB : Byt (ch ++ [x])) (hl : plen (ch ++ [x]) ≤ (ch ++ [x]).length) (hn : ∀ c, 0 ≤ c ∧ c ≤ 255 → ch ++ [x] ≠ pie c) {w : World} (hE : Errs w) :
    Calls Tryd.prog 26 #[.string (strOfNums (ch ++ [x]))] w fun e w' => ∃ c, e = .returned (.tuple #[.int .u8 c, .bool false]) ∧ Below w.heap.size w w' := by
  have hx := hB x (by simp)
  obtain ⟨X, rfl⟩ := Int.eq_ofNat_of_zero_le hx.1
  cases hp with
  | nil =>
    have hne : ¬ pie X = [(X : Int)] := fun h => hn X (by omega) h.symm
    refine (byteOf_one (X := X) (by omega) w).mono ?_
    rintro e w' ⟨rfl, hf⟩
    exact ⟨X, by simp [hne], hf⟩
  | one =>
    have hne : ¬ pie X = [92, (X : Int)] := fun h => hn X (by omega) h.symm
    have h120 : X ≠ 120 := fun h => by subst h; simp [plen] at hl
    refine (byteOf_two (X := X) (by omega) h120 w).mono ?_
    rintro e w' ⟨rfl, hf⟩
    exact ⟨X, by simp [hne], hf⟩
  | two => simp [plen, List.cons_prefix_cons] at hl
  | three y =>
    cases h : p16 y X with
    | none => exact (byteOf_no (hB y (by simp)) hx h hE).mono (by rintro e w' ⟨rfl, hf⟩; exact ⟨_, rfl, hf⟩)
    | some v =>
      have hv := p16_bd h
      have hne : ¬ pie v = [92, 120, y, (X : Int)] := fun e => hn v hv e.symm
      refine (byteOf_hex (hB y (by simp)) hx h hv w).mono ?_
      rintro e w' ⟨rfl, hf⟩
      exact ⟨v, by simp [hne], hf⟩
theorem part_next {ch : List Int} {x : Int} (hp : Part ch) (h : ¬ plen (ch ++ [x]) ≤ (ch ++ [x]).length) : Part (ch ++ [x]) := by
  cases hp with
  | nil =>
    by_cases e : x = 92
    · subst e; exact .one
    · exfalso; apply h; simp [plen, List.cons_prefix_cons, Ne.symm e]
  | one =>
    by_cases e : x = 120
    · subst e; exact .two
    · exfalso; apply h; simp [plen, List.cons_prefix_cons, Ne.symm e]
  | two => exact .three x
  | three y => exfalso; apply h; simp [plen, List.cons_prefix_cons]
theorem plen_bd (p : List Int) : 1 ≤ plen p ∧ plen p ≤ 4 := by
  unfold plen
  split
  · omega
  · split <;> omega
end Go.Proofs.YtemmghneohnigaaDoor
