import Derived.Test.YtaalinlggjimcaaMX
namespace Go.Proofs.Ytaalinlggjimcaa
open Go.RowKit
/-! PrefixFinds: texts that begin alike. -/
structure Com (a b : Nat → Int) (n m k : Nat) : Prop where
  le1 : k ≤ n
  le2 : k ≤ m
  eq : ∀ j, j < k → a j = b j
  st : k < n → k < m → a k ≠ b k
theorem Com.ge {a b : Nat → Int} {n m k : Nat} (h : Com a b n m k) (q : Nat) : q ≤ k ↔ q ≤ n ∧ q ≤ m ∧ ∀ j, j < q → a j = b j := by
  refine ⟨fun e => ⟨Nat.le_trans e h.le1, Nat.le_trans e h.le2, fun j hj => h.eq j (by omega)⟩, fun ⟨e1, e2, e3⟩ => ?_⟩
  by_cases hq : q ≤ k
  · exact hq
  · exact absurd (e3 k (by omega)) (h.st (by omega) (by omega))
theorem pcL_eq {a b : Nat → Int} {S m : Nat} (hS : 1 ≤ S ∧ S ≤ 16) : pcL a S m = pcL b S m ↔ ∀ j, j < m * S → a j = b j := by
  refine ⟨fun e j hj => ?_, fun e => ?_⟩
  · have hi : j / S < m := Nat.div_lt_of_lt_mul (by rw [Nat.mul_comm]; exact hj)
    have hr : j % S < S := Nat.mod_lt _ (by omega)
    have e1 := congrArg (fun l => (l.getD (j / S) []).getD (j % S) 0) e
    simp only [pcL_get _ _ hi] at e1
    rw [List.getD_eq_getElem?_getD, List.getElem?_map, List.getElem?_range (show j % S < 16 by omega), List.getD_eq_getElem?_getD, List.getElem?_map, List.getElem?_range (show j % S < 16 by omega)] at e1
    simp only [Option.map_some, Option.getD_some] at e1
    unfold cutI at e1
    rw [show (j / S * 16 + j % S) / 16 = j / S by omega, show (j / S * 16 + j % S) % 16 = j % S by omega, if_pos hr, if_pos hr] at e1
    have := Nat.div_add_mod j S
    rw [Nat.mul_comm] at this
    rw [this] at e1
    exact e1
  · unfold pcL
    refine List.map_congr_left (fun i hi => List.map_congr_left (fun j hj => ?_))
    have hi := List.mem_range.1 hi
    have hj := List.mem_range.1 hj
    unfold cutI
    rw [show (i * 16 + j) / 16 = i by omega, show (i * 16 + j) % 16 = j by omega]
    split
    · refine e _ ?_
      have := Nat.mul_le_mul_right S (show i + 1 ≤ m from hi)
      rw [Nat.add_mul] at this
      omega
    · rfl
/-- so many blocks alike -/
def Alike (S : Nat) (a b : Nat → Int) (n m q : Nat) : Prop := q ≤ n / S ∧ q ≤ m / S ∧ pcL a S q = pcL b S q
theorem Com.blocks {a b : Nat → Int} {n m k S : Nat} (hS : 1 ≤ S ∧ S ≤ 16) (h : Com a b n m k) (q : Nat) : q * S ≤ k ↔ Alike S a b n m q := by
  unfold Alike
  rw [h.ge, pcL_eq hS, Nat.le_div_iff_mul_le (by omega), Nat.le_div_iff_mul_le (by omega)]
theorem Com.div {a b : Nat → Int} {n m k S : Nat} (hS : 1 ≤ S ∧ S ≤ 16) (h : Com a b n m k) (q : Nat) : q ≤ k / S ↔ Alike S a b n m q := by
  rw [Nat.le_div_iff_mul_le (by omega)]
  exact h.blocks hS q
/-- the longest that one of the first r has in common with it -/
def Best (S : Nat) (T : Nat → Nat → Int) (Ln : Nat → Nat) (r : Nat) (t : Nat → Int) (m best : Nat) : Prop := ∀ q, q ≤ best ↔ q = 0 ∨ ∃ i, i < r ∧ Alike S (T i) t (Ln i) m q
theorem best_zero (S : Nat) (T : Nat → Nat → Int) (Ln : Nat → Nat) (t : Nat → Int) (m : Nat) : Best S T Ln 0 t m 0 := fun q => ⟨fun e => .inl (by omega), fun e => by
  rcases e with rfl | ⟨i, hi, _⟩
  · exact Nat.le_refl _
  · omega⟩
theorem Best.step {S : Nat} {T : Nat → Nat → Int} {Ln : Nat → Nat} {r : Nat} {t : Nat → Int} {m best n : Nat} (h : Best S T Ln r t m best) (hn : ∀ q, q ≤ n ↔ Alike S (T r) t (Ln r) m q) : Best S T Ln (r + 1) t m (if best < n then n else best) := fun q => by
  have h1 := h q
  have h2 := hn q
  refine ⟨fun e => ?_, fun e => ?_⟩
  · by_cases q1 : q ≤ n
    · exact .inr ⟨r, by omega, h2.1 q1⟩
    · have : q ≤ best := by split at e <;> omega
      rcases h1.1 this with e | ⟨i, hi, e⟩
      · exact .inl e
      · exact .inr ⟨i, by omega, e⟩
  · have : q ≤ best ∨ q ≤ n := by
      rcases e with e | ⟨i, hi, e⟩
      · exact .inl (h1.2 (.inl e))
      · by_cases ei : i = r
        · subst ei; exact .inr (h2.2 e)
        · exact .inl (h1.2 (.inr ⟨i, by omega, e⟩))
    split <;> omega
/-- what is known, out of the texts that were kept -/
structure Kp (L : List Nd) (S : Nat) (T : Nat → Nat → Int) (Ln : Nat → Nat) (G : Nat → Nat → Nat) (r : Nat) : Prop where
  fwd : ∀ x ∈ L, ∃ i, i < r ∧ x.path.length ≤ Ln i / S ∧ x.path = pcL (T i) S x.path.length ∧ x.blk = G i (x.path.length - 1) ∧ ∀ i', i' < i → ¬ (x.path.length ≤ Ln i' / S ∧ x.path = pcL (T i') S x.path.length)
  bwd : ∀ i, i < r → ∀ p, 0 < p → p ≤ Ln i / S → ∃ x ∈ L, x.path = pcL (T i) S p
theorem kp_nil (S : Nat) (T : Nat → Nat → Int) (Ln : Nat → Nat) (G : Nat → Nat → Nat) : Kp [] S T Ln G 0 := ⟨fun x hx => (by cases hx), fun i hi => absurd hi (by omega)⟩
theorem Kp.same {L : List Nd} {S : Nat} {T : Nat → Nat → Int} {Ln : Nat → Nat} {G : Nat → Nat → Nat} {r : Nat} (h : Kp L S T Ln G r) {f : Nd → Nd} (hf : Same f) : Kp (L.map f) S T Ln G r := by
  refine ⟨fun x hx => ?_, fun i hi p h1 h2 => ?_⟩
  · obtain ⟨y, hy, rfl⟩ := List.mem_map.1 hx
    rw [hf.path, hf.blk]
    exact h.fwd y hy
  · obtain ⟨x, hx, e⟩ := h.bwd i hi p h1 h2
    exact ⟨f x, List.mem_map.2 ⟨x, hx, rfl⟩, by rw [hf.path]; exact e⟩
theorem Kp.best {C : Nat} {L : List Nd} {S : Nat} {T : Nat → Nat → Int} {Ln : Nat → Nat} {G : Nat → Nat → Nat} {r : Nat} (h : Kp L S T Ln G r) {t : Nat → Int} {m best k b o : Nat} (hb : Best S T Ln r t m best) (hl : Long C L (pcL t S (m / S)) k b o) : best = k := by
  have hle := hl.le
  rw [pcL_len] at hle
  refine Nat.le_antisymm ?_ ?_
  · by_cases e : best ≤ k
    · exact e
    · rcases (hb best).1 (Nat.le_refl _) with e0 | ⟨i, hi, h1, h2, h3⟩
      · omega
      · obtain ⟨x, hx, ex⟩ := h.bwd i hi best (by omega) h1
        exact absurd (by rw [ex, h3, pcL_take _ _ h2]) (hl.no best (by omega) (by rw [pcL_len]; exact h2) x hx)
  · refine (hb k).2 ?_
    rcases hl.adr with ⟨e, _⟩ | ⟨x, hx, e, _⟩
    · have := congrArg List.length e
      rw [List.length_take, pcL_len, Nat.min_eq_left hle] at this
      exact .inl this
    · rw [pcL_take _ _ hle] at e
      obtain ⟨i, hi, h1, h2, _⟩ := h.fwd x hx
      have el : x.path.length = k := by rw [e, pcL_len]
      rw [el] at h1 h2
      exact .inr ⟨i, hi, h1, hle, by rw [← h2, e]⟩
theorem Kp.owner {c : Ca} {N : Nat} {L : List Nd} {S : Nat} {T : Nat → Nat → Int} {Ln : Nat → Nat} {G : Nat → Nat → Nat} {r : Nat} (hw : Well c L N) (h : Kp L S T Ln G r) {t : Nat → Int} {m k b o j : Nat} (hl : Long c.C L (pcL t S (m / S)) k b o) (hj : j < k) :
    ∃ x ∈ L, x.path = (pcL t S (m / S)).take (j + 1) ∧ ∃ i, i < r ∧ Alike S (T i) t (Ln i) m (j + 1) ∧ (∀ i', i' < i → ¬ Alike S (T i') t (Ln i') m (j + 1)) ∧ x.blk = G i j := by
  have hle := hl.le
  rw [pcL_len] at hle
  rcases hl.adr with ⟨e, _⟩ | ⟨x, hx, e, _⟩
  · have := congrArg List.length e
    rw [List.length_take, pcL_len, Nat.min_eq_left hle] at this
    simp at this
    omega
  · have el : x.path.length = k := by rw [e, List.length_take, pcL_len, Nat.min_eq_left hle]
    obtain ⟨y, hy, ey⟩ := hw.tops k x hx el (j + 1) (by omega) (by omega)
    rw [e, List.take_take, Nat.min_eq_left (by omega)] at ey
    have ey' := ey
    rw [pcL_take _ _ (by omega)] at ey'
    have ely : y.path.length = j + 1 := by rw [ey', pcL_len]
    obtain ⟨i, hi, h1, h2, h3, h4⟩ := h.fwd y hy
    rw [ely] at h1 h2 h3 h4
    refine ⟨y, hy, ey, i, hi, ⟨h1, by omega, by rw [← h2, ey']⟩, fun i' hi' ⟨a1, _, a3⟩ => h4 i' hi' ⟨a1, by rw [ey', a3]⟩, h3⟩
/-- one more is kept -/
theorem Kp.add {C : Nat} {L : List Nd} {S : Nat} {T : Nat → Nat → Int} {Ln : Nat → Nat} {G : Nat → Nat → Nat} {r : Nat} (h : Kp L S T Ln G r) {k b o : Nat} {c : Ca} {N : Nat} (hw : Well c L N) (hl : Long C L (pcL (T r) S (Ln r / S)) k b o) {L' news : List Nd} (he : Ext L (pcL (T r) S (Ln r / S)) (G r) k (Ln r / S - k) L' news) : Kp L' S T Ln G (r + 1) := by
  have hle := hl.le
  rw [pcL_len] at hle
  refine ⟨fun x hx => ?_, fun i hi p h1 h2 => ?_⟩
  · rcases he.mem hx with hx | ⟨i, hi, e1, e2⟩
    · obtain ⟨i, hi, q⟩ := h.fwd x hx
      exact ⟨i, by omega, q⟩
    · rw [pcL_take _ _ (by omega)] at e1
      have el : x.path.length = k + i + 1 := by rw [e1, pcL_len]
      refine ⟨r, by omega, by omega, by rw [el]; exact e1, by rw [el, e2]; rfl, fun i' hi' ⟨a1, a2⟩ => ?_⟩
      obtain ⟨y, hy, ey⟩ := h.bwd i' hi' x.path.length (by omega) a1
      refine hl.no (k + i + 1) (by omega) (by rw [pcL_len]; omega) y hy ?_
      rw [ey, ← a2, e1, pcL_take _ _ (by omega)]
  · by_cases ei : i = r
    · subst ei
      by_cases hp : p ≤ k
      · rcases hl.adr with ⟨e, _⟩ | ⟨x, hx, e, _⟩
        · have := congrArg List.length e
          rw [List.length_take, pcL_len, Nat.min_eq_left hle] at this
          simp at this
          omega
        · have el : x.path.length = k := by rw [e, List.length_take, pcL_len, Nat.min_eq_left hle]
          obtain ⟨y, hy, ey⟩ := hw.tops k x hx el p (by omega) (by omega)
          rw [e, List.take_take, Nat.min_eq_left hp, pcL_take _ _ (by omega)] at ey
          exact ⟨y, by rw [he.eq]; exact List.mem_append.2 (.inl hy), ey⟩
      · obtain ⟨y, hy, e1, _⟩ := he.at_ (p - k - 1) (by omega)
        rw [show k + (p - k - 1) + 1 = p by omega, pcL_take _ _ h2] at e1
        exact ⟨y, by rw [he.eq]; exact List.mem_append.2 (.inr (List.mem_of_getElem? hy)), e1⟩
    · obtain ⟨x, hx, e⟩ := h.bwd i (by omega) p h1 h2
      exact ⟨x, by rw [he.eq]; exact List.mem_append.2 (.inl hx), e⟩
end Go.Proofs.Ytaalinlggjimcaa
