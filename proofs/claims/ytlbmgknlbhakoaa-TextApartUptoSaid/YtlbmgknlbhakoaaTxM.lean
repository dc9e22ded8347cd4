import Derived.Test.YtlbmgknlbhakoaaVDec
import Derived.Laws.BytesArg
namespace Go.Proofs.Ytlbmgknlbhakoaa
open Go.RowKit
/-! The stream of text, as lists of bytes. -/
def sufB (s t : List Int) : Bool := decide (s.length ≤ t.length ∧ t.drop (t.length - s.length) = s)
theorem sufB_iff {s t : List Int} : sufB s t = true ↔ s <:+ t := by
  unfold sufB
  rw [decide_eq_true_iff]
  constructor
  · rintro ⟨_, h⟩; rw [← h]; exact List.drop_suffix _ _
  · rintro ⟨u, rfl⟩; simp
theorem sufB_len {s t : List Int} (h : sufB s t = true) : s.length ≤ t.length := (sufB_iff.1 h).length_le
/-- the longest stop that ends here -/
def endF (t : List Int) (m : Nat) (s : List Int) : Nat := if sufB s t then max m s.length else m
def endN (sts : List (List Int)) (t : List Int) : Nat := sts.foldl (endF t) 0
/-- the most of a stop that has begun -/
def begD (s t : List Int) (m : Nat) : Nat → Nat
  | 0 => m
  | n + 1 => if n + 1 ≤ m then m else if sufB (s.take (n + 1)) t then n + 1 else begD s t m n
def begF (t : List Int) (m : Nat) (s : List Int) : Nat := begD s t m (s.length - 1)
def begN (sts : List (List Int)) (t : List Int) : Nat := sts.foldl (begF t) 0
theorem fo_succ {f : Nat → List Int → Nat} (sts : List (List Int)) {k : Nat} (h : k < sts.length) : (sts.take (k + 1)).foldl f 0 = f ((sts.take k).foldl f 0) (sts.getD k []) := by
  rw [List.take_succ_eq_append_getElem h, List.foldl_append]; simp [List.getD_eq_getElem?_getD, h]
theorem fo_all {f : Nat → List Int → Nat} (sts : List (List Int)) : (sts.take sts.length).foldl f 0 = sts.foldl f 0 := by rw [List.take_length]
/-- bytes of a rune -/
def wid (l : List Int) : Nat := (Utf8.decode (strOfNums l) 0).2
def runeB (p : List Int) : Bool := decide (p.length < wid (p ++ [128, 128, 128])) || decide (p.length < wid (p ++ [191, 191, 191]))
def runD (t : List Int) : Nat → Nat
  | 0 => 0
  | n + 1 => if runeB (t.drop (t.length - (n + 1))) then n + 1 else runD t n
def runeN (t : List Int) : Nat := runD t (min 3 t.length)
def waN (sts : List (List Int)) (t : List Int) : Nat := begN sts t + runeN (t.take (t.length - begN sts t))
/-- what comes -/
def comB (sts : List (List Int)) : List Int → List Int → List Int × Bool
  | t, [] => (t, false)
  | t, b :: r => if 0 < endN sts (t ++ [b]) then ((t ++ [b]).take ((t ++ [b]).length - endN sts (t ++ [b])), true) else comB sts (t ++ [b]) r
def comT (d : VD) (sts : List (List Int)) : List Int → List Nat → List Int × Bool
  | t, [] => (t, false)
  | t, k :: r => if k = 0 then (t, true) else if (comB sts t (d.pc k)).2 then comB sts t (d.pc k) else comT d sts (comB sts t (d.pc k)).1 r
def gvN (sts : List (List Int)) (p : List Int × Bool) : Nat := if p.2 then p.1.length else p.1.length - waN sts p.1
/-- what a Feed gives out, and what it leaves -/
def fdO (d : VD) (sts : List (List Int)) (x : List Int) (o : Bool) (ts : List Nat) : List Int := if o then [] else (comT d sts x ts).1.take (gvN sts (comT d sts x ts))
def fdX (d : VD) (sts : List (List Int)) (x : List Int) (o : Bool) (ts : List Nat) : List Int := if o then x else (comT d sts x ts).1.drop (gvN sts (comT d sts x ts))
def fdE (d : VD) (sts : List (List Int)) (x : List Int) (o : Bool) (ts : List Nat) : Bool := if o then true else (comT d sts x ts).2
/-! What stops have begun. -/
theorem begD_ge (s t : List Int) (m : Nat) : ∀ n, m ≤ begD s t m n
  | 0 => Nat.le_refl _
  | n + 1 => by
    unfold begD
    split
    · exact Nat.le_refl _
    · split
      · omega
      · exact begD_ge s t m n
theorem begD_hi (s t : List Int) (m : Nat) : ∀ n k, k ≤ n → sufB (s.take k) t = true → k ≤ begD s t m n
  | 0, k, h, _ => by omega
  | n + 1, k, h, hs => by
    unfold begD
    split
    · omega
    · split
      · omega
      · rename_i h1 h2
        by_cases e : k = n + 1
        · subst e; exact absurd hs h2
        · exact begD_hi s t m n k (by omega) hs
theorem begD_at (s t : List Int) (m : Nat) : ∀ n, begD s t m n = m ∨ (begD s t m n ≤ n ∧ sufB (s.take (begD s t m n)) t = true)
  | 0 => .inl rfl
  | n + 1 => by
    unfold begD
    split
    · exact .inl rfl
    · split
      · exact .inr ⟨Nat.le_refl _, by assumption⟩
      · rcases begD_at s t m n with h | ⟨h1, h2⟩
        · exact .inl h
        · exact .inr ⟨by omega, h2⟩
/-- n bytes of a stop have begun -/
def Bgn (sts : List (List Int)) (t : List Int) (n : Nat) : Prop := ∃ s ∈ sts, n < s.length ∧ s.take n <:+ t
theorem begN_gen (t : List Int) : ∀ (sts : List (List Int)) (m : Nat), m ≤ sts.foldl (begF t) m ∧ (∀ s ∈ sts, ∀ n, n < s.length → sufB (s.take n) t = true → n ≤ sts.foldl (begF t) m) ∧ (sts.foldl (begF t) m = m ∨ Bgn sts t (sts.foldl (begF t) m))
  | [], m => ⟨Nat.le_refl _, (fun s h => by cases h), .inl rfl⟩
  | s :: r, m => by
    obtain ⟨h1, h2, h3⟩ := begN_gen t r (begF t m s)
    have g := begD_ge s t m (s.length - 1)
    refine ⟨Nat.le_trans g h1, ?_, ?_⟩
    · intro u hu n hn hs
      rcases List.mem_cons.1 hu with rfl | hu
      · exact Nat.le_trans (begD_hi u t m _ n (by omega) hs) h1
      · exact h2 u hu n hn hs
    · simp only [List.foldl_cons]
      rcases h3 with e | ⟨u, hu, hn, hs⟩
      · rw [e]
        rcases begD_at s t m (s.length - 1) with q | ⟨q1, q2⟩
        · exact .inl q
        · by_cases hm : begF t m s = m
          · exact .inl hm
          · refine .inr ⟨s, by simp, ?_, sufB_iff.1 q2⟩
            have : begF t m s ≤ s.length - 1 := q1
            omega
      · exact .inr ⟨u, by simp [hu], hn, hs⟩
theorem begN_le {sts : List (List Int)} {t : List Int} {n : Nat} (h : Bgn sts t n) : n ≤ begN sts t := by
  obtain ⟨s, hs, hn, hu⟩ := h
  exact (begN_gen t sts 0).2.1 s hs n hn (sufB_iff.2 hu)
theorem begN_at (sts : List (List Int)) (t : List Int) : begN sts t = 0 ∨ Bgn sts t (begN sts t) := (begN_gen t sts 0).2.2
theorem Bgn.le {sts : List (List Int)} {t : List Int} {n : Nat} (h : Bgn sts t n) : n ≤ t.length := by
  obtain ⟨s, _, hn, hu⟩ := h
  have := hu.length_le
  simp at this; omega
theorem begN_len (sts : List (List Int)) (t : List Int) : begN sts t ≤ t.length := by
  rcases begN_at sts t with h | h
  · omega
  · exact h.le
/-! What stops have ended. -/
theorem endN_gen (t : List Int) : ∀ (sts : List (List Int)) (m : Nat), m ≤ sts.foldl (endF t) m ∧ (∀ s ∈ sts, sufB s t = true → s.length ≤ sts.foldl (endF t) m) ∧ (sts.foldl (endF t) m = m ∨ ∃ s ∈ sts, s.length = sts.foldl (endF t) m ∧ s <:+ t)
  | [], m => ⟨Nat.le_refl _, (fun s h => by cases h), .inl rfl⟩
  | s :: r, m => by
    obtain ⟨h1, h2, h3⟩ := endN_gen t r (endF t m s)
    have g : m ≤ endF t m s := by unfold endF; split <;> omega
    refine ⟨Nat.le_trans g h1, ?_, ?_⟩
    · intro u hu hs
      rcases List.mem_cons.1 hu with rfl | hu
      · refine Nat.le_trans ?_ h1
        unfold endF; rw [if_pos hs]; omega
      · exact h2 u hu hs
    · simp only [List.foldl_cons]
      rcases h3 with e | ⟨u, hu, hn, hs⟩
      · rw [e]
        by_cases hs : sufB s t = true
        · by_cases hm : m ≤ s.length
          · refine .inr ⟨s, by simp, ?_, sufB_iff.1 hs⟩
            unfold endF; rw [if_pos hs]; omega
          · left; unfold endF; rw [if_pos hs]; omega
        · left; unfold endF; rw [if_neg hs]
      · exact .inr ⟨u, by simp [hu], hn, hs⟩
theorem endN_le {sts : List (List Int)} {t s : List Int} (h : s ∈ sts) (hs : s <:+ t) : s.length ≤ endN sts t := (endN_gen t sts 0).2.1 s h (sufB_iff.2 hs)
theorem endN_at {sts : List (List Int)} {t : List Int} (h : 0 < endN sts t) : ∃ s ∈ sts, s.length = endN sts t ∧ s <:+ t := by
  rcases (endN_gen t sts 0).2.2 with e | e
  · exact absurd e (by unfold endN at h; omega)
  · exact e
theorem endN_len (sts : List (List Int)) (t : List Int) : endN sts t ≤ t.length := by
  by_cases h : 0 < endN sts t
  · obtain ⟨s, _, e, hs⟩ := endN_at h
    rw [← e]; exact hs.length_le
  · omega
theorem endN_eq {sts : List (List Int)} {t u : List Int} (h : ∀ s ∈ sts, s <:+ t ↔ s <:+ u) : endN sts t = endN sts u := by
  have key : ∀ {t u : List Int}, (∀ s ∈ sts, s <:+ t → s <:+ u) → endN sts t ≤ endN sts u := fun {t u} h => by
    by_cases h0 : 0 < endN sts t
    · obtain ⟨s, hs, e, hu⟩ := endN_at h0
      rw [← e]; exact endN_le hs (h s hs hu)
    · omega
  exact Nat.le_antisymm (key fun s hs => (h s hs).1) (key fun s hs => (h s hs).2)
theorem begN_eq {sts : List (List Int)} {t u : List Int} (h : ∀ n, Bgn sts t n ↔ Bgn sts u n) : begN sts t = begN sts u := by
  have key : ∀ {t u : List Int}, (∀ n, Bgn sts t n → Bgn sts u n) → begN sts t ≤ begN sts u := fun {t u} h => by
    rcases begN_at sts t with e | e
    · omega
    · exact begN_le (h _ e)
  exact Nat.le_antisymm (key fun n => (h n).1) (key fun n => (h n).2)
/-! Runes. -/
theorem runD_at (t : List Int) : ∀ n, runD t n = 0 ∨ (runD t n ≤ n ∧ runeB (t.drop (t.length - runD t n)) = true)
  | 0 => .inl rfl
  | n + 1 => by
    unfold runD
    split
    · exact .inr ⟨Nat.le_refl _, by assumption⟩
    · rcases runD_at t n with h | ⟨h1, h2⟩
      · exact .inl h
      · exact .inr ⟨by omega, h2⟩
theorem runD_hi (t : List Int) : ∀ n k, k ≤ n → runeB (t.drop (t.length - k)) = true → k ≤ runD t n
  | 0, k, h, _ => by omega
  | n + 1, k, h, hs => by
    unfold runD
    split
    · omega
    · rename_i h2
      by_cases e : k = n + 1
      · subst e; exact absurd hs h2
      · exact runD_hi t n k (by omega) hs
theorem runeN_le (t : List Int) : runeN t ≤ 3 ∧ runeN t ≤ t.length := by
  unfold runeN
  rcases runD_at t (min 3 t.length) with h | ⟨h, _⟩
  · rw [h]; omega
  · omega
theorem waN_len (sts : List (List Int)) (t : List Int) : waN sts t ≤ t.length := by
  have h1 := begN_len sts t
  have h2 := (runeN_le (t.take (t.length - begN sts t))).2
  rw [List.length_take] at h2
  unfold waN; omega
end Go.Proofs.Ytlbmgknlbhakoaa
