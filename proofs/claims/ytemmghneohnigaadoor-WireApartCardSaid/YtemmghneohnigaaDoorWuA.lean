import Derived.Test.YtemmghneohnigaaDoorWsA
namespace Go.Proofs.YtemmghneohnigaaDoor
open Go.RowKit
/-! Literals at the head of a text, as data. -/
theorem hxD_inj {a b : Int} (ha : 0 ≤ a ∧ a < 16) (hb : 0 ≤ b ∧ b < 16) (h : hxD a = hxD b) : a = b := by
  unfold hxD at h
  split at h <;> split at h <;> omega
/-- the three kinds of pieces -/
theorem pie_cases (c : Int) : (pie c = [92, c] ∧ (c = 34 ∨ c = 92)) ∨ (pie c = [c] ∧ c ≠ 34 ∧ c ≠ 92 ∧ 32 ≤ c ∧ c ≤ 126) ∨ (pie c = [92, 120, hxD (c / 16), hxD (c % 16)] ∧ c ≠ 34 ∧ c ≠ 92) := by
  by_cases h : c = 34 ∨ c = 92
  · exact .inl ⟨pie_quo h, h⟩
  · have h1 : c ≠ 34 := fun e => h (.inl e)
    have h2 : c ≠ 92 := fun e => h (.inr e)
    by_cases k : 32 ≤ c ∧ c ≤ 126
    · exact .inr (.inl ⟨pie_own h k, h1, h2, k⟩)
    · exact .inr (.inr ⟨pie_hex h k, h1, h2⟩)
theorem pie_byt {c : Int} (h : 0 ≤ c ∧ c ≤ 255) : ∀ x ∈ pie c, 32 ≤ x ∧ x ≤ 126 := by
  have q := hxD_u8 (n := c / 16) (by omega) (by omega)
  have r := hxD_u8 (n := c % 16) (by omega) (by omega)
  intro x hx
  rcases pie_cases c with ⟨e, k⟩ | ⟨e, k1, k2, k3⟩ | ⟨e, k1, k2⟩
  · rw [e] at hx; simp at hx; omega
  · rw [e] at hx; simp at hx; omega
  · rw [e] at hx; simp at hx; omega
theorem pies_byt : ∀ {l : List Int}, Byt l → ∀ x ∈ pies l, 32 ≤ x ∧ x ≤ 126
  | [], _, x, hx => by simp [pies] at hx
  | c :: r, h, x, hx => by
    simp only [pies, List.mem_append] at hx
    rcases hx with hx | hx
    · exact pie_byt (h c (by simp)) x hx
    · exact pies_byt (fun y hy => h y (by simp [hy])) x hx
theorem lit_asc {l : List Int} (h : Byt l) : ∀ x ∈ lit l, 32 ≤ x ∧ x ≤ 126 := fun x hx => by
  simp only [lit, List.mem_cons, List.mem_append] at hx
  rcases hx with rfl | hx | hx
  · omega
  · exact pies_byt h x hx
  · simp at hx; omega
theorem lit_byt {l : List Int} (h : Byt l) : Byt (lit l) := fun x hx => by
  have := lit_asc h x hx
  omega
theorem pie_code {c d : Int} (hc : 0 ≤ c ∧ c ≤ 255) (hd : 0 ≤ d ∧ d ≤ 255) {X Y : List Int} (h : pie c ++ X = pie d ++ Y) : c = d ∧ X = Y := by
  rcases pie_cases c with ⟨e, k⟩ | ⟨e, k1, k2, k3⟩ | ⟨e, k1, k2⟩ <;> rcases pie_cases d with ⟨e', k'⟩ | ⟨e', k1', k2', k3'⟩ | ⟨e', k1', k2'⟩ <;> rw [e, e'] at h <;> simp at h
  · exact ⟨h.1, h.2⟩
  · omega
  · omega
  · omega
  · exact ⟨h.1, h.2⟩
  · omega
  · omega
  · omega
  · obtain ⟨h1, h2, h3⟩ := h
    have q := hxD_inj (a := c / 16) (b := d / 16) (by omega) (by omega) h1
    have r := hxD_inj (a := c % 16) (b := d % 16) (by omega) (by omega) h2
    exact ⟨by omega, h3⟩
theorem pie_no34 {c : Int} {X Y : List Int} (h : pie c ++ X = 34 :: Y) : False := by
  rcases pie_cases c with ⟨e, k⟩ | ⟨e, k1, k2, k3⟩ | ⟨e, k1, k2⟩ <;> rw [e] at h <;> simp at h
  exact k1 h.1
theorem pies_split : ∀ (b b' : List Int), Byt b → Byt b' → ∀ {r r' : List Int}, pies b ++ r = pies b' ++ 34 :: r' → ∃ b2, b' = b ++ b2 ∧ r = pies b2 ++ 34 :: r'
  | [], b', _, _, r, r', h => ⟨b', rfl, by simpa [pies] using h⟩
  | c :: b, [], _, _, r, r', h => by
    simp only [pies, List.nil_append, List.append_assoc] at h
    exact absurd h (fun h => pie_no34 h)
  | c :: b, d :: b', hb, hb', r, r', h => by
    simp only [pies, List.append_assoc] at h
    obtain ⟨rfl, h2⟩ := pie_code (hb c (by simp)) (hb' d (by simp)) h
    obtain ⟨b2, e, e2⟩ := pies_split b b' (fun y hy => hb y (by simp [hy])) (fun y hy => hb' y (by simp [hy])) h2
    exact ⟨b2, by rw [e]; rfl, e2⟩
/-- the text begins with the literal of these bytes -/
def UnqP (t b : List Int) : Prop := Byt b ∧ lit b <+: t
theorem UnqP.body {t b : List Int} (h : UnqP t b) : ∃ z, t = 34 :: (pies b ++ 34 :: z) := by
  obtain ⟨_, z, hz⟩ := h
  exact ⟨z, by rw [← hz]; simp [lit]⟩
theorem UnqP.uniq {t b b' : List Int} (h : UnqP t b) (h' : UnqP t b') : b = b' := by
  obtain ⟨z, e⟩ := h.body
  obtain ⟨z', e'⟩ := h'.body
  rw [e] at e'
  simp only [List.cons.injEq, true_and] at e'
  obtain ⟨b2, e2, e3⟩ := pies_split b b' h.1 h'.1 e'
  cases b2 with
  | nil => simp [e2]
  | cons c r =>
    simp only [pies, List.append_assoc] at e3
    exact absurd e3.symm (fun h => pie_no34 h)
theorem UnqP.of {b z : List Int} (h : Byt b) : UnqP (lit b ++ z) b := ⟨h, z, rfl⟩
/-- the beginning of a piece that is not whole -/
inductive Part : List Int → Prop
  | nil : Part []
  | one : Part [92]
  | two : Part [92, 120]
  | three (x : Int) : Part [92, 120, x]
/-- what stands behind whole pieces, if there is a literal -/
theorem unq_rest {b ch rest : List Int} {b' : List Int} (hb : Byt b) (h : UnqP (34 :: (pies b ++ (ch ++ rest))) b') : ∃ b2 z, Byt b2 ∧ ch ++ rest = pies b2 ++ 34 :: z := by
  obtain ⟨z, e⟩ := h.body
  simp only [List.cons.injEq, true_and] at e
  obtain ⟨b2, e2, e3⟩ := pies_split b b' hb h.1 e
  exact ⟨b2, z, by have := h.1; rw [e2] at this; exact this.right, e3⟩
theorem unq_end {b ch : List Int} (hb : Byt b) (hp : Part ch) : ¬ ∃ b', UnqP (34 :: (pies b ++ (ch ++ []))) b' := by
  rintro ⟨b', h⟩
  obtain ⟨b2, z, hb2, e⟩ := unq_rest hb h
  cases b2 with
  | nil => cases hp <;> simp [pies] at e
  | cons c r =>
    simp only [pies, List.append_assoc] at e
    rcases pie_cases c with ⟨q, k⟩ | ⟨q, k1, k2, k3⟩ | ⟨q, k1, k2⟩ <;> rw [q] at e <;> cases hp <;> simp at e
    all_goals omega
theorem unq_high {b ch rest : List Int} {x : Int} (hb : Byt b) (hp : Part ch) (hx : 126 < x) : ¬ ∃ b', UnqP (34 :: (pies b ++ (ch ++ x :: rest))) b' := by
  rintro ⟨b', h⟩
  obtain ⟨b2, z, hb2, e⟩ := unq_rest hb h
  cases b2 with
  | nil => cases hp <;> simp [pies] at e; omega
  | cons c r =>
    simp only [pies, List.append_assoc] at e
    have hc := pie_byt (hb2 c (by simp))
    rcases pie_cases c with ⟨q, k⟩ | ⟨q, k1, k2, k3⟩ | ⟨q, k1, k2⟩ <;> rw [q] at e hc <;> cases hp <;> simp at e hc <;> omega
/-- how long a piece is that begins so -/
def plen (p : List Int) : Nat := if [92, 120] <+: p then 4 else if [92] <+: p then 2 else 1
theorem unq_none {b ch rest : List Int} {x : Int} (hb : Byt b) (hp : Part ch) (h34 : ch ++ [x] ≠ [34]) (hl : plen (ch ++ [x]) ≤ (ch ++ [x]).length) (hn : ∀ c, 0 ≤ c ∧ c ≤ 255 → ch ++ [x] ≠ pie c) : ¬ ∃ b', UnqP (34 :: (pies b ++ (ch ++ x :: rest))) b' := by
  rintro ⟨b', h⟩
  obtain ⟨b2, z, hb2, e⟩ := unq_rest hb h
  cases b2 with
  | nil =>
    cases hp <;> simp [pies] at e
    exact h34 (by simp [e.1])
  | cons c r =>
    have hc := hb2 c (by simp)
    have hn' := hn c hc
    simp only [pies, List.append_assoc] at e
    rcases pie_cases c with ⟨q, k⟩ | ⟨q, k1, k2, k3⟩ | ⟨q, k1, k2⟩ <;> rw [q] at e hn' <;> cases hp <;> simp [plen, List.cons_prefix_cons] at e hn' hl
    all_goals first | omega | (simp_all; done)
end Go.Proofs.YtemmghneohnigaaDoor
