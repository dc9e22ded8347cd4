import Derived.Test.YtakekdbclmgeoaaClOwn
namespace Go.Proofs.Ytakekdbclmgeoaa.Cl
open Go.RowKit
/-! A stable sort: what its steps do to a row of numbers, and its order. -/
/-- by key, then by number -/
def ltK (K : Nat → Int) (x y : Nat) : Prop := K x < K y ∨ (K x = K y ∧ x < y)
theorem ltK.trans {K : Nat → Int} {x y z : Nat} (h : ltK K x y) (k : ltK K y z) : ltK K x z := by
  unfold ltK at *
  rcases h with h | ⟨h1, h2⟩ <;> rcases k with k | ⟨k1, k2⟩
  · exact .inl (by omega)
  · exact .inl (by omega)
  · exact .inl (by omega)
  · exact .inr ⟨by omega, by omega⟩
theorem ltK_of {K : Nat → Int} {x y : Nat} (hxy : x < y) (h : ¬ K y < K x) : ltK K x y := by
  unfold ltK
  by_cases e : K x = K y
  · exact .inr ⟨e, hxy⟩
  · exact .inl (by omega)
/-- in order from i to j -/
def Srt (K : Nat → Int) (d : Nat → Nat) (i j : Nat) : Prop := ∀ u v, i ≤ u → u < v → v < j → ltK K (d u) (d v)
theorem Srt.sub {K : Nat → Int} {d : Nat → Nat} {i j i' j' : Nat} (h : Srt K d i j) (hi : i ≤ i') (hj : j' ≤ j) : Srt K d i' j' := fun u v h1 h2 h3 => h u v (by omega) h2 (by omega)
theorem Srt.congr {K : Nat → Int} {d d' : Nat → Nat} {i j : Nat} (h : Srt K d i j) (e : ∀ u, i ≤ u → u < j → d' u = d u) : Srt K d' i j := fun u v h1 h2 h3 => by
  rw [e u h1 (by omega), e v (by omega) h3]
  exact h u v h1 h2 h3
/-- moved within a to b alone -/
structure Fr (d d' : Nat → Nat) (a b : Nat) : Prop where
  out : ∀ i, i < a ∨ b ≤ i → d' i = d i
  inn : ∀ i, a ≤ i → i < b → ∃ j, a ≤ j ∧ j < b ∧ d' i = d j
theorem Fr.refl (d : Nat → Nat) (a b : Nat) : Fr d d a b := ⟨fun _ _ => rfl, fun i h1 h2 => ⟨i, h1, h2, rfl⟩⟩
theorem Fr.trans {d e f : Nat → Nat} {a b : Nat} (h : Fr d e a b) (k : Fr e f a b) : Fr d f a b :=
  ⟨fun i hi => (k.out i hi).trans (h.out i hi), fun i h1 h2 => by
    obtain ⟨j, j1, j2, ej⟩ := k.inn i h1 h2
    obtain ⟨l, l1, l2, el⟩ := h.inn j j1 j2
    exact ⟨l, l1, l2, ej.trans el⟩⟩
theorem Fr.wide {d e : Nat → Nat} {a b a' b' : Nat} (h : Fr d e a b) (ha : a' ≤ a) (hb : b ≤ b') : Fr d e a' b' :=
  ⟨fun i hi => h.out i (by omega), fun i h1 h2 => by
    by_cases hi : a ≤ i ∧ i < b
    · obtain ⟨j, j1, j2, ej⟩ := h.inn i hi.1 hi.2
      exact ⟨j, by omega, by omega, ej⟩
    · exact ⟨i, h1, h2, h.out i (by omega)⟩⟩
/-- two stretches of n change places -/
def swp (d : Nat → Nat) (a b n : Nat) : Nat → Nat := fun i => if a ≤ i ∧ i < a + n then d (b + (i - a)) else if b ≤ i ∧ i < b + n then d (a + (i - b)) else d i
/-- two stretches side by side change places -/
def rot (d : Nat → Nat) (a m b : Nat) : Nat → Nat := fun i => if a ≤ i ∧ i < a + (b - m) then d (m + (i - a)) else if a + (b - m) ≤ i ∧ i < b then d (i - (b - m)) else d i
theorem swp_zero (d : Nat → Nat) (a b : Nat) : swp d a b 0 = d := by
  funext i
  unfold swp
  rw [if_neg (by omega), if_neg (by omega)]
theorem swp_step (d : Nat → Nat) {a b k : Nat} (h : a + k < b) (i : Nat) : (if i = b + k then swp d a b k (a + k) else if i = a + k then swp d a b k (b + k) else swp d a b k i) = swp d a b (k + 1) i := by
  have e1 : swp d a b k (a + k) = d (a + k) := by unfold swp; rw [if_neg (by omega), if_neg (by omega)]
  have e2 : swp d a b k (b + k) = d (b + k) := by unfold swp; rw [if_neg (by omega), if_neg (by omega)]
  rw [e1, e2]
  unfold swp
  repeat' split
  all_goals first | rfl | (congr 1; omega) | (exfalso; omega) | omega
theorem rot_more (d : Nat → Nat) {m i j : Nat} (hi : i ≤ m) (h : j < i) : rot (swp d (m - i) m j) (m - (i - j)) m (m + j) = rot d (m - i) m (m + j) := by
  funext t
  unfold rot swp
  repeat' split
  all_goals first | (congr 1; omega) | omega | rfl
theorem rot_less (d : Nat → Nat) {m i j : Nat} (hi : i ≤ m) (h : i < j) : rot (swp d (m - i) (m + j - i) i) (m - i) m (m + (j - i)) = rot d (m - i) m (m + j) := by
  funext t
  unfold rot swp
  repeat' split
  all_goals first | (congr 1; omega) | omega | rfl
theorem rot_same (d : Nat → Nat) {m i : Nat} (hi : i ≤ m) : swp d (m - i) m i = rot d (m - i) m (m + i) := by
  funext t
  unfold rot swp
  repeat' split
  all_goals first | (congr 1; omega) | omega | rfl
theorem rot_fr (d : Nat → Nat) {a m b : Nat} (h1 : a ≤ m) (h2 : m ≤ b) : Fr d (rot d a m b) a b := by
  refine ⟨fun i hi => ?_, fun i hi1 hi2 => ?_⟩
  · unfold rot
    rw [if_neg (by omega), if_neg (by omega)]
  · unfold rot
    by_cases h3 : a ≤ i ∧ i < a + (b - m)
    · rw [if_pos h3]; exact ⟨_, by omega, by omega, rfl⟩
    · rw [if_neg h3, if_pos (by omega)]; exact ⟨_, by omega, by omega, rfl⟩
/-- what symMerge's search finds -/
structure Cut (K : Nat → Int) (d : Nat → Nat) (a m b mid s : Nat) : Prop where
  ge : a ≤ s
  sm : s ≤ m
  smid : s ≤ mid
  eb : mid + m - s ≤ b
  lo : a < s → mid + m - s < b → ltK K (d (s - 1)) (d (mid + m - s))
  hi : s < m → s < mid → ltK K (d (mid + m - 1 - s)) (d s)
theorem Cut.parts {K : Nat → Int} {d : Nat → Nat} {a m b mid s : Nat} (h : Cut K d a m b mid s) (hm1 : a ≤ mid) (hm2 : mid ≤ b) (hL : Srt K d a m) (hR : Srt K d m b) :
    Srt K (rot d s m (mid + m - s)) a s ∧ Srt K (rot d s m (mid + m - s)) s mid ∧ Srt K (rot d s m (mid + m - s)) mid (mid + m - s) ∧ Srt K (rot d s m (mid + m - s)) (mid + m - s) b ∧ ∀ u v, a ≤ u → u < mid → mid ≤ v → v < b → ltK K (rot d s m (mid + m - s) u) (rot d s m (mid + m - s) v) := by
  obtain ⟨h1, h2, h3, h4, h5, h6⟩ := h
  have r1 : ∀ u, u < s → rot d s m (mid + m - s) u = d u := fun u hu => by unfold rot; rw [if_neg (by omega), if_neg (by omega)]
  have r2 : ∀ u, s ≤ u → u < mid → rot d s m (mid + m - s) u = d (m + (u - s)) := fun u hu hu2 => by unfold rot; rw [if_pos (by omega)]
  have r3 : ∀ u, mid ≤ u → u < mid + m - s → rot d s m (mid + m - s) u = d (u - (mid - s)) := fun u hu hu2 => by unfold rot; rw [if_neg (by omega), if_pos (by omega)]; congr 1; omega
  have r4 : ∀ u, mid + m - s ≤ u → rot d s m (mid + m - s) u = d u := fun u hu => by unfold rot; rw [if_neg (by omega), if_neg (by omega)]
  -- every left one below s is ahead of every right one from the end on
  have c1 : ∀ u v, a ≤ u → u < s → mid + m - s ≤ v → v < b → ltK K (d u) (d v) := fun u v hu hu2 hv hv2 => by
    have k1 := h5 (by omega) (by omega)
    have k2 : u = s - 1 ∨ ltK K (d u) (d (s - 1)) := by
      by_cases e : u = s - 1
      · exact .inl e
      · exact .inr (hL u (s - 1) hu (by omega) (by omega))
    have k3 : v = mid + m - s ∨ ltK K (d (mid + m - s)) (d v) := by
      by_cases e : v = mid + m - s
      · exact .inl e
      · exact .inr (hR (mid + m - s) v (by omega) (by omega) hv2)
    rcases k2 with rfl | k2 <;> rcases k3 with rfl | k3
    · exact k1
    · exact k1.trans k3
    · exact k2.trans k1
    · exact (k2.trans k1).trans k3
  have c2 : ∀ u v, m ≤ u → u < mid + m - s → s ≤ v → v < m → ltK K (d u) (d v) := fun u v hu hu2 hv hv2 => by
    have k1 := h6 (by omega) (by omega)
    have k2 : u = mid + m - 1 - s ∨ ltK K (d u) (d (mid + m - 1 - s)) := by
      by_cases e : u = mid + m - 1 - s
      · exact .inl e
      · exact .inr (hR u (mid + m - 1 - s) hu (by omega) (by omega))
    have k3 : v = s ∨ ltK K (d s) (d v) := by
      by_cases e : v = s
      · exact .inl e
      · exact .inr (hL s v h1 (by omega) hv2)
    rcases k2 with rfl | k2 <;> rcases k3 with rfl | k3
    · exact k1
    · exact k1.trans k3
    · exact k2.trans k1
    · exact (k2.trans k1).trans k3
  refine ⟨fun u v hu huv hv => ?_, fun u v hu huv hv => ?_, fun u v hu huv hv => ?_, fun u v hu huv hv => ?_, fun u v hu hu2 hv hv2 => ?_⟩
  · rw [r1 u (by omega), r1 v hv]; exact hL u v hu huv (by omega)
  · rw [r2 u hu (by omega), r2 v (by omega) hv]; exact hR _ _ (by omega) (by omega) (by omega)
  · rw [r3 u hu (by omega), r3 v (by omega) hv]; exact hL _ _ (by omega) (by omega) (by omega)
  · rw [r4 u hu, r4 v (by omega)]; exact hR u v (by omega) huv hv
  · by_cases q1 : u < s
    · rw [r1 u q1]
      by_cases q2 : v < mid + m - s
      · rw [r3 v hv q2]; exact hL _ _ hu (by omega) (by omega)
      · rw [r4 v (by omega)]; exact c1 u v hu q1 (by omega) hv2
    · rw [r2 u (by omega) hu2]
      by_cases q2 : v < mid + m - s
      · rw [r3 v hv q2]; exact c2 _ _ (by omega) (by omega) (by omega) (by omega)
      · rw [r4 v (by omega)]; exact hR _ _ (by omega) (by omega) hv2
/-- two sorted halves, all of the one ahead of all of the other -/
theorem Srt.join {K : Nat → Int} {d : Nat → Nat} {a mid b : Nat} (h1 : Srt K d a mid) (h2 : Srt K d mid b) (hx : ∀ u v, a ≤ u → u < mid → mid ≤ v → v < b → ltK K (d u) (d v)) : Srt K d a b := fun u v hu huv hv => by
  by_cases q1 : v < mid
  · exact h1 u v hu huv q1
  · by_cases q2 : u < mid
    · exact hx u v hu q2 (by omega) hv
    · exact h2 u v (by omega) huv hv
/-- the first one goes up to the place i - 1 -/
def upD (d : Nat → Nat) (a k : Nat) : Nat → Nat := fun t => if a ≤ t ∧ t < k then d (t + 1) else if t = k then d a else d t
theorem upD_zero (d : Nat → Nat) (a : Nat) : upD d a a = d := by
  funext t
  unfold upD
  rw [if_neg (by omega)]
  split
  · rename_i h; rw [h]
  · rfl
theorem upD_step (d : Nat → Nat) {a k : Nat} (h : a ≤ k) (t : Nat) : (if t = k + 1 then upD d a k k else if t = k then upD d a k (k + 1) else upD d a k t) = upD d a (k + 1) t := by
  have e1 : upD d a k k = d a := by unfold upD; rw [if_neg (by omega), if_pos rfl]
  have e2 : upD d a k (k + 1) = d (k + 1) := by unfold upD; rw [if_neg (by omega), if_neg (by omega)]
  rw [e1, e2]
  unfold upD
  repeat' split
  all_goals first | rfl | (congr 1; omega) | (exfalso; omega) | omega
theorem upD_fr (d : Nat → Nat) {a k b : Nat} (h1 : a ≤ k) (h2 : k < b) : Fr d (upD d a k) a b := by
  refine ⟨fun i hi => ?_, fun i hi1 hi2 => ?_⟩
  · unfold upD; rw [if_neg (by omega), if_neg (by omega)]
  · unfold upD
    by_cases h3 : a ≤ i ∧ i < k
    · rw [if_pos h3]; exact ⟨_, by omega, by omega, rfl⟩
    · rw [if_neg h3]
      by_cases h4 : i = k
      · rw [if_pos h4]; exact ⟨a, by omega, by omega, rfl⟩
      · rw [if_neg h4]; exact ⟨i, hi1, hi2, rfl⟩
theorem upD_srt {K : Nat → Int} {d : Nat → Nat} {a b i : Nat} (hi : a + 1 ≤ i) (hib : i ≤ b) (hR : Srt K d (a + 1) b) (h1 : ∀ h, a + 1 ≤ h → h < i → ltK K (d h) (d a)) (h2 : ∀ h, i ≤ h → h < b → ltK K (d a) (d h)) : Srt K (upD d a (i - 1)) a b := fun u v hu huv hv => by
  unfold upD
  by_cases q1 : a ≤ u ∧ u < i - 1
  · rw [if_pos q1]
    by_cases q2 : a ≤ v ∧ v < i - 1
    · rw [if_pos q2]; exact hR _ _ (by omega) (by omega) (by omega)
    · rw [if_neg q2]
      by_cases q3 : v = i - 1
      · rw [if_pos q3]; exact h1 _ (by omega) (by omega)
      · rw [if_neg q3]; exact hR _ _ (by omega) (by omega) hv
  · rw [if_neg q1, if_neg (by omega : ¬ (a ≤ v ∧ v < i - 1))]
    by_cases q3 : u = i - 1
    · rw [if_pos q3, if_neg (by omega)]; exact h2 _ (by omega) hv
    · rw [if_neg q3, if_neg (by omega)]; exact hR _ _ (by omega) huv hv
/-- the last one goes down to the place k -/
def dnD (d : Nat → Nat) (k m : Nat) : Nat → Nat := fun t => if k < t ∧ t ≤ m then d (t - 1) else if t = k then d m else d t
theorem dnD_zero (d : Nat → Nat) (m : Nat) : dnD d m m = d := by
  funext t
  unfold dnD
  rw [if_neg (by omega)]
  split
  · rename_i h; rw [h]
  · rfl
theorem dnD_step (d : Nat → Nat) {k m : Nat} (h : k + 1 ≤ m) (t : Nat) : (if t = k then dnD d (k + 1) m (k + 1) else if t = k + 1 then dnD d (k + 1) m k else dnD d (k + 1) m t) = dnD d k m t := by
  have e1 : dnD d (k + 1) m (k + 1) = d m := by unfold dnD; rw [if_neg (by omega), if_pos rfl]
  have e2 : dnD d (k + 1) m k = d k := by unfold dnD; rw [if_neg (by omega), if_neg (by omega)]
  rw [e1, e2]
  unfold dnD
  repeat' split
  all_goals first | rfl | (congr 1; omega) | (exfalso; omega) | omega
theorem dnD_fr (d : Nat → Nat) {a k m b : Nat} (h0 : a ≤ k) (h1 : k ≤ m) (h2 : m < b) : Fr d (dnD d k m) a b := by
  refine ⟨fun i hi => ?_, fun i hi1 hi2 => ?_⟩
  · unfold dnD; rw [if_neg (by omega), if_neg (by omega)]
  · unfold dnD
    by_cases h3 : k < i ∧ i ≤ m
    · rw [if_pos h3]; exact ⟨_, by omega, by omega, rfl⟩
    · rw [if_neg h3]
      by_cases h4 : i = k
      · rw [if_pos h4]; exact ⟨m, by omega, by omega, rfl⟩
      · rw [if_neg h4]; exact ⟨i, hi1, hi2, rfl⟩
theorem dnD_srt {K : Nat → Int} {d : Nat → Nat} {a m i : Nat} (hi : a ≤ i) (him : i ≤ m) (hL : Srt K d a m) (h1 : ∀ h, a ≤ h → h < i → ltK K (d h) (d m)) (h2 : ∀ h, i ≤ h → h < m → ltK K (d m) (d h)) : Srt K (dnD d i m) a (m + 1) := fun u v hu huv hv => by
  unfold dnD
  by_cases q1 : i < v ∧ v ≤ m
  · rw [if_pos q1]
    by_cases q2 : i < u ∧ u ≤ m
    · rw [if_pos q2]; exact hL _ _ (by omega) (by omega) (by omega)
    · rw [if_neg q2]
      by_cases q3 : u = i
      · rw [if_pos q3]; exact h2 _ (by omega) (by omega)
      · rw [if_neg q3]; exact hL _ _ hu (by omega) (by omega)
  · rw [if_neg q1, if_neg (by omega : ¬ (i < u ∧ u ≤ m))]
    by_cases q3 : v = i
    · rw [if_pos q3, if_neg (by omega)]; exact h1 _ hu (by omega)
    · rw [if_neg q3, if_neg (by omega)]; exact hL _ _ hu huv (by omega)
end Go.Proofs.Ytakekdbclmgeoaa.Cl
