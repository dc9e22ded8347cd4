import Derived.Test.YtakekdbclmgeoaaClTjA
namespace Go.Proofs.Ytakekdbclmgeoaa.Cl
open Go.RowKit
/-! The reference's ways of raw nodes, as lists of tokens. -/
def gdW (p t v : Int) (i : Nat) : Prop := 1 ≤ t ∧ t < v ∧ -1 ≤ p ∧ p < (i : Int)
instance (p t v : Int) (i : Nat) : Decidable (gdW p t v i) := by unfold gdW; infer_instance
def wlF (p t : Nat → Int) (v : Int) : Nat → Nat → Option (List Int)
  | 0, _ => none
  | f + 1, i => if gdW (p i) (t i) v i then (if p i = -1 then some [t i] else (wlF p t v f (p i).toNat).map (· ++ [t i])) else none
theorem wlF_eq (p t : Nat → Int) (v : Int) : ∀ i f, i < f → wlF p t v f i = wlF p t v (i + 1) i := by
  intro i
  induction i using Nat.strongRecOn with
  | ind i ih =>
    intro f hf
    obtain ⟨g, rfl⟩ : ∃ g, f = g + 1 := ⟨f - 1, by omega⟩
    unfold wlF
    by_cases hg : gdW (p i) (t i) v i
    · rw [if_pos hg, if_pos hg]
      by_cases hp : p i = -1
      · rw [if_pos hp, if_pos hp]
      · have h4 := hg.2.2.2
        have h3 := hg.2.2.1
        rw [if_neg hp, if_neg hp, ih (p i).toNat (by omega) g (by omega), ih (p i).toNat (by omega) i (by omega)]
    · rw [if_neg hg, if_neg hg]
/-- the tokens of a node's way, if it is good -/
def wl (p t : Nat → Int) (v : Int) (i : Nat) : Option (List Int) := wlF p t v (i + 1) i
theorem wl_bad {p t : Nat → Int} {v : Int} {i : Nat} (h : ¬ gdW (p i) (t i) v i) : wl p t v i = none := by
  unfold wl wlF
  rw [if_neg h]
theorem wl_one {p t : Nat → Int} {v : Int} {i : Nat} (h : gdW (p i) (t i) v i) (hp : p i = -1) : wl p t v i = some [t i] := by
  unfold wl wlF
  rw [if_pos h, if_pos hp]
theorem wl_up {p t : Nat → Int} {v : Int} {i : Nat} (h : gdW (p i) (t i) v i) (hp : ¬ p i = -1) : wl p t v i = (wl p t v (p i).toNat).map (· ++ [t i]) := by
  have h4 := h.2.2.2
  have h3 := h.2.2.1
  unfold wl
  rw [wlF, if_pos h, if_neg hp, wlF_eq p t v (p i).toNat i (by omega)]
theorem wl_len {p t : Nat → Int} {v : Int} : ∀ i L, wl p t v i = some L → 1 ≤ L.length ∧ L.length ≤ i + 1 ∧ ∀ x ∈ L, 1 ≤ x ∧ x < v := by
  intro i
  induction i using Nat.strongRecOn with
  | ind i ih =>
    intro L e
    by_cases hg : gdW (p i) (t i) v i
    · by_cases hp : p i = -1
      · rw [wl_one hg hp] at e
        cases e
        refine ⟨by simp, by simp, fun x hx => ?_⟩
        rw [List.mem_singleton.1 hx]
        exact ⟨hg.1, hg.2.1⟩
      · rw [wl_up hg hp] at e
        obtain ⟨M, e1, rfl⟩ := Option.map_eq_some_iff.1 e
        have h4 := hg.2.2.2
        have h3 := hg.2.2.1
        obtain ⟨a1, a2, a3⟩ := ih (p i).toNat (by omega) M e1
        refine ⟨by simp, by simp; omega, fun x hx => ?_⟩
        rcases List.mem_append.1 hx with hx | hx
        · exact a3 x hx
        · rw [List.mem_singleton.1 hx]
          exact ⟨hg.1, hg.2.1⟩
    · rw [wl_bad hg] at e
      cases e
/-- a way's beginning is a way, at an earlier node -/
theorem wl_pre {p t : Nat → Int} {v : Int} {i : Nat} {L : List Int} (e : wl p t v i = some L) (h : 1 < L.length) : ∃ j, j < i ∧ wl p t v j = some L.dropLast := by
  by_cases hg : gdW (p i) (t i) v i
  · by_cases hp : p i = -1
    · rw [wl_one hg hp] at e
      cases e
      simp at h
    · rw [wl_up hg hp] at e
      obtain ⟨M, e1, rfl⟩ := Option.map_eq_some_iff.1 e
      have h4 := hg.2.2.2
      have h3 := hg.2.2.1
      exact ⟨(p i).toNat, by omega, by rw [e1]; simp⟩
  · rw [wl_bad hg] at e
    cases e
/-- one node of the search for ways -/
def wsN (p t : Nat → Int) (v : Int) (d : Nat) (WS : List (List Int)) (i : Nat) : List (List Int) :=
  match wl p t v i with
  | some L => if L.length = d ∧ L ∉ WS then WS ++ [L] else WS
  | none => WS
def wsR (p t : Nat → Int) (v : Int) (d : Nat) (WS : List (List Int)) : Nat → List (List Int)
  | 0 => WS
  | i + 1 => wsN p t v d (wsR p t v d WS i) i
/-- the ways of depths 1 to d -/
def wsD (p t : Nat → Int) (v : Int) (n : Nat) : Nat → List (List Int)
  | 0 => []
  | d + 1 => wsR p t v (d + 1) (wsD p t v n d) n
theorem wsN_new {p t : Nat → Int} {v : Int} {d : Nat} {WS : List (List Int)} {i : Nat} {L : List Int} (e : wl p t v i = some L) (h1 : L.length = d) (h2 : L ∉ WS) : wsN p t v d WS i = WS ++ [L] := by
  unfold wsN
  rw [e]
  exact if_pos ⟨h1, h2⟩
theorem wsN_old {p t : Nat → Int} {v : Int} {d : Nat} {WS : List (List Int)} {i : Nat} (h : ∀ L, wl p t v i = some L → L.length = d → L ∈ WS) : wsN p t v d WS i = WS := by
  unfold wsN
  cases e : wl p t v i with
  | none => rfl
  | some L =>
    show (if _ then _ else _) = _
    rw [if_neg]
    rintro ⟨h1, h2⟩
    exact h2 (h L e h1)
/-- what a list of ways keeps while depth d is gathered -/
structure WsOk (p t : Nat → Int) (v : Int) (n d : Nat) (WS : List (List Int)) : Prop where
  some_ : ∀ L ∈ WS, ∃ i, i < n ∧ wl p t v i = some L
  le : ∀ L ∈ WS, L.length ≤ d
  nodup : WS.Nodup
  up : WS.Pairwise (fun a b => a.length ≤ b.length)
  all : ∀ i, i < n → ∀ L, wl p t v i = some L → L.length < d → L ∈ WS
  pre : ∀ k (h : k < WS.length), 1 < (WS[k]).length → ∃ j, ∃ h' : j < k, (WS[j]'(by omega)) = (WS[k]).dropLast
theorem WsOk.next {p t : Nat → Int} {v : Int} {n d : Nat} {WS : List (List Int)} (h : WsOk p t v n d WS) {i : Nat} (hi : i < n) : WsOk p t v n d (wsN p t v d WS i) := by
  cases e : wl p t v i with
  | none => rw [wsN_old (fun L q => by rw [e] at q; cases q)]; exact h
  | some L =>
    by_cases hc : L.length = d ∧ L ∉ WS
    · rw [wsN_new e hc.1 hc.2]
      refine ⟨fun M hM => ?_, fun M hM => ?_, ?_, ?_, fun j hj M q hl => List.mem_append_left _ (h.all j hj M q hl), fun k hk hl => ?_⟩
      · rcases List.mem_append.1 hM with hM | hM
        · exact h.some_ M hM
        · rw [List.mem_singleton.1 hM]; exact ⟨i, hi, e⟩
      · rcases List.mem_append.1 hM with hM | hM
        · exact h.le M hM
        · rw [List.mem_singleton.1 hM]; omega
      · rw [List.nodup_append]
        refine ⟨h.nodup, by simp, fun a ha b hb q => ?_⟩
        rw [List.mem_singleton.1 hb] at q
        exact hc.2 (q ▸ ha)
      · rw [List.pairwise_append]
        refine ⟨h.up, by simp, fun a ha b hb => ?_⟩
        rw [List.mem_singleton.1 hb, hc.1]
        exact h.le a ha
      · by_cases hkk : k < WS.length
        · rw [List.getElem_append_left hkk] at hl ⊢
          obtain ⟨j, hj, q⟩ := h.pre k hkk hl
          exact ⟨j, hj, by rw [List.getElem_append_left (by omega)]; exact q⟩
        · have hk2 : k = WS.length := by simp at hk; omega
          subst hk2
          have e9 : (WS ++ [L])[WS.length] = L := by simp
          rw [e9] at hl ⊢
          obtain ⟨j, hj, q⟩ := wl_pre e hl
          have hm := h.all j (by omega) L.dropLast q (by simp; omega)
          obtain ⟨z, hz, qz⟩ := List.getElem_of_mem hm
          exact ⟨z, hz, by rw [List.getElem_append_left hz]; exact qz⟩
    · rw [wsN_old (fun M q hl => by rw [e] at q; cases q; exact Classical.byContradiction fun hn => hc ⟨hl, hn⟩)]
      exact h
theorem wsR_mono {p t : Nat → Int} {v : Int} {d : Nat} {WS : List (List Int)} {L : List Int} : ∀ i, L ∈ wsN p t v d WS i ∨ L ∉ WS := by
  intro i
  by_cases h : L ∈ WS
  · left
    unfold wsN
    cases wl p t v i with
    | none => exact h
    | some M =>
      show L ∈ (if _ then _ else _)
      split
      · exact List.mem_append_left _ h
      · exact h
  · exact .inr h
theorem wsR_ok {p t : Nat → Int} {v : Int} {n d : Nat} {WS : List (List Int)} (h : WsOk p t v n d WS) : ∀ i, i ≤ n → WsOk p t v n d (wsR p t v d WS i) ∧ ∀ j, j < i → ∀ L, wl p t v j = some L → L.length = d → L ∈ wsR p t v d WS i := by
  intro i
  induction i with
  | zero => intro _; exact ⟨h, fun j hj => absurd hj (by omega)⟩
  | succ i ih =>
    intro hi
    obtain ⟨a, b⟩ := ih (by omega)
    refine ⟨a.next (by omega), fun j hj L q hl => ?_⟩
    show L ∈ wsN p t v d (wsR p t v d WS i) i
    by_cases e : j = i
    · subst e
      by_cases hm : L ∈ wsR p t v d WS j
      · exact (wsR_mono j).resolve_right (fun q => q hm)
      · rw [wsN_new q hl hm]; simp
    · exact (wsR_mono i).resolve_right (fun q' => q' (b j (by omega) L q hl))
theorem wsD_ok (p t : Nat → Int) (v : Int) (n : Nat) : ∀ d, WsOk p t v n (d + 1) (wsD p t v n d) := by
  intro d
  induction d with
  | zero => exact ⟨fun L h => absurd h (by simp [wsD]), fun L h => absurd h (by simp [wsD]), List.nodup_nil, List.Pairwise.nil, fun i _ L q hl => absurd hl (by have := (wl_len i L q).1; omega), fun k h => absurd h (by simp [wsD])⟩
  | succ d ih =>
    obtain ⟨a, b⟩ := wsR_ok ih n (Nat.le_refl _)
    refine ⟨a.some_, fun L hL => Nat.le_succ_of_le (a.le L hL), a.nodup, a.up, fun i hi L q hl => ?_, a.pre⟩
    by_cases e : L.length = d + 1
    · exact b i hi L q e
    · exact a.all i hi L q (by omega)
end Go.Proofs.Ytakekdbclmgeoaa.Cl
