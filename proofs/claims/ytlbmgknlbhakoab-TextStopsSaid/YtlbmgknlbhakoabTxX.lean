import Derived.Test.YtlbmgknlbhakoabTxT
namespace Go.Proofs.Ytlbmgknlbhakoab
open Go.RowKit
/-! TextStops: where no stop ends, none stands; where one ends, it stands behind the text. -/
/-- no stop ends at a beginning of the bytes -/
def Clr (sts : List (List Int)) (t : List Int) : Prop := ∀ q, q <+: t → q ≠ [] → endN sts q = 0
/-- where the text ends -/
def Fin (sts : List (List Int)) (a u : List Int) : Prop := ∃ p, p <+: a ∧ 0 < endN sts p ∧ u = p.take (p.length - endN sts p) ∧ ∀ q, q <+: p → q ≠ [] → q ≠ p → endN sts q = 0
theorem clr_nil (sts : List (List Int)) : Clr sts [] := fun _ h h0 => absurd (List.prefix_nil.1 h) h0
theorem Fin.pre {sts : List (List Int)} {a b u : List Int} (h : Fin sts a u) (hp : a <+: b) : Fin sts b u := by
  obtain ⟨p, h1, h2⟩ := h
  exact ⟨p, h1.trans hp, h2⟩
theorem comB_fin {sts : List (List Int)} : ∀ (bs t : List Int), Clr sts t → ((comB sts t bs).2 = false → Clr sts (t ++ bs)) ∧ ((comB sts t bs).2 = true → Fin sts (t ++ bs) (comB sts t bs).1)
  | [], t, h => ⟨fun _ => by simpa using h, fun e => nomatch e⟩
  | b :: r, t, h => by
    rw [comB_cons]
    have e0 : t ++ b :: r = (t ++ [b]) ++ r := by simp
    by_cases hp : 0 < endN sts (t ++ [b])
    · rw [if_pos hp]
      refine ⟨(fun e => nomatch e), fun _ => ⟨t ++ [b], by rw [e0]; exact List.prefix_append _ _, hp, rfl, fun q hq h0 hne => ?_⟩⟩
      rcases List.prefix_concat_iff.1 hq with e | e
      · exact absurd e hne
      · exact h q e h0
    · rw [if_neg hp, e0]
      refine comB_fin r (t ++ [b]) (fun q hq h0 => ?_)
      rcases List.prefix_concat_iff.1 hq with e | e
      · rw [e]; omega
      · exact h q e h0
theorem comT_fin {d : VD} {sts : List (List Int)} : ∀ (ts : List Nat) (t : List Int), (∀ k ∈ ts, k ≠ 0) → Clr sts t → ((comT d sts t ts).2 = false → Clr sts (t ++ spl d ts)) ∧ ((comT d sts t ts).2 = true → Fin sts (t ++ spl d ts) (comT d sts t ts).1)
  | [], t, _, h => ⟨fun _ => by simpa [spl] using h, fun e => nomatch e⟩
  | k :: r, t, hz, h => by
    rw [comT_cons, if_neg (hz k (by simp))]
    obtain ⟨h1, h2⟩ := comB_fin (d.pc k) t h
    have e0 : t ++ spl d (k :: r) = (t ++ d.pc k) ++ spl d r := by simp [spl]
    by_cases hp : (comB sts t (d.pc k)).2 = true
    · rw [if_pos hp]
      refine ⟨(fun e => by rw [hp] at e; cases e), fun _ => (h2 hp).pre ?_⟩
      rw [e0]; exact List.prefix_append _ _
    · have hp' : (comB sts t (d.pc k)).2 = false := by simpa using hp
      rw [if_neg hp, e0, comB_no hp']
      exact comT_fin r _ (fun q hq => hz q (by simp [hq])) (h1 hp')
theorem endN_pos {sts : List (List Int)} {t s : List Int} (hs : s ∈ sts) (h : s <:+ t) (h0 : s ≠ []) : 0 < endN sts t := by
  have := (endN_gen t sts 0).2.1 s hs (sufB_iff.2 h)
  have h1 : 0 < s.length := List.length_pos_iff.2 h0
  have e : sts.foldl (endF t) 0 = endN sts t := rfl
  omega
/-- where no stop ends, none stands -/
theorem Clr.none {sts : List (List Int)} {t s : List Int} (h : Clr sts t) (hs : s ∈ sts) (h0 : s ≠ []) : ¬ s <:+: t := by
  rintro ⟨a, b, e⟩
  have h1 := h (a ++ s) ⟨b, e⟩ (by simp [h0])
  have h2 := endN_pos hs (List.suffix_append a s) h0
  omega
theorem Fin.text {sts : List (List Int)} {a u : List Int} (h : Fin sts a u) : Clr sts u ∧ ∃ s ∈ sts, u ++ s <+: a := by
  obtain ⟨p, h1, h2, rfl, h3⟩ := h
  refine ⟨fun q hq h0 => ?_, ?_⟩
  · refine h3 q (hq.trans (List.take_prefix _ _)) h0 (fun e => ?_)
    have := hq.length_le
    rw [e, List.length_take] at this
    have hp : 0 < p.length := by rw [← e]; exact List.length_pos_iff.2 h0
    omega
  · rcases (endN_gen p sts 0).2.2 with e | ⟨s, hs, hl, hu⟩
    · have : endN sts p = 0 := e
      omega
    · refine ⟨s, hs, ?_⟩
      have hl : s.length = endN sts p := hl
      obtain ⟨v, e⟩ := hu
      have e2 : p.take (p.length - endN sts p) = v := by rw [← hl, ← e]; simp
      rw [e2, e]; exact h1
end Go.Proofs.Ytlbmgknlbhakoab
