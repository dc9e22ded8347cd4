import Derived.Test.YtlbmgknlbhakoaaTxN
namespace Go.Proofs.Ytlbmgknlbhakoaa
open Go.RowKit
/-! What has been given out hangs on what came alone. -/
theorem suf_of_suf {s a b : List Int} (h : s <:+ a ++ b) (hl : s.length ≤ b.length) : s <:+ b := by
  obtain ⟨u, hu⟩ := h
  refine ⟨b.take (b.length - s.length), ?_⟩
  have e : (a ++ b).drop ((a ++ b).length - s.length) = s := by rw [← hu]; simp
  rw [List.length_append, show a.length + b.length - s.length = a.length + (b.length - s.length) by omega, List.drop_append] at e
  rw [List.drop_of_length_le (by omega), List.nil_append, show a.length + (b.length - s.length) - a.length = b.length - s.length by omega] at e
  conv => lhs; rhs; rw [← e]
  rw [List.take_append_drop]
theorem suf_app {s b : List Int} (a : List Int) (h : s <:+ b) : s <:+ a ++ b := h.trans (List.suffix_append a b)
/-- a suffix of t ++ b that is longer than b: its beginning ends t -/
theorem suf_cut {s t b : List Int} (h : s <:+ t ++ b) (hl : b.length ≤ s.length) : s.take (s.length - b.length) <:+ t ∧ s = s.take (s.length - b.length) ++ b := by
  obtain ⟨u, hu⟩ := h
  have hlen : u.length + s.length = t.length + b.length := by rw [← List.length_append, hu, List.length_append]
  have e1 : (u ++ s).take t.length = t := by rw [hu]; simp
  have e2 : (u ++ s).drop t.length = b := by rw [hu]; simp
  rw [List.take_append, List.take_of_length_le (by omega), show t.length - u.length = s.length - b.length by omega] at e1
  rw [List.drop_append, List.drop_of_length_le (by omega), List.nil_append, show t.length - u.length = s.length - b.length by omega] at e2
  refine ⟨⟨u, e1⟩, ?_⟩
  conv => lhs; rw [← List.take_append_drop (s.length - b.length) s]
  rw [e2]
/-- what is left of t when its last but waN are given out -/
structure Cut (sts : List (List Int)) (o x : List Int) : Prop where
  en : ∀ b, b ≠ [] → endN sts (o ++ x ++ b) = endN sts (x ++ b)
  wa : ∀ b, waN sts (o ++ x ++ b) = waN sts (x ++ b)
theorem bgn_cut {sts : List (List Int)} {t x o : List Int} (ht : t = o ++ x) (hx : begN sts t ≤ x.length) (b : List Int) (n : Nat) : Bgn sts (t ++ b) n ↔ Bgn sts (x ++ b) n := by
  constructor
  · rintro ⟨s, hs, hn, hu⟩
    refine ⟨s, hs, hn, ?_⟩
    subst ht
    have hlen : (s.take n).length = n := by simp; omega
    refine suf_of_suf (a := o) (by rw [← List.append_assoc]; exact hu) ?_
    rw [hlen, List.length_append]
    by_cases hb : n ≤ b.length
    · omega
    · obtain ⟨h1, _⟩ := suf_cut hu (by rw [hlen]; omega)
      rw [hlen, List.take_take, Nat.min_eq_left (by omega)] at h1
      have := begN_le (sts := sts) (t := o ++ x) (n := n - b.length) ⟨s, hs, by omega, h1⟩
      omega
  · rintro ⟨s, hs, hn, hu⟩
    exact ⟨s, hs, hn, by subst ht; rw [List.append_assoc]; exact suf_app o hu⟩
theorem begN_grow (sts : List (List Int)) (t b : List Int) : begN sts (t ++ b) ≤ begN sts t + b.length := by
  rcases begN_at sts (t ++ b) with h | ⟨s, hs, hn, hu⟩
  · omega
  · by_cases hb : begN sts (t ++ b) ≤ b.length
    · omega
    · have hlen : (s.take (begN sts (t ++ b))).length = begN sts (t ++ b) := by simp; omega
      obtain ⟨h1, _⟩ := suf_cut hu (by rw [hlen]; omega)
      rw [hlen, List.take_take, Nat.min_eq_left (by omega)] at h1
      have := begN_le (sts := sts) (t := t) (n := begN sts (t ++ b) - b.length) ⟨s, hs, by omega, h1⟩
      omega
theorem take_drop_mid (l : List Int) (p m n : Nat) (h : p + m ≤ n) : ((l.take n).drop p).take m = (l.drop p).take m := by
  rw [List.drop_take, List.take_take, Nat.min_eq_left (by omega)]
theorem cut_of {sts : List (List Int)} {t : List Int} (hB : Byt t) {g : Nat} (hg : g = t.length - waN sts t) (b : List Int) (hb : Byt b) : (b ≠ [] → endN sts (t ++ b) = endN sts (t.drop g ++ b)) ∧ waN sts (t ++ b) = waN sts (t.drop g ++ b) := by
  have hw := waN_len sts t
  have hbl := begN_len sts t
  have ht : t = t.take g ++ t.drop g := (List.take_append_drop g t).symm
  have hxl : (t.drop g).length = waN sts t := by rw [List.length_drop]; omega
  have hbw : begN sts t ≤ waN sts t := by unfold waN; omega
  refine ⟨fun hne => ?_, ?_⟩
  · refine endN_eq fun s hs => ⟨fun hu => ?_, fun hu => ?_⟩
    · refine suf_of_suf (a := t.take g) (by rw [← List.append_assoc, ← ht]; exact hu) ?_
      rw [List.length_append, hxl]
      have hb1 : 1 ≤ b.length := by cases b with
        | nil => exact absurd rfl hne
        | cons _ _ => simp
      by_cases hl : s.length ≤ b.length
      · omega
      · obtain ⟨h1, _⟩ := suf_cut hu (by omega)
        have := begN_le (sts := sts) (t := t) (n := s.length - b.length) ⟨s, hs, by omega, h1⟩
        omega
    · conv => rhs; lhs; rw [ht]
      rw [List.append_assoc]; exact suf_app _ hu
  · have eb : begN sts (t ++ b) = begN sts (t.drop g ++ b) := begN_eq fun n => bgn_cut ht (by rw [hxl]; exact hbw) b n
    have hgrow := begN_grow sts t b
    have hbl2 := begN_len sts (t.drop g ++ b)
    rw [List.length_append, hxl] at hbl2
    unfold waN
    rw [← eb]
    obtain ⟨h, eh⟩ : ∃ h, h = begN sts (t ++ b) := ⟨_, rfl⟩
    rw [← eh] at hgrow eb ⊢
    have key : runeN ((t ++ b).take ((t ++ b).length - h)) = runeN ((t.drop g ++ b).take ((t.drop g ++ b).length - h)) := by
      obtain ⟨y', ey'⟩ : ∃ y', y' = (t.drop g ++ b).take ((t.drop g ++ b).length - h) := ⟨_, rfl⟩
      have ey : (t ++ b).take ((t ++ b).length - h) = t.take g ++ y' := by
        rw [ey']
        conv => lhs; arg 2; lhs; rw [ht]
        rw [List.append_assoc, List.take_append, List.take_of_length_le (by simp; omega)]
        congr 2
        simp; omega
      have hyl : y'.length = waN sts t + b.length - h := by rw [ey', List.length_take, List.length_append, hxl]; omega
      rw [← ey', ey]
      have hgl : (t.take g).length = g := by simp; omega
      have bz : Byt (t ++ b) := hB.app hb
      -- both have the same last bytes up to what y' has; a rune's beginning never begins ahead of y'
      have same : ∀ k, k ≤ y'.length → (t.take g ++ y').drop ((t.take g ++ y').length - k) = y'.drop (y'.length - k) := fun k hk => by
        rw [List.length_append, show (t.take g).length + y'.length - k = (t.take g).length + (y'.length - k) by omega, List.drop_append, List.drop_of_length_le (by omega), List.nil_append]
        congr 1; omega
      have le1 : runeN y' ≤ runeN (t.take g ++ y') := by
        unfold runeN
        rcases runD_at y' (min 3 y'.length) with e | ⟨e1, e2⟩
        · rw [e]; omega
        · refine runD_hi _ _ _ (by rw [List.length_append]; omega) ?_
          rw [same _ (by omega)]; exact e2
      have le2 : runeN (t.take g ++ y') ≤ runeN y' := by
        obtain ⟨r, er⟩ : ∃ r, r = runeN (t.take g ++ y') := ⟨_, rfl⟩
        have hr3 := runeN_le (t.take g ++ y')
        rw [← er] at hr3 ⊢
        by_cases hr0 : r = 0
        · omega
        have hrB : runeB ((t.take g ++ y').drop ((t.take g ++ y').length - r)) = true := by
          rcases runD_at (t.take g ++ y') (min 3 (t.take g ++ y').length) with e | ⟨_, e2⟩
          · have : r = 0 := er.trans e
            omega
          · rw [er]; exact e2
        by_cases hin : r ≤ y'.length
        · rw [same r hin] at hrB
          unfold runeN
          exact runD_hi _ _ _ (by omega) hrB
        · exfalso
          -- it begins ahead of g: then it was seen at t's own end
          obtain ⟨q1, eq1⟩ : ∃ q1, q1 = t.length - begN sts t := ⟨_, rfl⟩
          have hwd : waN sts t = begN sts t + runeN (t.take q1) := by rw [eq1]; rfl
          have hrl := (runeN_le (t.take q1)).2
          rw [List.length_take] at hrl
          rw [List.length_append, hgl] at hrB hr3
          have p0 : g + y'.length - r < g := by omega
          have q0 : g ≤ q1 := by omega
          have qy : q1 ≤ g + y'.length := by omega
          -- the bytes from p to q1
          have eA : (t.take g ++ y').drop (g + y'.length - r) = ((t.take q1).drop (g + y'.length - r)) ++ ((t.take g ++ y').drop q1) := by
            have e1 : (t.take g ++ y').take q1 = t.take q1 := by
              rw [← ey, List.take_take, Nat.min_eq_left (by rw [List.length_append]; omega), List.take_append, show q1 - t.length = 0 by omega]; simp
            conv => lhs; arg 2; rw [← List.take_append_drop q1 (t.take g ++ y'), e1]
            rw [List.drop_append, List.length_take, Nat.min_eq_left (by omega), show g + y'.length - r - q1 = 0 by omega, List.drop_zero]
          rw [eA] at hrB
          have hbA : Byt ((t.take q1).drop (g + y'.length - r) ++ (t.take g ++ y').drop q1) := by rw [← eA, ← ey]; exact (bz.take _).drop _
          have hneA : (t.take q1).drop (g + y'.length - r) ≠ [] := fun e => by
            have := congrArg List.length e
            simp at this; omega
          have hA := runeB_pre hbA hneA hrB
          have hlA : ((t.take q1).drop (g + y'.length - r)) = (t.take q1).drop ((t.take q1).length - (q1 - (g + y'.length - r))) := by
            congr 1; rw [List.length_take]; omega
          rw [hlA] at hA
          have := runD_hi (t.take q1) (min 3 (t.take q1).length) (q1 - (g + y'.length - r)) (by rw [List.length_take]; omega) hA
          have : q1 - (g + y'.length - r) ≤ runeN (t.take q1) := this
          omega
      omega
    rw [key]
end Go.Proofs.Ytlbmgknlbhakoaa
