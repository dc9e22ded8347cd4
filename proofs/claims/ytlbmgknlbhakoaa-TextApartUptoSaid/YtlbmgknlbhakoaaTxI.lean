import Derived.Test.YtlbmgknlbhakoaaTxH
namespace Go.Proofs.Ytlbmgknlbhakoaa
open Go.RowKit
/-! Feed of tokens one behind the other: in one call or in two. -/
def spl (d : VD) (ts : List Nat) : List Int := ts.flatMap d.pc
theorem comB_no {sts : List (List Int)} : ∀ {bs t : List Int}, (comB sts t bs).2 = false → (comB sts t bs).1 = t ++ bs
  | [], t, _ => by simp [comB]
  | b :: r, t, h => by
    unfold comB at h ⊢
    split at h
    · cases h
    · rename_i hn
      rw [if_neg hn, comB_no h]; simp
theorem comT_no {d : VD} {sts : List (List Int)} : ∀ {ts : List Nat} {t : List Int}, (comT d sts t ts).2 = false → (comT d sts t ts).1 = t ++ spl d ts
  | [], t, _ => by simp [comT, spl]
  | k :: r, t, h => by
    unfold comT at h ⊢
    split at h
    · cases h
    · rename_i hk
      rw [if_neg hk]
      split at h
      · rename_i h2; rw [h] at h2; cases h2
      · rename_i h2
        rw [if_neg h2, comT_no h, comB_no (by simpa using h2)]; simp [spl]
theorem comB_pre {sts : List (List Int)} : ∀ (bs t : List Int), (comB sts t bs).1 <+: t ++ bs
  | [], t => by simp [comB]
  | b :: r, t => by
    unfold comB
    split
    · exact (List.take_prefix _ _).trans (by simp)
    · have := comB_pre (sts := sts) r (t ++ [b])
      simpa using this
theorem comT_pre {d : VD} {sts : List (List Int)} : ∀ (ts : List Nat) (t : List Int), (comT d sts t ts).1 <+: t ++ spl d ts
  | [], t => by simp [comT, spl]
  | k :: r, t => by
    unfold comT
    split
    · exact List.prefix_append _ _
    · split
      · refine (comB_pre (d.pc k) t).trans ?_
        simp [spl]
      · rename_i h2
        have := comT_pre (d := d) (sts := sts) r (comB sts t (d.pc k)).1
        rw [comB_no (by simpa using h2)] at this ⊢
        simpa [spl] using this
theorem byt_pre {a b : List Int} (h : a <+: b) (hb : Byt b) : Byt a := by
  obtain ⟨c, rfl⟩ := h; exact hb.left
theorem byt_spl {d : VD} (hd : ∀ k, Byt (d.pc k)) (ts : List Nat) : Byt (spl d ts) := fun x hx => by
  obtain ⟨k, _, hk⟩ := List.mem_flatMap.1 hx
  exact hd k x hk
theorem comT_cons (d : VD) (sts : List (List Int)) (t : List Int) (k : Nat) (r : List Nat) : comT d sts t (k :: r) = if k = 0 then (t, true) else if (comB sts t (d.pc k)).2 then comB sts t (d.pc k) else comT d sts (comB sts t (d.pc k)).1 r := rfl
theorem comT_app {d : VD} {sts : List (List Int)} : ∀ (a b : List Nat) (t : List Int), comT d sts t (a ++ b) = if (comT d sts t a).2 then comT d sts t a else comT d sts (comT d sts t a).1 b
  | [], b, t => by simp [comT]
  | k :: r, b, t => by
    rw [List.cons_append, comT_cons, comT_cons]
    by_cases hk : k = 0
    · simp [hk]
    · rw [if_neg hk, if_neg hk]
      by_cases h2 : (comB sts t (d.pc k)).2 = true
      · simp [h2]
      · rw [if_neg h2, if_neg h2]
        exact comT_app r b _
theorem comB_cut {sts : List (List Int)} (o : List Int) : ∀ (bs y : List Int), Byt bs → (∀ b, Byt b → b ≠ [] → endN sts (o ++ y ++ b) = endN sts (y ++ b)) → comB sts (o ++ y) bs = (o ++ (comB sts y bs).1, (comB sts y bs).2)
  | [], y, _, _ => by simp [comB]
  | c :: r, y, hB, H => by
    have e := H [c] (fun x hx => hB x (by simp at hx; simp [hx])) (by simp)
    unfold comB
    rw [e]
    by_cases h0 : 0 < endN sts (y ++ [c])
    · rw [if_pos h0, if_pos h0]
      have hl := endN_len sts (y ++ [c])
      refine Prod.ext ?_ rfl
      dsimp only
      rw [List.append_assoc, List.take_append, List.take_of_length_le (by simp at hl ⊢; omega)]
      congr 2
      simp at hl ⊢; omega
    · rw [if_neg h0, if_neg h0, List.append_assoc]
      exact comB_cut o r (y ++ [c]) (fun x hx => hB x (by simp [hx])) (fun b hb hne => by
        have := H ([c] ++ b) ((show Byt [c] from fun x hx => hB x (by simp at hx; simp [hx])).app hb) (by simp)
        simpa using this)
theorem comT_cut {d : VD} {sts : List (List Int)} (hd : ∀ k, Byt (d.pc k)) (o : List Int) : ∀ (ts : List Nat) (y : List Int), (∀ b, Byt b → b ≠ [] → endN sts (o ++ y ++ b) = endN sts (y ++ b)) → comT d sts (o ++ y) ts = (o ++ (comT d sts y ts).1, (comT d sts y ts).2)
  | [], y, _ => by simp [comT]
  | k :: r, y, H => by
    have e := comB_cut o (d.pc k) y (hd k) H
    unfold comT
    rw [e]
    by_cases hk : k = 0
    · simp [hk]
    · rw [if_neg hk, if_neg hk]
      dsimp only
      by_cases h2 : (comB sts y (d.pc k)).2 = true
      · rw [if_pos h2, if_pos h2]
      · rw [if_neg h2, if_neg h2]
        refine comT_cut hd o r _ (fun b hb hne => ?_)
        rw [comB_no (by simpa using h2)]
        have := H (d.pc k ++ b) ((hd k).app hb) (by simp [hne])
        simpa using this
/-- a stream as it may be between two calls -/
def Stl (sts : List (List Int)) (x : List Int) (o : Bool) : Prop := if o then x = [] else waN sts x = x.length ∧ Byt x
theorem stl_start (sts : List (List Int)) : Stl sts [] false := ⟨by have := waN_len sts []; simp at this; simpa using this, byt_nil⟩
theorem stl_byt {sts : List (List Int)} {x : List Int} {o : Bool} (h : Stl sts x o) : Byt x := by
  cases o with
  | true => have h : x = [] := h
            rw [h]; exact byt_nil
  | false => exact h.2
theorem fd_stl {d : VD} {sts : List (List Int)} (hd : ∀ k, Byt (d.pc k)) {x : List Int} {o : Bool} (h : Stl sts x o) (a : List Nat) : Stl sts (fdX d sts x o a) (fdE d sts x o a) := by
  unfold fdX fdE
  cases o with
  | true => exact h
  | false =>
    have hx : waN sts x = x.length ∧ Byt x := h
    simp only [Bool.false_eq_true, if_false]
    have hb : Byt (comT d sts x a).1 := byt_pre (comT_pre a x) (hx.2.app (byt_spl hd a))
    unfold gvN
    by_cases hp : (comT d sts x a).2 = true
    · rw [hp]; simp [Stl]
    · have hp' : (comT d sts x a).2 = false := by simpa using hp
      rw [hp']
      refine ⟨?_, hb.drop _⟩
      simp only [Bool.false_eq_true, if_false]
      have hc := (cut_of (sts := sts) hb rfl [] byt_nil).2
      simp only [List.append_nil] at hc
      rw [← hc, List.length_drop]
      have := waN_len sts (comT d sts x a).1
      omega
theorem fd_app {d : VD} {sts : List (List Int)} (hd : ∀ k, Byt (d.pc k)) {x : List Int} {o : Bool} (h : Stl sts x o) (a b : List Nat) :
    fdO d sts x o (a ++ b) = fdO d sts x o a ++ fdO d sts (fdX d sts x o a) (fdE d sts x o a) b ∧
    fdX d sts x o (a ++ b) = fdX d sts (fdX d sts x o a) (fdE d sts x o a) b ∧
    fdE d sts x o (a ++ b) = fdE d sts (fdX d sts x o a) (fdE d sts x o a) b := by
  cases o with
  | true => simp [fdO, fdX, fdE]
  | false =>
    have hx : waN sts x = x.length ∧ Byt x := h
    have hb : Byt (comT d sts x a).1 := byt_pre (comT_pre a x) (hx.2.app (byt_spl hd a))
    by_cases hp : (comT d sts x a).2 = true
    · simp [fdO, fdX, fdE, comT_app, hp, gvN]
    · have hp' : (comT d sts x a).2 = false := by simpa using hp
      obtain ⟨t, et⟩ : ∃ t, t = (comT d sts x a).1 := ⟨_, rfl⟩
      rw [← et] at hb
      have hw := waN_len sts t
      have hcut := fun b hb' => cut_of (sts := sts) (t := t) hb (g := t.length - waN sts t) rfl b hb'
      have eo : fdO d sts x false a = t.take (t.length - waN sts t) := by simp [fdO, gvN, hp', ← et]
      have ex : fdX d sts x false a = t.drop (t.length - waN sts t) := by simp [fdX, gvN, hp', ← et]
      have ee : fdE d sts x false a = false := by simp [fdE, hp']
      have etd : t = t.take (t.length - waN sts t) ++ t.drop (t.length - waN sts t) := (List.take_append_drop _ t).symm
      have eC : comT d sts x (a ++ b) = comT d sts t b := by rw [comT_app, hp', ← et]; simp
      have eK : comT d sts t b = (t.take (t.length - waN sts t) ++ (comT d sts (t.drop (t.length - waN sts t)) b).1, (comT d sts (t.drop (t.length - waN sts t)) b).2) := by
        conv => lhs; rw [etd]
        exact comT_cut hd _ b _ (fun c hc hne => by rw [← etd]; exact (hcut c hc).1 hne)
      rw [eo, ex, ee]
      have hg : gvN sts (comT d sts t b) = (t.take (t.length - waN sts t)).length + gvN sts (comT d sts (t.drop (t.length - waN sts t)) b) := by
        obtain ⟨q, eq⟩ : ∃ q, q = comT d sts (t.drop (t.length - waN sts t)) b := ⟨_, rfl⟩
        rw [eK, ← eq]
        unfold gvN
        dsimp only
        by_cases hq : q.2 = true
        · rw [hq]; simp
        · have hq' : q.2 = false := by simpa using hq
          have e1 : q.1 = t.drop (t.length - waN sts t) ++ spl d b := by rw [eq]; exact comT_no (by rw [← eq]; exact hq')
          have e2 : waN sts (t.take (t.length - waN sts t) ++ q.1) = waN sts q.1 := by
            have := (hcut (spl d b) (byt_spl hd b)).2
            rw [e1, ← List.append_assoc, ← etd, this]
          have := waN_len sts q.1
          rw [hq', e2]
          simp only [Bool.false_eq_true, if_false, List.length_append]
          omega
      refine ⟨?_, ?_, ?_⟩
      · unfold fdO
        rw [eC, hg, eK]
        simp only [Bool.false_eq_true, if_false]
        rw [List.take_append, List.take_of_length_le (by omega)]
        congr 2; omega
      · unfold fdX
        rw [eC, hg, eK]
        simp only [Bool.false_eq_true, if_false]
        rw [List.drop_append, List.drop_of_length_le (by omega), List.nil_append]
        congr 1; omega
      · unfold fdE
        rw [eC, eK]
/-- what has come out and what waits is what came -/
theorem fd_all {d : VD} {sts : List (List Int)} {x : List Int} (a : List Nat) (h : fdE d sts x false a = false) : fdO d sts x false a ++ fdX d sts x false a = x ++ spl d a := by
  have h2 : (comT d sts x a).2 = false := by simpa [fdE] using h
  simp only [fdO, fdX, Bool.false_eq_true, if_false]
  rw [List.take_append_drop, comT_no h2]
end Go.Proofs.Ytlbmgknlbhakoaa
