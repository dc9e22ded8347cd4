import Derived.Test.YtlbmgknlbhakoaaTxL
namespace Go.Proofs.Ytlbmgknlbhakoaa
open Go.RowKit
/-! Several streams, and lists of bytes beside them. -/
def pt {α : Type} (f : Nat → α) (i : Nat) (x : α) : Nat → α := fun j => if j = i then x else f j
theorem pt_at {α : Type} (f : Nat → α) (i : Nat) (x : α) : pt f i x i = x := if_pos rfl
theorem pt_ne {α : Type} (f : Nat → α) {i j : Nat} (x : α) (h : j ≠ i) : pt f i x j = f j := if_neg h
theorem feed_any2 {w : World} {S : Nat} {K : Nat → Prop} {d : VD} {sts : List (List Int)} {wv : Value} {x : List Int} {o : Bool} (hC : Cst d sts) (hS : StA w S K d sts wv x o) (st : Stl sts x o)
    {ko : Option Addr} {ck n : Nat} {ts : List Nat} (en : ts.length = n) (hk : RdA w ko 1 n ck (fun i => .int .i64 ((ts.getD i 0 : Nat) : Int))) (hko : ∀ b off, ko = some ⟨b, off, none⟩ → wv.ownBlock ≠ some b ∧ b ≠ S) (hgd : ∀ i, i < n → ts.getD i 0 < d.nb + 1 + d.np) (hn : n ≤ 2147483700) :
    Calls Try.prog 12 #[.pointer (some ⟨S, 0, none⟩), .slice ko n ck] w fun e w' => ∃ v, e = .returned (.tuple #[v, .int .i64 0]) ∧ Fed w S K d sts wv x o ts v w' ∧ (o = true → v = .slice none 0 0) := by
  cases o with
  | true =>
    subst en
    refine (feed_over hC hS hk hgd hn).mono ?_
    rintro e w' ⟨rfl, rfl⟩
    exact ⟨_, rfl, ⟨by simpa [fdO] using ownB_nil _ _, fun b hb => by simp [Value.ownBlock] at hb, ⟨wv, by simpa [fdX, fdE] using hS, fun _ => rfl, fun h => nomatch h⟩, Chg.refl _ _⟩, fun _ => rfl⟩
  | false =>
    refine (feed_any hC hS st en hk hko hgd hn).mono ?_
    rintro e w' ⟨v, rfl, h⟩
    exact ⟨v, rfl, h, fun h => nomatch h⟩
structure Fam (w0 : World) (M N : Nat) (S : Nat → Nat) (K : Nat → Nat → Prop) (d : VD) (sts : Nat → List (List Int)) (V : Nat → Value) (L : Nat → List Int) (O : Nat → Bool) (wX : World) : Prop where
  mn : M ≤ N
  st : ∀ j, j < M → StP wX (S j) (K j) d (sts j) (V j) (O j)
  own : ∀ i, i < N → OwnB wX 0 (V i) (L i)
  lo : ∀ i, i < N → ∀ b, (V i).ownBlock = some b → w0.heap.size ≤ b
  off : ∀ i j, i < N → j < N → i ≠ j → ∀ b, (V i).ownBlock = some b → (V j).ownBlock ≠ some b
  sl : ∀ j, j < M → S j < w0.heap.size
  sd : ∀ i j, i < M → j < M → i ≠ j → S i ≠ S j
  kl : ∀ j b, j < M → K j b → b < w0.heap.size ∧ ∀ i, i < M → b ≠ S i
  chg : Chg w0 wX (fun b => ∃ j, j < M ∧ b = S j)
section
variable {w0 wX wY : World} {M N : Nat} {S : Nat → Nat} {K : Nat → Nat → Prop} {d : VD} {sts : Nat → List (List Int)} {V : Nat → Value} {L : Nat → List Int} {O : Nat → Bool}
theorem Fam.sta (h : Fam w0 M N S K d sts V L O wX) {j : Nat} (hj : j < M) : StA wX (S j) (K j) d (sts j) (V j) (L j) (O j) :=
  ⟨h.st j hj, h.own j (Nat.lt_of_lt_of_le hj h.mn), fun b hb hk => by
    have := h.lo j (Nat.lt_of_lt_of_le hj h.mn) b hb
    have := (h.kl j b hj hk).1
    omega, fun e => by
    have := h.lo j (Nat.lt_of_lt_of_le hj h.mn) _ e
    have := h.sl j hj
    omega⟩
theorem Fam.fresh (h : Fam w0 M N S K d sts V L O wX) (f : Below wX.heap.size wX wY) : Fam w0 M N S K d sts V L O wY :=
  ⟨h.mn, fun j hj => (h.st j hj).fresh f, fun i hi => Own.kept (h.own i hi) f, h.lo, h.off, h.sl, h.sd, h.kl, h.chg.post f⟩
/-- what lies below the first world stays, but the streams' own blocks -/
theorem Fam.rd (h : Fam w0 M N S K d sts V L O wX) {ao : Option Addr} {n cap : Nat} {f : Nat → Value} (hr : RdA w0 ao 1 n cap f) (hS : ∀ b off, ao = some ⟨b, off, none⟩ → ∀ j, j < M → b ≠ S j) : RdA wX ao 1 n cap f :=
  ⟨hr.le, hr.top, fun h0 => by
    obtain ⟨b, off, e, hc⟩ := hr.at_ h0
    exact ⟨b, off, e, fun i hi => h.chg.cell (hc i hi) (fun ⟨j, hj, e2⟩ => hS b off e j hj e2)⟩⟩
theorem Fam.size (h : Fam w0 M N S K d sts V L O wX) : w0.heap.size ≤ wX.heap.size := h.chg.size
theorem Fam.lt (h : Fam w0 M N S K d sts V L O wX) {i : Nat} (hi : i < N) {b : Nat} (hb : (V i).ownBlock = some b) : b < wX.heap.size := (Own.lt (h.own i hi) b hb).2
/-- A Feed of one of the streams. -/
theorem Fam.feed (h : Fam w0 M N S K d sts V L O wX) {j : Nat} (hj : j < M) {ts : List Nat} {v : Value} (f : Fed wX (S j) (K j) d (sts j) (V j) (L j) (O j) ts v wY) (ho : O j = true → v = .slice none 0 0) :
    ∃ wv, Fam w0 M N S K d sts (pt V j wv) (pt L j (fdX d (sts j) (L j) (O j) ts)) (pt O j (fdE d (sts j) (L j) (O j) ts)) wY ∧ OwnB wY 0 v (fdO d (sts j) (L j) (O j) ts) ∧ (∀ i, i < N → ∀ b, (pt V j wv i).ownBlock = some b → v.ownBlock ≠ some b) := by
  obtain ⟨wv, hS, h1, h2⟩ := f.st
  have hjN := Nat.lt_of_lt_of_le hj h.mn
  have hsz := h.size
  have new : ∀ b, wv.ownBlock = some b → (V j).ownBlock = some b ∨ wX.heap.size ≤ b := fun b hb => by
    cases ho' : O j with
    | true => exact .inl (by rw [← h1 ho']; exact hb)
    | false => exact .inr (h2 ho' b hb).1
  have oth : ∀ i, i < N → i ≠ j → ∀ b, (V i).ownBlock = some b → ¬ (b = S j ∨ (V j).ownBlock = some b) := fun i hi hne b hb e => by
    rcases e with e | e
    · have := h.lo i hi b hb
      have := h.sl j hj
      omega
    · exact h.off i j hi hjN hne b hb e
  refine ⟨wv, ⟨h.mn, fun i hi => ?_, fun i hi => ?_, fun i hi b hb => ?_, fun i k hi hk hne b hb => ?_, h.sl, h.sd, h.kl, ?_⟩, f.out, fun i hi b hb e => ?_⟩
  · by_cases e : i = j
    · subst e; rw [pt_at, pt_at]; exact hS.p
    · rw [pt_ne _ _ e, pt_ne _ _ e]
      refine (h.st i hi).chg f.chg (fun e2 => ?_) (fun b hb e2 => ?_)
      · rcases e2 with e2 | e2
        · exact h.sd i j hi hj e e2
        · have := h.lo j hjN _ e2
          have := h.sl i hi
          omega
      · have hk := h.kl i b hi hb
        rcases e2 with e2 | e2
        · exact hk.2 j hj e2
        · have := h.lo j hjN _ e2
          omega
  · by_cases e : i = j
    · subst e; rw [pt_at, pt_at]; exact hS.wt
    · rw [pt_ne _ _ e, pt_ne _ _ e]
      exact Own.chg f.chg (h.own i hi) (fun b hb => oth i hi e b hb)
  · by_cases e : i = j
    · subst e; rw [pt_at] at hb
      rcases new b hb with e | e
      · exact h.lo i hi b e
      · omega
    · rw [pt_ne _ _ e] at hb; exact h.lo i hi b hb
  · by_cases e : i = j
    · subst e
      rw [pt_at] at hb
      rw [pt_ne _ _ (fun e => hne e.symm)]
      intro e2
      rcases new b hb with e | e
      · exact h.off i k hi hk hne b e e2
      · have := h.lt hk e2; omega
    · rw [pt_ne _ _ e] at hb
      by_cases e' : k = j
      · subst e'
        rw [pt_at]
        intro e2
        rcases new b e2 with e3 | e3
        · exact h.off i k hi hk hne b hb e3
        · have := h.lt hi hb; omega
      · rw [pt_ne _ _ e']; exact h.off i k hi hk hne b hb
  · refine h.chg.trans f.chg (fun b hb e => ?_)
    rcases e with e | e
    · exact ⟨j, hj, e⟩
    · have := h.lo j hjN b e; omega
  · by_cases e' : i = j
    · subst e'
      rw [pt_at] at hb
      cases ho' : O i with
      | true =>
        rw [ho ho'] at e
        simp [Value.ownBlock] at e
      | false => exact (h2 ho' b hb).2 e
    · rw [pt_ne _ _ e'] at hb
      rcases f.blk b e with e2 | e2
      · exact h.off i j hi hjN e' b hb e2
      · have := h.lt hi hb; omega
/-- One of the lists is appended to. -/
theorem Fam.join (h : Fam w0 M N S K d sts V L O wX) {i : Nat} (hM : M ≤ i) (hi : i < N) {v : Value} {l : List Int} (f : JnP wX (V i) l v wY) : Fam w0 M N S K d sts (pt V i v) (pt L i l) O wY := by
  have hsz := h.size
  refine ⟨h.mn, fun j hj => ?_, fun j hj => ?_, fun j hj b hb => ?_, fun j k hj hk hne b hb => ?_, h.sl, h.sd, h.kl, ?_⟩
  · rw [pt_ne _ _ (by omega)]
    refine (h.st j hj).chg f.chg (fun e => ?_) (fun b hb e => ?_)
    · have := h.lo i hi _ e
      have := h.sl j hj
      omega
    · have := h.lo i hi _ e
      have := (h.kl j b hj hb).1
      omega
  · by_cases e : j = i
    · subst e; rw [pt_at, pt_at]; exact f.own
    · rw [pt_ne _ _ e, pt_ne _ _ e]
      exact Own.chg f.chg (h.own j hj) (fun b hb e2 => h.off j i hj hi e b hb e2)
  · by_cases e : j = i
    · subst e; rw [pt_at] at hb
      rcases f.blk b hb with e | e
      · exact h.lo j hj b e
      · omega
    · rw [pt_ne _ _ e] at hb; exact h.lo j hj b hb
  · by_cases e : j = i
    · subst e
      rw [pt_at] at hb
      rw [pt_ne _ _ (fun e => hne e.symm)]
      intro e2
      rcases f.blk b hb with e | e
      · exact h.off j k hj hk hne b e e2
      · have := h.lt hk e2; omega
    · rw [pt_ne _ _ e] at hb
      by_cases e' : k = i
      · subst e'
        rw [pt_at]
        intro e2
        rcases f.blk b e2 with e3 | e3
        · exact h.off j k hj hk hne b hb e3
        · have := h.lt hj hb; omega
      · rw [pt_ne _ _ e']; exact h.off j k hj hk hne b hb
  · refine h.chg.trans f.chg (fun b hb e => ?_)
    have := h.lo i hi b e
    omega
/-- One of the streams is closed. -/
theorem Fam.close (h : Fam w0 M N S K d sts V L O wX) {j : Nat} (hj : j < M) (hS : StA wY (S j) (K j) d (sts j) (.slice none 0 0) [] true) (c : Chg wX wY (fun b => b = S j)) : Fam w0 M N S K d sts (pt V j (.slice none 0 0)) (pt L j []) (pt O j true) wY := by
  have hjN := Nat.lt_of_lt_of_le hj h.mn
  have nn : ∀ b, (Value.slice none 0 0).ownBlock ≠ some b := fun b e => by simp [Value.ownBlock] at e
  refine ⟨h.mn, fun i hi => ?_, fun i hi => ?_, fun i hi b hb => ?_, fun i k hi hk hne b hb => ?_, h.sl, h.sd, h.kl, ?_⟩
  · by_cases e : i = j
    · subst e; rw [pt_at, pt_at]; exact hS.p
    · rw [pt_ne _ _ e, pt_ne _ _ e]
      exact (h.st i hi).chg c (fun e2 => h.sd i j hi hj e e2) (fun b hb e2 => (h.kl i b hi hb).2 j hj e2)
  · by_cases e : i = j
    · subst e; rw [pt_at, pt_at]; exact hS.wt
    · rw [pt_ne _ _ e, pt_ne _ _ e]
      refine Own.chg c (h.own i hi) (fun b hb e2 => ?_)
      have := h.lo i hi b hb
      have := h.sl j hj
      omega
  · by_cases e : i = j
    · subst e; rw [pt_at] at hb; exact absurd hb (nn b)
    · rw [pt_ne _ _ e] at hb; exact h.lo i hi b hb
  · by_cases e : i = j
    · subst e; rw [pt_at] at hb; exact absurd hb (nn b)
    · rw [pt_ne _ _ e] at hb
      by_cases e' : k = j
      · subst e'; rw [pt_at]; exact nn b
      · rw [pt_ne _ _ e']; exact h.off i k hi hk hne b hb
  · exact h.chg.trans c (fun b _ e => ⟨j, hj, e⟩)
end
end Go.Proofs.Ytlbmgknlbhakoaa
