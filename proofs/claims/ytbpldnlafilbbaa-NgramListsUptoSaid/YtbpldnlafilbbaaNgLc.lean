import Derived.Test.YtbpldnlafilbbaaNgLa
import Derived.Test.YtbpldnlafilbbaaNgI
import Derived.Maps.OwnIn
namespace Go.Proofs.Ytbpldnlafilbbaa
open Go.RowKit Go.Shelf
/-! NgramLists: what a round of the range keeps. -/
structure LsJ (w2 : World) (sl X k N : Nat) (M : Nat → Nat) (Lb : Nat) (S9 D : Nat → Prop) (pre : List Nat) (v : Value) (S : Nat → Prop) (n : Nat) (tx : Nat → Int) (A : Nat → Nat) (W : World) : Prop where
  box : Boxed W sl 22 v
  own : Own W w2.heap.size 3 1 v pre.length (qF pre)
  idm : IdM W X S k n tx A M Lb
  hn : n ≤ N
  sub : ∀ b, S b → S9 b ∨ w2.heap.size ≤ b
  off : ∀ b, v.ownBlock = some b → ¬ S b
  cls : ∀ b, S b → w2.heap.size ≤ b → ∃ o, W.heap[b]? = some o ∧ o.isCells = true
  chg : Chg w2 W (fun b => S9 b ∨ b = sl)
  pl : ∀ b, D b → isPl W b
theorem grown_chg {P Q : World} {row : Option Nat} (hg : P.grownBy Q row) : Chg P Q (fun b => row = some b) := ⟨⟨hg.os, hg.tape, hg.output, hg.size, fun k hk => absurd hk (by omega)⟩, fun b hb hn => hg.block b hb (fun e => hn e.symm)⟩
theorem Chg.from_ {W0 : World} {T : Nat → Prop} : OwnFrom W0.heap.size (fun (_ : Unit) W => Chg W0 W T) := by
  rintro u X Y row h hg hr
  refine ⟨⟨hg.os.trans h.low.os, hg.tape.trans h.low.tape, hg.output.trans h.low.output, Nat.le_trans h.low.size hg.size, fun k hk => absurd hk (by omega)⟩, fun b hb hT => ?_⟩
  refine (hg.block b (Nat.lt_of_lt_of_le hb h.size) (fun e => ?_)).trans (h.block b hb hT)
  have := (hr b e.symm).1
  omega
theorem LsJ.from_ {w2 : World} {sl X k N : Nat} {M : Nat → Nat} {Lb : Nat} {S9 D : Nat → Prop} {pre : List Nat} {v : Value} {S : Nat → Prop} {n : Nat} {tx : Nat → Int} {A : Nat → Nat} : OwnFrom w2.heap.size (fun (_ : Unit) W => LsJ w2 sl X k N M Lb S9 D pre v S n tx A W) := by
  rintro u P Q row h hg hr
  have c := grown_chg hg
  have hne : ∀ b, (∃ o, P.heap[b]? = some o ∧ o.isCells = true) → ¬ row = some b := fun b ⟨o, h1, h2⟩ e => by
    obtain ⟨_, o', h3, h4⟩ := hr b e
    rw [h1] at h3
    cases h3
    rw [h2] at h4
    cases h4
  have hS : ∀ b, S b → b < w2.heap.size ∨ ∃ o, P.heap[b]? = some o ∧ o.isCells = true := fun b hb => by
    by_cases e : w2.heap.size ≤ b
    · exact .inr (h.cls b hb e)
    · exact .inl (by omega)
  have hSr : ∀ b, S b → ¬ row = some b := fun b hb e => by
    rcases hS b hb with q | q
    · have := (hr b e).1; omega
    · exact hne b q e
  refine ⟨boxed_own _ _ (fun (_ : Unit) => v) () P Q row h.box hg (fun r e => (hr r e).2), own_from _ _ _ _ _ _ _ () P Q row h.own hg hr, h.idm.chg c hSr, h.hn, h.sub, h.off, fun b hb e => ?_, Chg.from_ () P Q row h.chg hg hr, fun b hb => ?_⟩
  · obtain ⟨o, h1, h2⟩ := h.cls b hb e
    exact ⟨o, (c.block b (h.idm.low b hb) (hSr b hb)).trans h1, h2⟩
  · obtain ⟨f, hf⟩ := h.pl b hb
    refine ⟨f, c.row hf (hne b ?_)⟩
    obtain ⟨y, hy, _⟩ := hf
    exact ⟨_, hy, rfl⟩
theorem LsJ.call {w2 : World} {sl X k N : Nat} {M : Nat → Nat} {Lb : Nat} {S9 D : Nat → Prop} {pre : List Nat} {v : Value} {S S' : Nat → Prop} {n n' : Nat} {tx tx' : Nat → Int} {A A' : Nat → Nat} {W W' : World} (h : LsJ w2 sl X k N M Lb S9 D pre v S n tx A W)
    (hM : ∀ i, i < k → M i < w2.heap.size) (hsl : ¬ S9 sl ∧ sl < w2.heap.size) (c : ChgP W W' S) (hm : IdM W' X S' k n' tx' A' M Lb) (hS' : ∀ b, S' b → S b ∨ W.heap.size ≤ b) (hn' : n' ≤ N) :
    ∃ S'', LsJ w2 sl X k N M Lb S9 D pre v S'' n' tx' A' W' ∧ KeepsFrom w2.heap.size W W' ∧ KpD D W W' := by
  obtain ⟨S'', t1, t2, t3⟩ := hm.tight
  have hz := h.chg.size
  have hns : ¬ S sl := fun hs => by
    rcases h.sub sl hs with q | q
    · exact hsl.1 q
    · omega
  refine ⟨S'', ⟨(c.chg.block sl h.box.lt hns).trans h.box, h.own.chg c.chg h.off, t1, hn', fun b hb => ?_, fun b hv hb => ?_, fun b hb e => ?_, ?_, fun b hb => c.pl (h.pl b hb)⟩, ⟨c.chg.size, fun b o hB hb ho => ?_⟩, ⟨c.chg.size, fun b hb => c.block (h.pl b hb)⟩⟩
  · rcases hS' b (t2 b hb) with q | q
    · exact h.sub b q
    · exact .inr (by omega)
  · rcases hS' b (t2 b hb) with q | q
    · exact h.off b hv q
    · have := (h.own.lt b hv).2; omega
  · rcases t3 b hb with ⟨i, hi, rfl⟩ | q
    · have := hM i hi; omega
    · exact q
  · exact h.chg.trans c.chg (fun x hx hs => by
      rcases h.sub x hs with q | q
      · exact .inl q
      · omega)
  · refine (c.chg.block b (Array.getElem?_eq_some_iff.1 hb).1 (fun hs => ?_)).trans hb
    obtain ⟨o', h1, h2⟩ := h.cls b hs hB
    rw [hb] at h1
    cases h1
    rw [h2] at ho
    cases ho
theorem LsJ.start {w2 : World} {sl X k N : Nat} {M : Nat → Nat} {Lb : Nat} {S9 : Nat → Prop} {n : Nat} {tx : Nat → Int} {A : Nat → Nat} (hm : IdM w2 X S9 k n tx A M Lb) (hb : Boxed w2 sl 22 (.slice none 0 0)) (hn : n ≤ N) :
    LsJ w2 sl X k N M Lb S9 (plD A n) [] (.slice none 0 0) S9 n tx A w2 :=
  ⟨hb, own_nil _ _ _ _ _, hm, hn, fun _ h => .inl h, fun b h => by simp [Value.ownBlock] at h, fun b h e => by have := hm.low b h; omega, Chg.refl _ _, fun b hb => by
    obtain ⟨tv, pv, hx⟩ := hm.ex
    obtain ⟨q, h1, h2, rfl⟩ := hb
    exact ⟨_, hx.pls q h1 h2⟩⟩
/-- a place more in the list -/
theorem LsJ.more {w2 : World} {sl X k N : Nat} {M : Nat → Nat} {Lb : Nat} {S9 D : Nat → Prop} {pre : List Nat} {x : Nat} {v v' : Value} {S : Nat → Prop} {n : Nat} {tx : Nat → Int} {A : Nat → Nat} {W wa w1 : World} (h : LsJ w2 sl X k N M Lb S9 D pre v S n tx A W)
    (hsl : ¬ S9 sl ∧ sl < w2.heap.size) (hD : ∀ b, D b → ¬ b = sl) (fa : Below W.heap.size W wa) (hg : wa.grownBy w1 v.ownBlock) (ho : Own w1 w2.heap.size 3 1 v' (pre.length + 1) (qF (pre ++ [x]))) (hv' : ∀ b, v'.ownBlock = some b → v.ownBlock = some b ∨ wa.heap.size ≤ b) :
    LsJ w2 sl X k N M Lb S9 D (pre ++ [x]) v' S n tx A (w1.setCell ⟨sl, 0, none⟩ v') ∧ KpD D W (w1.setCell ⟨sl, 0, none⟩ v') := by
  have hz := h.chg.size
  have hns : ¬ S sl := fun hs => by
    rcases h.sub sl hs with q | q
    · exact hsl.1 q
    · omega
  have hvb : ∀ b, v.ownBlock = some b → w2.heap.size ≤ b ∧ b < W.heap.size := fun b hb => h.own.lt b hb
  have c1 : Chg W w1 (fun b => v.ownBlock = some b) := Chg.pre fa (grown_chg hg)
  have c2 : Chg W (w1.setCell ⟨sl, 0, none⟩ v') (fun b => v.ownBlock = some b ∨ b = sl) := (c1.imp (fun _ _ e => .inl e)).trans (Chg.of_set w1 sl 0 v') (fun _ _ e => .inr e)
  have hnS : ∀ b, S b → ¬ (v.ownBlock = some b ∨ b = sl) := fun b hb e => by
    rcases e with e | e
    · exact h.off b e hb
    · rw [e] at hb; exact hns hb
  have bx1 : Boxed w1 sl 22 v := (c1.block sl h.box.lt (fun e => by have := hvb sl e; omega)).trans h.box
  have hs1 := c1.size
  have hnp : ∀ b, D b → ¬ (v.ownBlock = some b ∨ b = sl) := fun b hb e => by
    rcases e with e | e
    · exact not_plO h.own (by decide) e (h.pl b hb)
    · exact hD b hb e
  refine ⟨⟨bx1.set _, ?_, h.idm.chg c2 hnS, h.hn, h.sub, fun b hv hb => ?_, fun b hb e => ?_, ?_, fun b hb => ?_⟩, ⟨c2.size, fun b hb => ?_⟩⟩
  · have := ownsRow_setCell_below ho (a := ⟨sl, 0, none⟩) hsl.2 v'
    rw [show (pre ++ [x]).length = pre.length + 1 by simp]
    exact this
  · rcases hv' b hv with q | q
    · exact h.off b q hb
    · have := h.idm.low b hb; have := fa.size; omega
  · obtain ⟨o, h1, h2⟩ := h.cls b hb e
    exact ⟨o, (c2.block b (h.idm.low b hb) (hnS b hb)).trans h1, h2⟩
  · exact h.chg.trans c2 (fun y hy e => by
      rcases e with e | e
      · have := hvb y e; omega
      · exact .inr e)
  · obtain ⟨f, hf⟩ := h.pl b hb
    exact ⟨f, c2.row hf (hnp b hb)⟩
  · exact c2.block b (h.pl b hb).choose_spec.lt (hnp b hb)
theorem wpListIn_own1A {F : Fence} {fu : Nat} {P : Program} (w : World) {ops : Array Oper} {rest : List Oper} {o : Oper} {a : Act} {Q : Exit → Act → World → Prop}
    (hg : o.guard = none) (s x : Operand) (t : TypeId) (hop : o.op = Op.call { callee := Callee.builtin Builtin.append, args := #[s, x], argTypes := #[t, t] })
    (base : Nat) (e : TypeId) (z : Value) (bytes : Nat) (h1 : P.underlying t = some (.slice e)) (hinfo : (P.info? e).map (fun i => (i.zero, i.size, i.bytes)) = some (some z, 1, bytes)) (h6 : z.cells.size = 1)
    (v : Value) (n : Nat) (cs : Nat → Value) (hs : a.eval s = v) (hown : Own w base e 1 v n cs)
    (g c : Nat) (hx : a.eval x = .slice (some ⟨g, 0, none⟩) 1 c) (hc : w.cell? ⟨g, 0, none⟩ = some (cs n)) (h1c : (cs n).oneCell' = true)
    (b1 : n < 9223372036854775807) (b2 : (n + 1) * bytes ≤ 140737488355328) (hb : base ≤ w.heap.size)
    (hK : ∀ u c' w', Own w' base e 1 (.slice u (n + 1) c') (n + 1) cs → w.grownBy w' v.ownBlock → (∀ b, (Value.slice u (n + 1) c').ownBlock = some b → v.ownBlock = some b ∨ w.heap.size ≤ b) → wpListIn F fu P ops Q rest (a.put o.dst (.slice u (n + 1) c')) w') : wpListIn F fu P ops Q (o :: rest) a w := by
  obtain ⟨i, hi, hz0, hz1, hz2⟩ := info_parts hinfo
  refine wpListIn_append_own_at w hg s x t hop base e i z 1 bytes h1 hi hz0 hz1 hz2 h6 (by decide) v n _ hs hown ⟨g, 0, none⟩ 1 c [cs n] hx rfl ?_ (by simpa using h1c) (by unfold maxLen; omega) b2 hb ?_
  · intro j u hj
    match j, hj with
    | 0, hj => simp at hj; subst hj; rw [add_lit0]; exact hc
  · intro v' w' h2 h3 _ h5
    have ho : Own w' base e 1 v' (n + 1) cs := by
      unfold Own
      have e1 := news_len n 1 1 cs
      simp at e1
      simp only [Nat.mul_one] at h2 ⊢
      rw [← e1]
      simpa using h2
    obtain ⟨u, c', rfl, _⟩ := ho.rd
    exact hK u c' w' ho h3 (fun b hb => by
      rcases h5 with q | q
      · exact .inl (q.symm.trans hb)
      · rw [q] at hb; cases hb; exact .inr (Nat.le_refl _))
end Go.Proofs.Ytbpldnlafilbbaa
