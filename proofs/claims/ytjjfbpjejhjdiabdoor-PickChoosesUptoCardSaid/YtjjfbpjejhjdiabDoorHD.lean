import Derived.Test.YtjjfbpjejhjdiabDoorHR
namespace Go.Proofs.YtjjfbpjejhjdiabDoor
open Go.RowKit Go.Shelf
open Go.Sort hiding Below
attribute [local go_sem] Oper.semAt_some
/-! Small facts. -/
theorem wpListIn_own1 {F : Fence} {fu : Nat} {P : Program} (w : World) {ops : Array Oper} {rest : List Oper} {o : Oper} {a : Act} {Q : Exit → Act → World → Prop}
    (hg : o.guard = none) (s x : Operand) (t : TypeId) (hop : o.op = Op.call { callee := Callee.builtin Builtin.append, args := #[s, x], argTypes := #[t, t] })
    (base : Nat) (e : TypeId) (z : Value) (bytes : Nat) (h1 : P.underlying t = some (.slice e)) (hinfo : (P.info? e).map (fun i => (i.zero, i.size, i.bytes)) = some (some z, 1, bytes)) (h6 : z.cells.size = 1)
    (v : Value) (n : Nat) (cs : Nat → Value) (hs : a.eval s = v) (hown : Own w base e 1 v n cs)
    (g c : Nat) (hx : a.eval x = .slice (some ⟨g, 0, none⟩) 1 c) (hc : w.cell? ⟨g, 0, none⟩ = some (cs n)) (h1c : (cs n).oneCell' = true)
    (b1 : n < 9223372036854775807) (b2 : (n + 1) * bytes ≤ 140737488355328) (hb : base ≤ w.heap.size)
    (hK : ∀ u c' w', Own w' base e 1 (.slice u (n + 1) c') (n + 1) cs → w.grownBy w' v.ownBlock → wpListIn F fu P ops Q rest (a.put o.dst (.slice u (n + 1) c')) w') : wpListIn F fu P ops Q (o :: rest) a w := by
  obtain ⟨i, hi, hz0, hz1, hz2⟩ := info_parts hinfo
  refine wpListIn_append_own w hg s x t hop base e i z 1 bytes h1 hi hz0 hz1 hz2 h6 (by decide) v n _ hs hown ⟨g, 0, none⟩ 1 c [cs n] hx rfl ?_ (by simpa using h1c) (by unfold maxLen; omega) b2 hb ?_
  · intro j u hj
    match j, hj with
    | 0, hj => simp at hj; subst hj; rw [add_lit0]; exact hc
  · intro v' w' h2 h3 _
    have ho : Own w' base e 1 v' (n + 1) cs := by
      unfold Own
      have e1 := news_len n 1 1 cs
      simp at e1
      simp only [Nat.mul_one] at h2 ⊢
      rw [← e1]
      simpa using h2
    obtain ⟨u, c', rfl, _⟩ := ho.rd
    exact hK u c' w' ho h3
theorem Boxed.trans' {W W' : World} {B : Nat} {t : TypeId} {v : Value} (h : Boxed W B t v) (f : Below W.heap.size W W') : Boxed W' B t v := (f.block B h.lt).trans h
theorem own_from (B base : Nat) (e : TypeId) (sz : Nat) (v : Value) (n : Nat) (cs : Nat → Value) : OwnFrom B (fun (_ : Unit) W => Own W base e sz v n cs) := fun _ X Y row hs hg hr => World.ownsRow.kept hs hg (by
  cases hv : v.ownBlock with
  | none => exact .inl rfl
  | some z =>
    refine .inr (fun e' => ?_)
    obtain ⟨_, o, ho, hc⟩ := hr z e'.symm
    rcases hs.2 with ⟨rfl, _⟩ | ⟨g, cap, cur, rfl, _, hgg, _⟩
    · simp [Value.ownBlock] at hv
    · simp only [Value.ownBlock, Option.some.injEq] at hv
      subst hv
      rw [hgg] at ho
      cases ho
      cases hc)
theorem Own.cells_ {W : World} {base : Nat} {e : TypeId} {sz : Nat} {v : Value} {n : Nat} {cs : Nat → Value} (h : Own W base e sz v n cs) {r : Nat} (hv : v.ownBlock = some r) : ∃ o, W.heap[r]? = some o ∧ o.isCells = true := by
  rcases h.2 with ⟨rfl, _⟩ | ⟨g, cap, cur, rfl, _, hgg, _⟩
  · simp [Value.ownBlock] at hv
  · simp only [Value.ownBlock, Option.some.injEq] at hv
    subst hv
    exact ⟨_, hgg, rfl⟩
theorem keeps_app {W W' : World} {row : Option Nat} (hg : W.grownBy W' row) (hr : ∀ r, row = some r → ∃ o, W.heap[r]? = some o ∧ o.isCells = true) : KeepsOthers W W' := ⟨hg.size, fun k o hk ho => by
  by_cases e : some k = row
  · obtain ⟨o', h1, h2⟩ := hr k e.symm
    rw [hk] at h1
    cases h1
    rw [ho] at h2
    cases h2
  · rw [hg.block k (Array.getElem?_eq_some_iff.1 hk).1 e]
    exact hk⟩
end Go.Proofs.YtjjfbpjejhjdiabDoor
