import Derived.Test.YtaalinlggjimcaaXB
namespace Go.Proofs.Ytaalinlggjimcaa
open Go.RowKit
open Go.ChangeMaps (setBlock heap_setBlock_same heap_setBlock_other modify_eq_set)
open Go.MapKept (Stamped)
/-! A list that is looked up, changed and stored again; taken out; one that is added to. -/
open Classical in
noncomputable def updG (G : Value → List Value) (k : Value) (l : List Value) : Value → List Value := fun k' => if k' = k then l else G k'
theorem updG_at (G : Value → List Value) (k : Value) (l : List Value) : updG G k l k = l := if_pos rfl
theorem updG_ne (G : Value → List Value) {k k' : Value} (l : List Value) (h : k' ≠ k) : updG G k l k' = G k' := if_neg h
theorem LstAt.chg {w w' : World} {O : Nat} {A : Nat → Prop} {v : Value} {l : List Value} (h : LstAt w O A v l) {T : Nat → Prop} (c : Chg w w' T) (hT : ∀ b, v.ownBlock = some b → ¬ T b) : LstAt w' O A v l := ⟨h.own.chg c hT, h.area⟩
theorem LstAt.notM {w : World} {O M : Nat} {A : Nat → Prop} {v : Value} {l : List Value} (h : LstAt w O A v l) {es : Array MapEntry} {clock : Nat} (hM : w.heap[M]? = some (.map es clock)) : v.ownBlock ≠ some M := fun e => by
  obtain ⟨cur, fr, hc⟩ := own_type h.own e
  rw [hM] at hc
  cases hc
theorem find_val {w : World} {k : Value} {l : Lit} (hk : keyOf Try.prog 75 k = some l) {es : Array MapEntry} (hkeys : ∀ e ∈ es.toList, ∃ l, keyOf Try.prog 75 e.key = some l) (hn : (es.toList.map (·.key)).Nodup) :
    ((Instr.findKey 75 k es.toList).run Try.prog w = .ok none w ∧ ∀ e ∈ es.toList, e.key ≠ k) ∨ ∃ j e, (Instr.findKey 75 k es.toList).run Try.prog w = .ok (some (j, e.val)) w ∧ es.toList[j]? = some e ∧ e.key = k ∧ ∀ e' ∈ es.toList, e'.key = k → e.val = e'.val := by
  rcases klaw.find w hk es.toList hkeys with h | ⟨j, e0, h1, h2, h3⟩
  · exact .inl h
  · refine .inr ⟨j, e0, h1, h2, h3, fun e' he' ek => ?_⟩
    obtain ⟨i, hi⟩ := List.mem_iff_getElem?.1 he'
    have a1 : (es.toList.map (·.key))[i]? = some k := by simp [hi, ek]
    have a2 : (es.toList.map (·.key))[j]? = some k := by simp [h2, h3]
    have hil : i < (es.toList.map (·.key)).length := (List.getElem?_eq_some_iff.1 a1).1
    have := (List.getElem?_inj hil hn).1 (a1.trans a2.symm)
    subst this
    rw [h2] at hi
    cases hi
    rfl
theorem del_core {w : World} {M : Nat} {es : Array MapEntry} {clock : Nat} (hb : w.heap[M]? = some (.map es clock)) (hs : Stamped es clock) (hkeys : ∀ e ∈ es.toList, ∃ l, keyOf Try.prog 75 e.key = some l) {k : Value} {l : Lit} (ty : TypeId) (hk : keyOf Try.prog 75 k = some l) :
    ∃ es', (Builtin.delete_ #[70, 75] ty #[.map (some M), k]).run Try.prog w = .ok (.tuple #[]) (setBlock w M (.map es' clock)) ∧ Stamped es' clock ∧ (∀ e ∈ es'.toList, e ∈ es.toList ∧ e.key ≠ k) ∧ (∀ e ∈ es.toList, e.key ≠ k → e ∈ es'.toList) := by
  obtain ⟨s1, s2, s3⟩ := hs
  rcases klaw.find w hk es.toList hkeys with ⟨h1, h2⟩ | ⟨j, e0, h1, h2, h3⟩
  · refine ⟨es, ?_, ⟨s1, s2, s3⟩, fun e he => ⟨he, h2 e he⟩, fun e he _ => he⟩
    simp [Builtin.delete_, run_underlying Try.underlying70, MapKept.run_getObj_map hb, klaw.check w _ hk, h1, MapKept.run_setObj_map _ hb, Result.andThen, setBlock]
  · have hjl : j < es.toList.length := (List.getElem?_eq_some_iff.1 h2).1
    have hj : j < es.size := by simpa using hjl
    have ht : (es.eraseIdxIfInBounds j).toList = es.toList.eraseIdx j := by simp [Array.eraseIdxIfInBounds, hj]
    have hsub : (es.toList.eraseIdx j).Sublist es.toList := List.eraseIdx_sublist _ _
    have hmem : ∀ e ∈ es.toList.eraseIdx j, e.key ≠ k := by
      intro e he ek
      obtain ⟨i, hi⟩ := List.mem_iff_getElem?.1 he
      have a2 : (es.toList.map (·.key))[j]? = some k := by simp [h2, h3]
      by_cases hij : i < j
      · rw [List.getElem?_eraseIdx_of_lt hij] at hi
        have a1 : (es.toList.map (·.key))[i]? = some k := by simp [hi, ek]
        have := (List.getElem?_inj (List.getElem?_eq_some_iff.1 a1).1 s3).1 (a1.trans a2.symm)
        omega
      · rw [List.getElem?_eraseIdx_of_ge (by omega)] at hi
        have a1 : (es.toList.map (·.key))[i + 1]? = some k := by simp [hi, ek]
        have := (List.getElem?_inj (List.getElem?_eq_some_iff.1 a1).1 s3).1 (a1.trans a2.symm)
        omega
    refine ⟨es.eraseIdxIfInBounds j, ?_, ⟨?_, ?_, ?_⟩, ?_, ?_⟩
    · simp [Builtin.delete_, run_underlying Try.underlying70, MapKept.run_getObj_map hb, klaw.check w _ hk, h1, MapKept.run_setObj_map _ hb, Result.andThen, setBlock]
    · intro x hx
      rw [ht] at hx
      exact s1 x (hsub.mem hx)
    · rw [ht]
      exact List.Nodup.sublist (hsub.map _) s2
    · rw [ht]
      exact List.Nodup.sublist (hsub.map _) s3
    · intro e he
      rw [ht] at he
      exact ⟨hsub.mem he, hmem e he⟩
    · intro e he hne
      rw [ht]
      obtain ⟨i, hi⟩ := List.mem_iff_getElem?.1 he
      by_cases hij : i < j
      · exact List.mem_iff_getElem?.2 ⟨i, by rw [List.getElem?_eraseIdx_of_lt hij]; exact hi⟩
      · by_cases e1 : i = j
        · subst e1
          rw [h2] at hi
          cases hi
          exact absurd h3 hne
        · refine List.mem_iff_getElem?.2 ⟨i - 1, ?_⟩
          rw [List.getElem?_eraseIdx_of_ge (by omega), show i - 1 + 1 = i by omega]
          exact hi
theorem Groups.look2 {w : World} {M O : Nat} {A : Nat → Prop} {G : Value → List Value} (h : Groups w M O A G) {k : Value} {l : Lit} (hk : keyOf Try.prog 75 k = some l) :
    ∃ v, (Instr.lookup 70 (.map (some M)) k false).run Try.prog w = .ok v w ∧ LstAt w O A v (G k) ∧
      (∀ w2 v' l', Chg w w2 (fun b => v.ownBlock = some b) → LstAt w2 O A v' l' → l' ≠ [] → (∀ b, v'.ownBlock = some b → v.ownBlock = some b) → ∃ w3, (Instr.mapUpdate 70 (.map (some M)) k v').run Try.prog w2 = .ok () w3 ∧ Chg w2 w3 (fun b => b = M) ∧ Groups w3 M O A (updG G k l')) ∧
      (∀ w2 ty, Chg w w2 (fun b => v.ownBlock = some b) → ∃ w3, (Builtin.delete_ #[70, 75] ty #[.map (some M), k]).run Try.prog w2 = .ok (.tuple #[]) w3 ∧ Chg w2 w3 (fun b => b = M) ∧ Groups w3 M O A (updG G k [])) := by
  obtain ⟨es, clock, g⟩ := h
  obtain ⟨v, hrun, hl, hv, hv0⟩ : ∃ v, (Instr.lookup 70 (.map (some M)) k false).run Try.prog w = .ok v w ∧ LstAt w O A v (G k) ∧ (∀ e ∈ es.toList, e.key = k → v = e.val) ∧ ((∀ e ∈ es.toList, e.key ≠ k) → v.ownBlock = none) := by
    rcases find_val (w := w) hk g.keys g.stamped.2.2 with ⟨h1, h2⟩ | ⟨j, e0, h1, h2, h3, h4⟩
    · have hG : G k = [] := Classical.byContradiction (fun c => by obtain ⟨e, he, ek⟩ := g.all k c; exact h2 e he ek)
      refine ⟨.slice none 0 0, by simp [Instr.lookup, run_underlying Try.underlying70, MapKept.run_getObj_map g.blk, klaw.check w _ hk, h1, Result.andThen], ⟨?_, ?_⟩, fun e he ek => absurd ek (h2 e he), fun _ => rfl⟩
      · rw [hG]; exact own_nil _ _ _ _ _
      · intro b hb; simp [Value.ownBlock] at hb
    · have he := List.mem_of_getElem? h2
      refine ⟨e0.val, by simp [Instr.lookup, run_underlying Try.underlying70, MapKept.run_getObj_map g.blk, klaw.check w _ hk, h1, Result.andThen], ⟨?_, g.area e0 he⟩, h4, fun c => absurd h3 (c e0 he)⟩
      rw [← h3]; exact g.own e0 he
  have hvM := hl.notM g.blk
  have hMlt := (Array.getElem?_eq_some_iff.1 g.blk).1
  refine ⟨v, hrun, hl, fun w2 v' l' c hl' hne hb => ?_, fun w2 ty c => ?_⟩
  · have hb2 : w2.heap[M]? = some (.map es clock) := (c.block M hMlt hvM).trans g.blk
    obtain ⟨es', clock', r1, r2, r3, r4, r5⟩ := upd_core hb2 g.stamped g.keys (val := v') hk
    have c3 := Chg.of_setBlock hb2 (.map es' clock')
    refine ⟨_, r1, c3, es', clock', ?_⟩
    refine g.put (v := v) (v' := v') (w2 := setBlock w2 M (.map es' clock')) hv hv0 ((c.imp (fun _ _ t => Or.inl t)).trans c3 (fun _ _ t => Or.inr t)) (fun _ t => t) (heap_setBlock_same hb2 _) r2 r3 r4 (fun _ => r5) ⟨l, hk⟩ (fun k' hk' => updG_ne _ _ hk') (fun _ => by rw [updG_at]; exact hne) ?_ (fun b t => .inl (hb b t))
    rw [updG_at]
    exact hl'.chg c3 (fun b t e => by subst e; exact hvM (hb _ t))
  · have hb2 : w2.heap[M]? = some (.map es clock) := (c.block M hMlt hvM).trans g.blk
    obtain ⟨es', r1, r2, r3, r4⟩ := del_core hb2 g.stamped g.keys ty hk
    have c3 := Chg.of_setBlock hb2 (.map es' clock)
    refine ⟨_, r1, c3, es', clock, ?_⟩
    refine g.put (v := v) (v' := .slice none 0 0) (w2 := setBlock w2 M (.map es' clock)) hv hv0 ((c.imp (fun _ _ t => Or.inl t)).trans c3 (fun _ _ t => Or.inr t)) (fun _ t => t) (heap_setBlock_same hb2 _) r2 (fun e he => .inl (r3 e he)) r4 (fun c => absurd (updG_at _ _ _) c) ⟨l, hk⟩ (fun k' hk' => updG_ne _ _ hk') (fun ⟨e, he, ek⟩ => absurd ek (r3 e he).2) ?_ (fun b t => by simp [Value.ownBlock] at t)
    rw [updG_at]
    exact ⟨own_nil _ _ _ _ _, fun b t => by simp [Value.ownBlock] at t⟩
theorem Groups.entry {w : World} {M O : Nat} {A : Nat → Prop} {G : Value → List Value} (h : Groups w M O A G) (hf : Few G) {k : Value} {l : Lit} (hk : keyOf Try.prog 75 k = some l) :
    ∃ v st w1, (Instr.mapEntry 70 (.map (some M)) k).run Try.prog w = .ok (.tuple #[v, goInt st]) w1 ∧ Chg w w1 (fun b => b = M) ∧ w1.heap.size = w.heap.size ∧ LstAt w1 O A v (G k) ∧ (∀ w' T, Chg w w' T → ¬ T M → LstAt w' O A v (G k) → True) ∧
      (∀ w2 v' x A', Chg w1 w2 (fun b => v.ownBlock = some b) → (∀ b, A b → A' b) → LstAt w2 O A' v' (G k ++ [x]) → (∀ b, v'.ownBlock = some b → v.ownBlock = some b ∨ w1.heap.size ≤ b) →
        ∃ w3, (Instr.entryStore 70 (.map (some M)) (goInt st) v').run Try.prog w2 = .ok () w3 ∧ Chg w2 w3 (fun b => b = M) ∧ Groups w3 M O A' (updG G k (G k ++ [x]))) := by
  obtain ⟨es, clock, g⟩ := h
  obtain ⟨v, st, es1, clock1, r1, r2, r3⟩ := WideElems.entry_then_store klaw Try.underlying70 (fun u => zeroS u) g.blk (g.fit hf) hk
  have c1 := Chg.of_setBlock g.blk (.map es1 clock1)
  have hMlt := (Array.getElem?_eq_some_iff.1 g.blk).1
  have hl0 : LstAt w O A v (G k) ∧ (∀ e ∈ es.toList, e.key = k → v = e.val) ∧ ((∀ e ∈ es.toList, e.key ≠ k) → v.ownBlock = none) := by
    rcases r2 with ⟨e0, he, ek, rfl⟩ | ⟨hno, rfl⟩
    · refine ⟨⟨by rw [← ek]; exact g.own e0 he, g.area e0 he⟩, fun e' he' ek' => ?_, fun c => absurd ek (c e0 he)⟩
      rcases find_val (w := w) hk g.keys g.stamped.2.2 with ⟨_, h2⟩ | ⟨j, e1, _, h2, h3, h4⟩
      · exact absurd ek (h2 e0 he)
      · rw [← h4 e0 he ek, h4 e' he' ek']
    · have hG : G k = [] := Classical.byContradiction (fun c => by obtain ⟨e, he, ek⟩ := g.all k c; exact hno e he ek)
      refine ⟨⟨by rw [hG]; exact own_nil _ _ _ _ _, fun b hb => by simp [Value.ownBlock] at hb⟩, fun e he ek => absurd ek (hno e he), fun _ => rfl⟩
  obtain ⟨hl, hv, hv0⟩ := hl0
  have hvM := hl.notM g.blk
  refine ⟨v, st, _, r1, c1, by simp [setBlock], hl.chg c1 (fun b t e => by subst e; exact hvM t), fun _ _ _ _ _ => trivial, fun w2 v' x A' c hA hl' hb => ?_⟩
  have hb1 : (setBlock w M (.map es1 clock1)).heap[M]? = some (.map es1 clock1) := heap_setBlock_same g.blk _
  have hb2 : w2.heap[M]? = some (.map es1 clock1) := (c.block M (Array.getElem?_eq_some_iff.1 hb1).1 hvM).trans hb1
  obtain ⟨es', clock', q1, q2⟩ := r3 w2 v' hb2
  obtain ⟨es2, clock2, p1, p2, p3, p4, p5⟩ := upd_core g.blk g.stamped g.keys (val := v') hk
  have heq : es' = es2 ∧ clock' = clock2 := by
    rw [p1] at q2
    have e1 : setBlock w M (.map es2 clock2) = setBlock w M (.map es' clock') := by injection q2
    have e2 := congrArg (fun z : World => z.heap[M]?) e1
    simp only [heap_setBlock_same g.blk] at e2
    injection e2 with e3
    injection e3 with e4 e5
    exact ⟨e4.symm, e5.symm⟩
  obtain ⟨rfl, rfl⟩ := heq
  have c3 := Chg.of_setBlock hb2 (.map es' clock')
  have hvM' : ∀ b, v'.ownBlock = some b → b ≠ M := fun b t e => by
    subst e
    exact hl'.notM hb2 t
  refine ⟨_, q1, c3, es', clock', ?_⟩
  refine g.put (v := v) (v' := v') (w2 := setBlock w2 M (.map es' clock')) hv hv0 (((c1.imp (fun _ _ t => Or.inr t)).trans c (fun _ _ t => Or.inl t)).trans c3 (fun _ _ t => Or.inr t)) hA (heap_setBlock_same hb2 _) p2 p3 p4 (fun _ => p5) ⟨l, hk⟩ (fun k' hk' => updG_ne _ _ hk') (fun _ => by rw [updG_at]; simp) ?_ (fun b t => by
    rcases hb b t with h | h
    · exact .inl h
    · exact .inr (by simpa [setBlock] using h))
  rw [updG_at]
  exact hl'.chg c3 hvM'
end Go.Proofs.Ytaalinlggjimcaa
