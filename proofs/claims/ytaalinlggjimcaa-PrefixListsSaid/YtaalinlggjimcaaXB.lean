import Derived.Test.YtaalinlggjimcaaXA
import Derived.WideKeyEntry
namespace Go.Proofs.Ytaalinlggjimcaa
open Go.RowKit
open Go.ChangeMaps (setBlock heap_setBlock_same heap_setBlock_other modify_eq_set)
open Go.WideElems (Fit rd)
open Go.MapKept (Stamped)
/-! The map from keys to lists of pointers: each list in a block of its own. -/
theorem klaw : WideMaps.KeyLaw Try.prog 75 := deep_law_gate (P := Try.prog) (by kernel_rfl) (by rw [tsize]; decide) (by rw [tsize]; decide) (by kernel_rfl) (by kernel_rfl)
def Rt : Value → Option (DataW Unit × List MemPlace) := fun _ => some (.nil, [])
def nilP : Value := .pointer none
def lst (l : List Value) : Nat → Value := fun j => l.getD j nilP
structure Grp (w : World) (M O : Nat) (A : Nat → Prop) (G : Value → List Value) (es : Array MapEntry) (clock : Nat) : Prop where
  blk : w.heap[M]? = some (.map es clock)
  stamped : Stamped es clock
  keys : ∀ e ∈ es.toList, ∃ l, keyOf Try.prog 75 e.key = some l
  own : ∀ e ∈ es.toList, Own w 0 76 1 e.val (G e.key).length (lst (G e.key))
  ne : ∀ e ∈ es.toList, G e.key ≠ []
  all : ∀ k, G k ≠ [] → ∃ e ∈ es.toList, e.key = k
  area : ∀ e ∈ es.toList, ∀ b, e.val.ownBlock = some b → A b ∧ b ≠ O
  off : ∀ e ∈ es.toList, ∀ e' ∈ es.toList, e.key ≠ e'.key → Off e.val e'.val
def Groups (w : World) (M O : Nat) (A : Nat → Prop) (G : Value → List Value) : Prop := ∃ es clock, Grp w M O A G es clock
/-- few keys -/
def Few (G : Value → List Value) : Prop := ∃ s : List Value, s.length ≤ 100000 ∧ ∀ k, G k ≠ [] → k ∈ s
open Classical in
theorem nodup_len {α : Type} : ∀ (l m : List α), l.Nodup → (∀ x ∈ l, x ∈ m) → l.length ≤ m.length
  | [], m, _, _ => Nat.zero_le _
  | x :: r, m, hn, hs => by
    obtain ⟨h1, h2⟩ := List.nodup_cons.1 hn
    have hm := hs x (by simp)
    have := nodup_len r (m.filter (fun y => decide (y ≠ x))) h2 (fun y hy => List.mem_filter.2 ⟨hs y (by simp [hy]), by simp; intro e; exact h1 (e ▸ hy)⟩)
    have h3 : (m.filter (fun y => decide (y ≠ x))).length < m.length := by
      refine List.length_filter_lt_length_iff_exists.2 ⟨x, hm, by simp⟩
    simp only [List.length_cons]; omega
theorem Grp.size {w : World} {M O : Nat} {A : Nat → Prop} {G : Value → List Value} {es : Array MapEntry} {clock : Nat} (h : Grp w M O A G es clock) (hf : Few G) : es.size ≤ 100000 := by
  obtain ⟨s, h1, h2⟩ := hf
  have := nodup_len (es.toList.map (·.key)) s h.stamped.2.2 (fun k hk => by
    obtain ⟨e, he, rfl⟩ := List.mem_map.1 hk
    exact h2 _ (h.ne e he))
  simp at this
  omega
theorem Grp.fit {w : World} {M O : Nat} {A : Nat → Prop} {G : Value → List Value} {es : Array MapEntry} {clock : Nat} (h : Grp w M O A G es clock) (hf : Few G) : Fit Try.prog 75 Rt es clock :=
  ⟨by have := h.size hf; unfold maxLen; omega, h.stamped, fun x hx => by
    obtain ⟨l, hl⟩ := h.keys x hx
    exact ⟨(l, .nil), by simp [rd, hl, Rt]⟩⟩
theorem zeroS (w : World) : (zeroValue 71).run Try.prog w = .ok (.slice none 0 0) w := by
  have h : (Try.prog.info? 71).map (·.zero) = some (some (.slice none 0 0)) := by kernel_rfl
  cases hq : Try.prog.info? 71 with
  | none => rw [hq] at h; cases h
  | some i =>
    rw [hq] at h
    simp at h
    simp [zeroValue, typeInfo, hq, h]
theorem Groups.made (w : World) (O : Nat) (A : Nat → Prop) : Groups (w.alloc (.map #[] 0)) w.heap.size O A (fun _ => []) :=
  ⟨#[], 0, Go.Deep.blk_alloc_new _ _, ⟨by simp, by simp, by simp⟩, by simp, by simp, by simp, fun _ h => absurd rfl h, by simp, by simp⟩
theorem Groups.chg {w w' : World} {M O : Nat} {A : Nat → Prop} {G : Value → List Value} (h : Groups w M O A G) {T : Nat → Prop} (c : Chg w w' T) (hM : ¬ T M) (hT : ∀ b, A b → b ≠ O → (∃ cs fr, w.heap[b]? = some (.cells cs 76 fr)) → ¬ T b) : Groups w' M O A G := by
  obtain ⟨es, clock, g⟩ := h
  refine ⟨es, clock, (c.block M (Array.getElem?_eq_some_iff.1 g.blk).1 hM).trans g.blk, g.stamped, g.keys, fun e he => ?_, g.ne, g.all, g.area, g.off⟩
  refine (g.own e he).chg c (fun b hb => ?_)
  obtain ⟨h1, h2⟩ := g.area e he b hb
  refine hT b h1 h2 ?_
  rcases (g.own e he).2 with ⟨e1, _⟩ | ⟨k, cap, cur, e1, _, hk, _⟩
  · rw [e1] at hb; simp [Value.ownBlock] at hb
  · rw [e1] at hb
    simp [Value.ownBlock] at hb
    subst hb
    exact ⟨_, _, hk⟩
theorem Groups.lt {w : World} {M O : Nat} {A : Nat → Prop} {G : Value → List Value} (h : Groups w M O A G) : M < w.heap.size := by
  obtain ⟨es, clock, g⟩ := h
  exact (Array.getElem?_eq_some_iff.1 g.blk).1
theorem Groups.mono {w : World} {M O : Nat} {A A' : Nat → Prop} {G : Value → List Value} (h : Groups w M O A G) (hA : ∀ b, A b → A' b) : Groups w M O A' G := by
  obtain ⟨es, clock, g⟩ := h
  exact ⟨es, clock, g.blk, g.stamped, g.keys, g.own, g.ne, g.all, fun e he b hb => ⟨hA b (g.area e he b hb).1, (g.area e he b hb).2⟩, g.off⟩
/-- what a list's value is like -/
structure LstAt (w : World) (O : Nat) (A : Nat → Prop) (v : Value) (l : List Value) : Prop where
  own : Own w 0 76 1 v l.length (lst l)
  area : ∀ b, v.ownBlock = some b → A b ∧ b ≠ O
theorem Groups.look {w : World} {M O : Nat} {A : Nat → Prop} {G : Value → List Value} (h : Groups w M O A G) {k : Value} {l : Lit} (hk : keyOf Try.prog 75 k = some l) :
    ∃ v, (Instr.lookup 70 (.map (some M)) k false).run Try.prog w = .ok v w ∧ LstAt w O A v (G k) := by
  obtain ⟨es, clock, g⟩ := h
  rcases klaw.find w hk es.toList g.keys with ⟨h1, h2⟩ | ⟨j, e0, h1, h2, h3⟩
  · have hG : G k = [] := Classical.byContradiction (fun c => by obtain ⟨e, he, ek⟩ := g.all k c; exact h2 e he ek)
    refine ⟨.slice none 0 0, by simp [Instr.lookup, run_underlying Try.underlying70, MapKept.run_getObj_map g.blk, klaw.check w _ hk, h1, Result.andThen], ?_, ?_⟩
    · rw [hG]; exact own_nil _ _ _ _ _
    · intro b hb; simp [Value.ownBlock] at hb
  · have he := List.mem_of_getElem? h2
    refine ⟨e0.val, by simp [Instr.lookup, run_underlying Try.underlying70, MapKept.run_getObj_map g.blk, klaw.check w _ hk, h1, Result.andThen], ?_, g.area e0 he⟩
    rw [← h3]; exact g.own e0 he
theorem Chg.of_setBlock {w : World} {M : Nat} {es : Array MapEntry} {clock : Nat} (hb : w.heap[M]? = some (.map es clock)) (o : Obj) : Chg w (setBlock w M o) (fun b => b = M) :=
  ⟨⟨rfl, rfl, rfl, by simp [setBlock], fun _ h => absurd h (by omega)⟩, fun b _ hS => heap_setBlock_other hb o hS⟩
/-- what 'm[k] = v' makes of the entries -/
theorem upd_core {w : World} {M : Nat} {es : Array MapEntry} {clock : Nat} (hb : w.heap[M]? = some (.map es clock)) (hs : Stamped es clock) (hkeys : ∀ e ∈ es.toList, ∃ l, keyOf Try.prog 75 e.key = some l) {k val : Value} {l : Lit} (hk : keyOf Try.prog 75 k = some l) :
    ∃ es' clock', (Instr.mapUpdate 70 (.map (some M)) k val).run Try.prog w = .ok () (setBlock w M (.map es' clock')) ∧ Stamped es' clock' ∧ (∀ e ∈ es'.toList, (e ∈ es.toList ∧ e.key ≠ k) ∨ (e.key = k ∧ e.val = val)) ∧ (∀ e ∈ es.toList, e.key ≠ k → e ∈ es'.toList) ∧ ∃ e ∈ es'.toList, e.key = k ∧ e.val = val := by
  obtain ⟨s1, s2, s3⟩ := hs
  rcases klaw.find w hk es.toList hkeys with ⟨h1, h2⟩ | ⟨j, e0, h1, h2, h3⟩
  · refine ⟨es.push ⟨k, val, clock⟩, clock + 1, by simp [Instr.mapUpdate, run_underlying Try.underlying70, MapKept.run_getObj_map hb, klaw.check w false hk, h1, MapKept.run_setObj_map _ hb, Result.andThen, setBlock], ⟨?_, ?_, ?_⟩, ?_, ?_, ?_⟩
    · intro x hx
      simp only [Array.toList_push, List.mem_append, List.mem_singleton] at hx
      rcases hx with hx | rfl
      · have := s1 x hx; omega
      · simp
    · simp only [Array.toList_push, List.map_append, List.map_cons, List.map_nil]
      refine List.nodup_append.2 ⟨s2, by simp, fun a ha c hc e1 => ?_⟩
      simp only [List.mem_singleton] at hc
      obtain ⟨x, hx, rfl⟩ := List.mem_map.1 ha
      have := s1 x hx
      omega
    · simp only [Array.toList_push, List.map_append, List.map_cons, List.map_nil]
      refine List.nodup_append.2 ⟨s3, by simp, fun a ha c hc e1 => ?_⟩
      simp only [List.mem_singleton] at hc
      obtain ⟨x, hx, rfl⟩ := List.mem_map.1 ha
      exact h2 x hx (e1.trans hc)
    · intro e he
      simp only [Array.toList_push, List.mem_append, List.mem_singleton] at he
      rcases he with he | rfl
      · exact .inl ⟨he, h2 e he⟩
      · exact .inr ⟨rfl, rfl⟩
    · intro e he _
      simp [he]
    · exact ⟨⟨k, val, clock⟩, by simp, rfl, rfl⟩
  · have hj : es[j]? = some e0 := by simpa using h2
    have hset : (es.modify j (fun e => { e with key := k, val := val })).toList = es.toList.set j { e0 with key := k, val := val } := by
      rw [Array.toList_modify, modify_eq_set _ _ _ _ h2]
    have hjl : j < es.toList.length := (List.getElem?_eq_some_iff.1 h2).1
    have hmem : ∀ e ∈ es.toList.set j { e0 with key := k, val := val }, (e ∈ es.toList ∧ e.key ≠ k) ∨ (e = { e0 with key := k, val := val }) := by
      intro e he
      obtain ⟨i, hi⟩ := List.mem_iff_getElem?.1 he
      rw [List.getElem?_set] at hi
      split at hi
      · exact .inr (Option.some.inj hi).symm
      · rename_i hne
        refine .inl ⟨List.mem_of_getElem? hi, fun ek => hne ?_⟩
        have a1 : (es.toList.map (·.key))[i]? = some k := by simp [hi, ek]
        have a2 : (es.toList.map (·.key))[j]? = some k := by simp [h2, h3]
        have hil : i < (es.toList.map (·.key)).length := (List.getElem?_eq_some_iff.1 a1).1
        have := (List.getElem?_inj hil s3).1 (a1.trans a2.symm)
        exact this.symm
    refine ⟨es.modify j (fun e => { e with key := k, val := val }), clock, by simp [Instr.mapUpdate, run_underlying Try.underlying70, MapKept.run_getObj_map hb, klaw.check w false hk, h1, hj, h3, klaw.stays w hk, MapKept.run_setObj_map _ hb, Result.andThen, setBlock], ⟨?_, ?_, ?_⟩, ?_, ?_, ?_⟩
    · intro x hx
      rw [hset] at hx
      rcases hmem x hx with ⟨h, _⟩ | rfl
      · exact s1 x h
      · exact s1 e0 (List.mem_of_getElem? h2)
    · rw [hset, List.map_set, show ({ e0 with key := k, val := val } : MapEntry).born = e0.born from rfl]
      have : (es.toList.map (·.born)).set j e0.born = es.toList.map (·.born) := WideElems.set_self _ _ _ (by simp [h2])
      rw [this]; exact s2
    · rw [hset, List.map_set]
      have : (es.toList.map (·.key)).set j k = es.toList.map (·.key) := WideElems.set_self _ _ _ (by simp [h2, h3])
      show ((es.toList.map (·.key)).set j k).Nodup
      rw [this]; exact s3
    · intro e he
      rw [hset] at he
      rcases hmem e he with h | rfl
      · exact .inl h
      · exact .inr ⟨rfl, rfl⟩
    · intro e he hne
      rw [hset]
      obtain ⟨i, hi⟩ := List.mem_iff_getElem?.1 he
      refine List.mem_iff_getElem?.2 ⟨i, ?_⟩
      rw [List.getElem?_set_ne]
      · exact hi
      · intro e1
        subst e1
        rw [h2] at hi
        cases hi
        exact hne h3
    · exact ⟨{ e0 with key := k, val := val }, by rw [hset]; exact List.mem_iff_getElem?.2 ⟨j, by rw [List.getElem?_set_self hjl]⟩, rfl, rfl⟩
theorem own_type {w : World} {base : Nat} {e : TypeId} {sz : Nat} {v : Value} {n : Nat} {cs : Nat → Value} (h : Own w base e sz v n cs) {b : Nat} (hb : v.ownBlock = some b) : ∃ cur fr, w.heap[b]? = some (.cells cur e fr) := by
  rcases h.2 with ⟨e1, _⟩ | ⟨k, cap, cur, e1, _, hk, _⟩
  · rw [e1] at hb; simp [Value.ownBlock] at hb
  · rw [e1] at hb
    simp [Value.ownBlock] at hb
    subst hb
    exact ⟨_, _, hk⟩
/-- the entries but one, in a world in which that one's list alone has changed -/
theorem Grp.put {w w2 : World} {M O : Nat} {A A' : Nat → Prop} {G G' : Value → List Value} {es es' : Array MapEntry} {clock clock' : Nat} (g : Grp w M O A G es clock) {k v v' : Value} (hv : ∀ e ∈ es.toList, e.key = k → v = e.val) (hv0 : (∀ e ∈ es.toList, e.key ≠ k) → v.ownBlock = none)
    (c : Chg w w2 (fun b => v.ownBlock = some b ∨ b = M)) (hA : ∀ b, A b → A' b) (hb2 : w2.heap[M]? = some (.map es' clock'))
    (st : Stamped es' clock') (h1 : ∀ e ∈ es'.toList, (e ∈ es.toList ∧ e.key ≠ k) ∨ (e.key = k ∧ e.val = v')) (h2 : ∀ e ∈ es.toList, e.key ≠ k → e ∈ es'.toList) (h3 : G' k ≠ [] → ∃ e ∈ es'.toList, e.key = k ∧ e.val = v')
    (hk : ∃ l, keyOf Try.prog 75 k = some l) (hG : ∀ k', k' ≠ k → G' k' = G k') (hne : (∃ e ∈ es'.toList, e.key = k) → G' k ≠ []) (hl : LstAt w2 O A' v' (G' k)) (hblk : ∀ b, v'.ownBlock = some b → v.ownBlock = some b ∨ w.heap.size ≤ b) : Grp w2 M O A' G' es' clock' := by
  have hM : ∀ e ∈ es.toList, e.val.ownBlock ≠ some M := fun e he hb => by
    obtain ⟨cur, fr, hc⟩ := own_type (g.own e he) hb
    rw [g.blk] at hc
    cases hc
  have hoff : ∀ e ∈ es.toList, e.key ≠ k → ∀ b, e.val.ownBlock = some b → ¬ (v.ownBlock = some b ∨ b = M) := by
    rintro e he hek b hb (h | rfl)
    · by_cases hx : ∃ e0 ∈ es.toList, e0.key = k
      · obtain ⟨e0, he0, ek⟩ := hx
        rw [hv e0 he0 ek] at h
        exact g.off e he e0 he0 (fun z => hek (z.trans ek)) b hb h
      · rw [hv0 (fun e0 he0 ek => hx ⟨e0, he0, ek⟩)] at h
        cases h
    · exact hM e he hb
  refine ⟨hb2, st, ?_, ?_, ?_, ?_, ?_, ?_⟩
  · intro e he
    rcases h1 e he with ⟨h, _⟩ | ⟨h, _⟩
    · exact g.keys e h
    · rw [h]; exact hk
  · intro e he
    rcases h1 e he with ⟨h, h'⟩ | ⟨h, h'⟩
    · rw [hG _ h']
      exact (g.own e h).chg c (hoff e h h')
    · rw [h, h']; exact hl.own
  · intro e he
    rcases h1 e he with ⟨h, h'⟩ | ⟨h, h'⟩
    · rw [hG _ h']; exact g.ne e h
    · rw [h]; exact hne ⟨e, he, h⟩
  · intro k' hk'
    by_cases e1 : k' = k
    · subst e1
      obtain ⟨e, he, ek, _⟩ := h3 hk'
      exact ⟨e, he, ek⟩
    · rw [hG _ e1] at hk'
      obtain ⟨e, he, ek⟩ := g.all k' hk'
      exact ⟨e, h2 e he (by rw [ek]; exact e1), ek⟩
  · intro e he b hb
    rcases h1 e he with ⟨h, h'⟩ | ⟨h, h'⟩
    · exact ⟨hA b (g.area e h b hb).1, (g.area e h b hb).2⟩
    · rw [h'] at hb; exact hl.area b hb
  · have key : ∀ e ∈ es.toList, e.key ≠ k → Off e.val v' := fun e he hek b hb hb' => by
      rcases hblk b hb' with h | h
      · exact hoff e he hek b hb (.inl h)
      · have := ((g.own e he).lt b hb).2; omega
    intro e he e' he' hne'
    rcases h1 e he with ⟨h, h'⟩ | ⟨h, h'⟩
    · rcases h1 e' he' with ⟨k1, k2⟩ | ⟨k1, k2⟩
      · exact g.off e h e' k1 hne'
      · rw [k2]; exact key e h h'
    · rcases h1 e' he' with ⟨k1, k2⟩ | ⟨k1, k2⟩
      · rw [h']; exact (key e' k1 k2).symm
      · exact absurd (h.trans k1.symm) hne'
end Go.Proofs.Ytaalinlggjimcaa
