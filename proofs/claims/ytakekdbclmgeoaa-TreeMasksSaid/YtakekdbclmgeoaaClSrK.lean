import Derived.Test.YtakekdbclmgeoaaClSrJ
import Derived.Maps.Keyed
import Derived.DeepKeys5
import Derived.Deep.MidRow
import Derived.WideKeyEntry
namespace Go.Proofs.Ytakekdbclmgeoaa.Cl
open Go.RowKit
open Go.Maps (Keyed)
open Go.ChangeMaps (setBlock heap_setBlock_same heap_setBlock_other modify_eq_set)
open Go.MapKept (Stamped)
/-! Raw nodes as keys, and the map that leads from them to places. -/
def fits (x : Int) : Prop := -9223372036854775808 ≤ x ∧ x ≤ 9223372036854775807
theorem tsize : Try.prog.types.size = 95 := by kernel_rfl
theorem wf_fits {x : Int} (h : fits x) : (Lit.int .i64 x).wf = true := by
  unfold fits at h
  simp only [Lit.wf, Bool.and_eq_true, decide_eq_true_eq]
  have h1 : IntKind.min .i64 = -9223372036854775808 := by decide
  have h2 : IntKind.max .i64 = 9223372036854775807 := by decide
  omega
theorem lits_int (d : Nat) {x : Int} (h : fits x) : Try.prog.keyLits (d + 1) 3 [.int .i64 x] = some [.int .i64 x] := by
  unfold Program.keyLits
  rw [Try.underlying3]
  simp [wf_fits h]
def keyV (a b : Int) : Value := .agg #[.int .i64 a, .int .i64 b]
theorem keyV_inj {a b a' b' : Int} (h : keyV a b = keyV a' b') : a = a' ∧ b = b' := by
  unfold keyV at h
  simpa using h
theorem lits_key (d : Nat) {a b : Int} (ha : fits a) (hb : fits b) : ∃ l, Try.prog.keyLits (d + 1 + 1) 57 [.int .i64 a, .int .i64 b] = some l := by
  have c2 : Try.prog.cellsOf 57 = 2 := by kernel_rfl
  have c3 : Try.prog.cellsOf 3 = 1 := by kernel_rfl
  unfold Program.keyLits
  rw [Try.underlying57]
  simp [c2, c3, lits_int d ha, lits_int d hb]
theorem key_ok {a b : Int} (ha : fits a) (hb : fits b) : ∃ l, keyOf Try.prog 57 (keyV a b) = some l := by
  have c2 : Try.prog.cellsOf 57 = 2 := by kernel_rfl
  have k1 : Try.prog.keyType 57 = true := by kernel_rfl
  obtain ⟨l, hl⟩ := lits_key 94 ha hb
  refine ⟨.string (keyBytes l), ?_⟩
  unfold keyOf
  rw [Try.underlying57]
  have hf : (keyV a b).formed Try.prog 57 = true := by
    unfold keyV Value.formed
    rw [Try.underlying57]
    simp [c2]
  have hc : (keyV a b).cells.toList = [.int .i64 a, .int .i64 b] := by simp [keyV, Value.cells]
  simp only [k1, hf, tsize, hc, hl]
  rfl
theorem klaw : WideMaps.KeyLaw Try.prog 57 := deep_law_gate (P := Try.prog) (by kernel_rfl) (by rw [tsize]; decide) (by rw [tsize]; decide) (by kernel_rfl) (by kernel_rfl)
/-- the map in memory: to the key a, b it answers G a b -/
structure KMp (w : World) (M : Nat) (G : Int → Int → Option Int) (es : Array MapEntry) (clock : Nat) : Prop where
  blk : w.heap[M]? = some (.map es clock)
  stamped : Stamped es clock
  keys : ∀ e ∈ es.toList, ∃ l, keyOf Try.prog 57 e.key = some l
  val : ∀ e ∈ es.toList, ∀ a b, e.key = keyV a b → ∃ v, G a b = some v ∧ e.val = .int .i64 v
  non : ∀ a b, (∀ e ∈ es.toList, e.key ≠ keyV a b) → G a b = none
def KMap (w : World) (M : Nat) (G : Int → Int → Option Int) : Prop := ∃ es clock, KMp w M G es clock
theorem KMap.made (w : World) : KMap (w.alloc (.map #[] 0)) w.heap.size (fun _ _ => none) :=
  ⟨#[], 0, Go.Deep.blk_alloc_new _ _, ⟨by simp, by simp, by simp⟩, by simp, by simp, fun _ _ _ => rfl⟩
theorem KMap.lt {w : World} {M : Nat} {G : Int → Int → Option Int} (h : KMap w M G) : M < w.heap.size := by
  obtain ⟨es, clock, g⟩ := h
  exact (Array.getElem?_eq_some_iff.1 g.blk).1
theorem KMap.of_block {w w' : World} {M : Nat} {G : Int → Int → Option Int} (h : KMap w M G) (e : w'.heap[M]? = w.heap[M]?) : KMap w' M G := by
  obtain ⟨es, clock, g⟩ := h
  exact ⟨es, clock, e.trans g.blk, g.stamped, g.keys, g.val, g.non⟩
theorem KMap.congr {w : World} {M : Nat} {G G' : Int → Int → Option Int} (h : KMap w M G) (e : ∀ a b, G a b = G' a b) : KMap w M G' := by
  have : G = G' := funext fun a => funext fun b => e a b
  rw [← this]; exact h
theorem KMap.look_some {w : World} {M : Nat} {G : Int → Int → Option Int} (h : KMap w M G) {a b v : Int} (ha : fits a) (hb : fits b) (hv : G a b = some v) :
    (Instr.lookup 73 (.map (some M)) (.agg #[.int .i64 a, .int .i64 b]) true).run Try.prog w = .ok (.tuple #[.int .i64 v, .bool true]) w := by
  obtain ⟨es, clock, q⟩ := h
  obtain ⟨l, hk⟩ := key_ok ha hb
  show (Instr.lookup 73 (.map (some M)) (keyV a b) true).run Try.prog w = _
  rcases klaw.find w hk es.toList q.keys with ⟨h1, h2⟩ | ⟨j, e0, h1, h2, h3⟩
  · rw [q.non a b h2] at hv; cases hv
  · have he := List.mem_of_getElem? h2
    obtain ⟨v', e1, e2⟩ := q.val e0 he a b h3
    rw [hv] at e1
    cases e1
    simp [Instr.lookup, run_underlying Try.underlying73, MapKept.run_getObj_map q.blk, klaw.check w _ hk, h1, e2, Result.andThen]
theorem KMap.look_none {w : World} {M : Nat} {G : Int → Int → Option Int} (h : KMap w M G) {a b : Int} (ha : fits a) (hb : fits b) (hv : G a b = none) :
    (Instr.lookup 73 (.map (some M)) (.agg #[.int .i64 a, .int .i64 b]) true).run Try.prog w = .ok (.tuple #[.int .i64 0, .bool false]) w := by
  obtain ⟨es, clock, q⟩ := h
  obtain ⟨l, hk⟩ := key_ok ha hb
  show (Instr.lookup 73 (.map (some M)) (keyV a b) true).run Try.prog w = _
  rcases klaw.find w hk es.toList q.keys with ⟨h1, h2⟩ | ⟨j, e0, h1, h2, h3⟩
  · simp [Instr.lookup, run_underlying Try.underlying73, MapKept.run_getObj_map q.blk, klaw.check w _ hk, h1, Result.andThen]
  · have he := List.mem_of_getElem? h2
    obtain ⟨v', e1, e2⟩ := q.val e0 he a b h3
    rw [hv] at e1
    cases e1
/-- what 'm[k] = v' makes of the entries -/
theorem upd_core {w : World} {M : Nat} {es : Array MapEntry} {clock : Nat} (hb : w.heap[M]? = some (.map es clock)) (hs : Stamped es clock) (hkeys : ∀ e ∈ es.toList, ∃ l, keyOf Try.prog 57 e.key = some l) {k val : Value} {l : Lit} (hk : keyOf Try.prog 57 k = some l) :
    ∃ es' clock', (Instr.mapUpdate 73 (.map (some M)) k val).run Try.prog w = .ok () (setBlock w M (.map es' clock')) ∧ Stamped es' clock' ∧ (∀ e ∈ es'.toList, (e ∈ es.toList ∧ e.key ≠ k) ∨ (e.key = k ∧ e.val = val)) ∧ (∀ e ∈ es.toList, e.key ≠ k → e ∈ es'.toList) ∧ ∃ e ∈ es'.toList, e.key = k ∧ e.val = val := by
  obtain ⟨s1, s2, s3⟩ := hs
  rcases klaw.find w hk es.toList hkeys with ⟨h1, h2⟩ | ⟨j, e0, h1, h2, h3⟩
  · refine ⟨es.push ⟨k, val, clock⟩, clock + 1, by simp [Instr.mapUpdate, run_underlying Try.underlying73, MapKept.run_getObj_map hb, klaw.check w false hk, h1, MapKept.run_setObj_map _ hb, Result.andThen, setBlock], ⟨?_, ?_, ?_⟩, ?_, ?_, ?_⟩
    · intro x hx
      simp only [Array.toList_push, List.mem_append, List.mem_singleton] at hx
      rcases hx with hx | rfl
      · have := s1 x hx; omega
      · simp
    · simp only [Array.toList_push, List.map_append, List.map_cons, List.map_nil]
      refine List.nodup_append.2 ⟨s2, by simp, fun a ha c hc e1 => ?_⟩
      simp only [List.mem_singleton] at hc
      obtain ⟨x, hx, rfl⟩ := List.mem_map.1 ha
      have := s1 x hx
      omega
    · simp only [Array.toList_push, List.map_append, List.map_cons, List.map_nil]
      refine List.nodup_append.2 ⟨s3, by simp, fun a ha c hc e1 => ?_⟩
      simp only [List.mem_singleton] at hc
      obtain ⟨x, hx, rfl⟩ := List.mem_map.1 ha
      exact h2 x hx (e1.trans hc)
    · intro e he
      simp only [Array.toList_push, List.mem_append, List.mem_singleton] at he
      rcases he with he | rfl
      · exact .inl ⟨he, h2 e he⟩
      · exact .inr ⟨rfl, rfl⟩
    · intro e he _
      simp [he]
    · exact ⟨⟨k, val, clock⟩, by simp, rfl, rfl⟩
  · have hj : es[j]? = some e0 := by simpa using h2
    have hset : (es.modify j (fun e => { e with key := k, val := val })).toList = es.toList.set j { e0 with key := k, val := val } := by
      rw [Array.toList_modify, modify_eq_set _ _ _ _ h2]
    have hjl : j < es.toList.length := (List.getElem?_eq_some_iff.1 h2).1
    have hmem : ∀ e ∈ es.toList.set j { e0 with key := k, val := val }, (e ∈ es.toList ∧ e.key ≠ k) ∨ (e = { e0 with key := k, val := val }) := by
      intro e he
      obtain ⟨i, hi⟩ := List.mem_iff_getElem?.1 he
      rw [List.getElem?_set] at hi
      split at hi
      · exact .inr (Option.some.inj hi).symm
      · rename_i hne
        refine .inl ⟨List.mem_of_getElem? hi, fun ek => hne ?_⟩
        have a1 : (es.toList.map (·.key))[i]? = some k := by simp [hi, ek]
        have a2 : (es.toList.map (·.key))[j]? = some k := by simp [h2, h3]
        have hil : i < (es.toList.map (·.key)).length := (List.getElem?_eq_some_iff.1 a1).1
        have := (List.getElem?_inj hil s3).1 (a1.trans a2.symm)
        exact this.symm
    refine ⟨es.modify j (fun e => { e with key := k, val := val }), clock, by simp [Instr.mapUpdate, run_underlying Try.underlying73, MapKept.run_getObj_map hb, klaw.check w false hk, h1, hj, h3, klaw.stays w hk, MapKept.run_setObj_map _ hb, Result.andThen, setBlock], ⟨?_, ?_, ?_⟩, ?_, ?_, ?_⟩
    · intro x hx
      rw [hset] at hx
      rcases hmem x hx with ⟨h, _⟩ | rfl
      · exact s1 x h
      · exact s1 e0 (List.mem_of_getElem? h2)
    · rw [hset, List.map_set, show ({ e0 with key := k, val := val } : MapEntry).born = e0.born from rfl]
      have : (es.toList.map (·.born)).set j e0.born = es.toList.map (·.born) := WideElems.set_self _ _ _ (by simp [h2])
      rw [this]; exact s2
    · rw [hset, List.map_set]
      have : (es.toList.map (·.key)).set j k = es.toList.map (·.key) := WideElems.set_self _ _ _ (by simp [h2, h3])
      show ((es.toList.map (·.key)).set j k).Nodup
      rw [this]; exact s3
    · intro e he
      rw [hset] at he
      rcases hmem e he with h | rfl
      · exact .inl h
      · exact .inr ⟨rfl, rfl⟩
    · intro e he hne
      rw [hset]
      obtain ⟨i, hi⟩ := List.mem_iff_getElem?.1 he
      refine List.mem_iff_getElem?.2 ⟨i, ?_⟩
      rw [List.getElem?_set_ne]
      · exact hi
      · intro e1
        subst e1
        rw [h2] at hi
        cases hi
        exact hne h3
    · exact ⟨{ e0 with key := k, val := val }, by rw [hset]; exact List.mem_iff_getElem?.2 ⟨j, by rw [List.getElem?_set_self hjl]⟩, rfl, rfl⟩
def updK (G : Int → Int → Option Int) (a b v : Int) : Int → Int → Option Int := fun x y => if x = a ∧ y = b then some v else G x y
theorem KMap.upd {w : World} {M : Nat} {G : Int → Int → Option Int} (h : KMap w M G) {a b : Int} (ha : fits a) (hb : fits b) (v : Int) :
    ∃ w', (Instr.mapUpdate 73 (.map (some M)) (.agg #[.int .i64 a, .int .i64 b]) (.int .i64 v)).run Try.prog w = .ok () w' ∧ KMap w' M (updK G a b v) ∧ (∀ k, k ≠ M → w'.heap[k]? = w.heap[k]?) ∧ w'.heap.size = w.heap.size ∧ w'.os = w.os ∧ w'.tape = w.tape ∧ w'.output = w.output := by
  obtain ⟨es, clock, q⟩ := h
  obtain ⟨l, hk⟩ := key_ok ha hb
  obtain ⟨es', clock', r1, r2, r3, r4, r5⟩ := upd_core q.blk q.stamped q.keys (val := .int .i64 v) hk
  refine ⟨_, r1, ⟨es', clock', heap_setBlock_same q.blk _, r2, fun e he => ?_, fun e he x y hxy => ?_, fun x y hne => ?_⟩, fun k hk => heap_setBlock_other q.blk _ hk, by simp [setBlock], rfl, rfl, rfl⟩
  · rcases r3 e he with ⟨h, _⟩ | ⟨h, _⟩
    · exact q.keys e h
    · rw [h]; exact ⟨l, hk⟩
  · rcases r3 e he with ⟨h, hn⟩ | ⟨h, hv⟩
    · obtain ⟨v', e1, e2⟩ := q.val e h x y hxy
      refine ⟨v', ?_, e2⟩
      unfold updK
      rw [if_neg (fun c => hn (by rw [hxy, c.1, c.2]))]
      exact e1
    · obtain ⟨e1, e2⟩ := keyV_inj (hxy.symm.trans h)
      refine ⟨v, ?_, hv⟩
      unfold updK
      rw [if_pos ⟨e1, e2⟩]
  · have hn : ¬ (x = a ∧ y = b) := fun c => by
      obtain ⟨e0, he0, hk0, _⟩ := r5
      exact hne e0 he0 (by rw [c.1, c.2]; exact hk0)
    unfold updK
    rw [if_neg hn]
    refine q.non x y (fun e he ek => hne e (r4 e he (fun c => hn ?_)) ek)
    exact keyV_inj (ek.symm.trans c)
end Go.Proofs.Ytakekdbclmgeoaa.Cl
