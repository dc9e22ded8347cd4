import Derived.Test.YtbpldnlafilbbaaRows
import Derived.Test.YtbpldnlafilbbaaNgO
import Derived.Maps.Keyed
import Derived.DeepKeys5
import Derived.Deep.MidRow
import Derived.WideKeyEntry
namespace Go.Proofs.Ytbpldnlafilbbaa
open Go.RowKit
open Go.Maps (Keyed)
open Go.ChangeMaps (setBlock heap_setBlock_same heap_setBlock_other modify_eq_set)
open Go.MapKept (Stamped)
/-! Runs (arrays of four numbers) as keys, and the map that leads from them to places. -/
theorem infoI : (Try.prog.info? 3).map (fun i => (i.zero, i.size, i.bytes)) = some (some (.int .i64 0), 1, 8) := by kernel_rfl
def ints (p : List Int) : List Value := p.map (fun x => Value.int .i64 x)
def fits (x : Int) : Prop := -9223372036854775808 ≤ x ∧ x ≤ 9223372036854775807
def Pc (p : List Int) : Prop := p.length = 4 ∧ ∀ x ∈ p, fits x
theorem ints_len (p : List Int) : (ints p).length = p.length := by simp [ints]
theorem ints_inj {p q : List Int} (h : ints p = ints q) : p = q := by
  unfold ints at h
  exact (List.map_inj_right (fun a b e => by cases e; rfl)).1 h
theorem tsize : Try.prog.types.size = 89 := by kernel_rfl
theorem wf_fits {x : Int} (h : fits x) : (Lit.int .i64 x).wf = true := by
  unfold fits at h
  simp only [Lit.wf, Bool.and_eq_true, decide_eq_true_eq]
  have h1 : IntKind.min .i64 = -9223372036854775808 := by decide
  have h2 : IntKind.max .i64 = 9223372036854775807 := by decide
  omega
theorem lits_int (d : Nat) {x : Int} (h : fits x) : Try.prog.keyLits (d + 1) 3 [.int .i64 x] = some [.int .i64 x] := by
  unfold Program.keyLits
  rw [Try.underlying3]
  simp [wf_fits h]
theorem mapM_some {α β : Type} (f : α → Option β) (g : α → β) : ∀ (l : List α), (∀ x ∈ l, f x = some (g x)) → l.mapM f = some (l.map g)
  | [], _ => by simp
  | x :: r, h => by
    rw [List.mapM_cons, h x (by simp), mapM_some f g r (fun y hy => h y (by simp [hy]))]
    rfl
theorem lits_run (d : Nat) {p : List Int} (hp : Pc p) : ∃ l, Try.prog.keyLits (d + 1 + 1) 71 (ints p) = some l := by
  have c2 : Try.prog.cellsOf 71 = 4 := by kernel_rfl
  have c3 : Try.prog.cellsOf 3 = 1 := by kernel_rfl
  unfold Program.keyLits
  rw [Try.underlying71]
  simp only [c2, c3, ints_len, hp.1, if_true]
  rw [mapM_some _ (fun i => [.int .i64 (p.getD i 0)])]
  · exact ⟨_, rfl⟩
  · intro i hi
    have hi := List.mem_range.1 hi
    have e : (List.take 1 (List.drop (i * 1) (ints p))) = [.int .i64 (p.getD i 0)] := by
      rw [Nat.mul_one, List.drop_eq_getElem_cons (by rw [ints_len, hp.1]; exact hi)]
      simp [ints, List.getElem?_eq_getElem (show i < p.length by rw [hp.1]; exact hi)]
    rw [e]
    refine lits_int d (hp.2 _ ?_)
    rw [List.getD_eq_getElem?_getD, List.getElem?_eq_getElem (show i < p.length by rw [hp.1]; exact hi)]
    simp
def runV (p : List Int) : Value := .agg (ints p).toArray
theorem runV_inj {p q : List Int} (h : runV p = runV q) : p = q := by
  unfold runV at h
  exact ints_inj (congrArg Array.toList (Value.agg.inj h))
theorem run_ok {p : List Int} (hp : Pc p) : ∃ l, keyOf Try.prog 71 (runV p) = some l := by
  have c2 : Try.prog.cellsOf 71 = 4 := by kernel_rfl
  have k1 : Try.prog.keyType 71 = true := by kernel_rfl
  obtain ⟨l, hl⟩ := lits_run 88 hp
  refine ⟨.string (keyBytes l), ?_⟩
  unfold keyOf
  rw [Try.underlying71]
  have hf : (runV p).formed Try.prog 71 = true := by
    unfold runV Value.formed
    rw [Try.underlying71]
    simp [c2, ints_len, hp.1]
  have hc : (runV p).cells.toList = ints p := by simp [runV, Value.cells]
  simp only [k1, hf, tsize, hc, hl]
  rfl
theorem klaw : WideMaps.KeyLaw Try.prog 71 := deep_law_gate (P := Try.prog) (by kernel_rfl) (by rw [tsize]; decide) (by rw [tsize]; decide) (by kernel_rfl) (by kernel_rfl)
def nilP : Value := .pointer none
def isRun (k : Value) : Prop := ∃ l, keyOf Try.prog 71 k = some l
/-- a map in memory: what it answers -/
structure PMp (w : World) (M : Nat) (g : Value → Value) (es : Array MapEntry) (clock : Nat) : Prop where
  blk : w.heap[M]? = some (.map es clock)
  stamped : Stamped es clock
  keys : ∀ e ∈ es.toList, ∃ l, keyOf Try.prog 71 e.key = some l
  val : ∀ e ∈ es.toList, e.val = g e.key
  non : ∀ k, (∀ e ∈ es.toList, e.key ≠ k) → g k = nilP
def PMap (w : World) (M : Nat) (g : Value → Value) : Prop := ∃ es clock, PMp w M g es clock
theorem PMap.made (w : World) : PMap (w.alloc (.map #[] 0)) w.heap.size (fun _ => nilP) :=
  ⟨#[], 0, Go.Deep.blk_alloc_new _ _, ⟨by simp, by simp, by simp⟩, by simp, by simp, fun _ _ => rfl⟩
theorem PMap.chg {w w' : World} {M : Nat} {g : Value → Value} (h : PMap w M g) {T : Nat → Prop} (c : Chg w w' T) (hM : ¬ T M) : PMap w' M g := by
  obtain ⟨es, clock, g⟩ := h
  exact ⟨es, clock, (c.block M (Array.getElem?_eq_some_iff.1 g.blk).1 hM).trans g.blk, g.stamped, g.keys, g.val, g.non⟩
theorem PMap.lt {w : World} {M : Nat} {g : Value → Value} (h : PMap w M g) : M < w.heap.size := by
  obtain ⟨es, clock, g⟩ := h
  exact (Array.getElem?_eq_some_iff.1 g.blk).1
theorem PMap.congr {w : World} {M : Nat} {g g' : Value → Value} (h : PMap w M g) (e : ∀ k, g k = g' k) : PMap w M g' := by
  have : g = g' := funext e
  rw [← this]; exact h
theorem PMap.look {w : World} {M : Nat} {g : Value → Value} (h : PMap w M g) {k : Value} (hk : isRun k) :
    (Instr.lookup 60 (.map (some M)) k false).run Try.prog w = .ok (g k) w := by
  obtain ⟨es, clock, q⟩ := h
  obtain ⟨l, hk⟩ := hk
  rcases klaw.find w hk es.toList q.keys with ⟨h1, h2⟩ | ⟨j, e0, h1, h2, h3⟩
  · rw [q.non k h2]
    simp [Instr.lookup, run_underlying Try.underlying60, MapKept.run_getObj_map q.blk, klaw.check w _ hk, h1, Result.andThen, nilP]
  · have he := List.mem_of_getElem? h2
    have hv := q.val e0 he
    rw [h3] at hv
    rw [← hv]
    simp [Instr.lookup, run_underlying Try.underlying60, MapKept.run_getObj_map q.blk, klaw.check w _ hk, h1, Result.andThen]
theorem Chg.of_setBlock {w : World} {M : Nat} {es : Array MapEntry} {clock : Nat} (hb : w.heap[M]? = some (.map es clock)) (o : Obj) : Chg w (setBlock w M o) (fun b => b = M) :=
  ⟨⟨rfl, rfl, rfl, by simp [setBlock], fun _ h => absurd h (by omega)⟩, fun b _ hS => heap_setBlock_other hb o hS⟩
/-- what 'm[k] = v' makes of the entries -/
theorem upd_core {w : World} {M : Nat} {es : Array MapEntry} {clock : Nat} (hb : w.heap[M]? = some (.map es clock)) (hs : Stamped es clock) (hkeys : ∀ e ∈ es.toList, ∃ l, keyOf Try.prog 71 e.key = some l) {k val : Value} {l : Lit} (hk : keyOf Try.prog 71 k = some l) :
    ∃ es' clock', (Instr.mapUpdate 60 (.map (some M)) k val).run Try.prog w = .ok () (setBlock w M (.map es' clock')) ∧ Stamped es' clock' ∧ (∀ e ∈ es'.toList, (e ∈ es.toList ∧ e.key ≠ k) ∨ (e.key = k ∧ e.val = val)) ∧ (∀ e ∈ es.toList, e.key ≠ k → e ∈ es'.toList) ∧ ∃ e ∈ es'.toList, e.key = k ∧ e.val = val := by
  obtain ⟨s1, s2, s3⟩ := hs
  rcases klaw.find w hk es.toList hkeys with ⟨h1, h2⟩ | ⟨j, e0, h1, h2, h3⟩
  · refine ⟨es.push ⟨k, val, clock⟩, clock + 1, by simp [Instr.mapUpdate, run_underlying Try.underlying60, MapKept.run_getObj_map hb, klaw.check w false hk, h1, MapKept.run_setObj_map _ hb, Result.andThen, setBlock], ⟨?_, ?_, ?_⟩, ?_, ?_, ?_⟩
    · intro x hx
      simp only [Array.toList_push, List.mem_append, List.mem_singleton] at hx
      rcases hx with hx | rfl
      · have := s1 x hx; omega
      · simp
    · simp only [Array.toList_push, List.map_append, List.map_cons, List.map_nil]
      refine List.nodup_append.2 ⟨s2, by simp, fun a ha c hc e1 => ?_⟩
      simp only [List.mem_singleton] at hc
      obtain ⟨x, hx, rfl⟩ := List.mem_map.1 ha
      have := s1 x hx
      omega
    · simp only [Array.toList_push, List.map_append, List.map_cons, List.map_nil]
      refine List.nodup_append.2 ⟨s3, by simp, fun a ha c hc e1 => ?_⟩
      simp only [List.mem_singleton] at hc
      obtain ⟨x, hx, rfl⟩ := List.mem_map.1 ha
      exact h2 x hx (e1.trans hc)
    · intro e he
      simp only [Array.toList_push, List.mem_append, List.mem_singleton] at he
      rcases he with he | rfl
      · exact .inl ⟨he, h2 e he⟩
      · exact .inr ⟨rfl, rfl⟩
    · intro e he _
      simp [he]
    · exact ⟨⟨k, val, clock⟩, by simp, rfl, rfl⟩
  · have hj : es[j]? = some e0 := by simpa using h2
    have hset : (es.modify j (fun e => { e with key := k, val := val })).toList = es.toList.set j { e0 with key := k, val := val } := by
      rw [Array.toList_modify, modify_eq_set _ _ _ _ h2]
    have hjl : j < es.toList.length := (List.getElem?_eq_some_iff.1 h2).1
    have hmem : ∀ e ∈ es.toList.set j { e0 with key := k, val := val }, (e ∈ es.toList ∧ e.key ≠ k) ∨ (e = { e0 with key := k, val := val }) := by
      intro e he
      obtain ⟨i, hi⟩ := List.mem_iff_getElem?.1 he
      rw [List.getElem?_set] at hi
      split at hi
      · exact .inr (Option.some.inj hi).symm
      · rename_i hne
        refine .inl ⟨List.mem_of_getElem? hi, fun ek => hne ?_⟩
        have a1 : (es.toList.map (·.key))[i]? = some k := by simp [hi, ek]
        have a2 : (es.toList.map (·.key))[j]? = some k := by simp [h2, h3]
        have hil : i < (es.toList.map (·.key)).length := (List.getElem?_eq_some_iff.1 a1).1
        have := (List.getElem?_inj hil s3).1 (a1.trans a2.symm)
        exact this.symm
    refine ⟨es.modify j (fun e => { e with key := k, val := val }), clock, by simp [Instr.mapUpdate, run_underlying Try.underlying60, MapKept.run_getObj_map hb, klaw.check w false hk, h1, hj, h3, klaw.stays w hk, MapKept.run_setObj_map _ hb, Result.andThen, setBlock], ⟨?_, ?_, ?_⟩, ?_, ?_, ?_⟩
    · intro x hx
      rw [hset] at hx
      rcases hmem x hx with ⟨h, _⟩ | rfl
      · exact s1 x h
      · exact s1 e0 (List.mem_of_getElem? h2)
    · rw [hset, List.map_set, show ({ e0 with key := k, val := val } : MapEntry).born = e0.born from rfl]
      have : (es.toList.map (·.born)).set j e0.born = es.toList.map (·.born) := WideElems.set_self _ _ _ (by simp [h2])
      rw [this]; exact s2
    · rw [hset, List.map_set]
      have : (es.toList.map (·.key)).set j k = es.toList.map (·.key) := WideElems.set_self _ _ _ (by simp [h2, h3])
      show ((es.toList.map (·.key)).set j k).Nodup
      rw [this]; exact s3
    · intro e he
      rw [hset] at he
      rcases hmem e he with h | rfl
      · exact .inl h
      · exact .inr ⟨rfl, rfl⟩
    · intro e he hne
      rw [hset]
      obtain ⟨i, hi⟩ := List.mem_iff_getElem?.1 he
      refine List.mem_iff_getElem?.2 ⟨i, ?_⟩
      rw [List.getElem?_set_ne]
      · exact hi
      · intro e1
        subst e1
        rw [h2] at hi
        cases hi
        exact hne h3
    · exact ⟨{ e0 with key := k, val := val }, by rw [hset]; exact List.mem_iff_getElem?.2 ⟨j, by rw [List.getElem?_set_self hjl]⟩, rfl, rfl⟩
theorem del_core {w : World} {M : Nat} {es : Array MapEntry} {clock : Nat} (hb : w.heap[M]? = some (.map es clock)) (hs : Stamped es clock) (hkeys : ∀ e ∈ es.toList, ∃ l, keyOf Try.prog 71 e.key = some l) {k : Value} {l : Lit} (ty : TypeId) (hk : keyOf Try.prog 71 k = some l) :
    ∃ es', (Builtin.delete_ #[60, 71] ty #[.map (some M), k]).run Try.prog w = .ok (.tuple #[]) (setBlock w M (.map es' clock)) ∧ Stamped es' clock ∧ (∀ e ∈ es'.toList, e ∈ es.toList ∧ e.key ≠ k) ∧ (∀ e ∈ es.toList, e.key ≠ k → e ∈ es'.toList) := by
  obtain ⟨s1, s2, s3⟩ := hs
  rcases klaw.find w hk es.toList hkeys with ⟨h1, h2⟩ | ⟨j, e0, h1, h2, h3⟩
  · refine ⟨es, ?_, ⟨s1, s2, s3⟩, fun e he => ⟨he, h2 e he⟩, fun e he _ => he⟩
    simp [Builtin.delete_, run_underlying Try.underlying60, MapKept.run_getObj_map hb, klaw.check w _ hk, h1, MapKept.run_setObj_map _ hb, Result.andThen, setBlock]
  · have hjl : j < es.toList.length := (List.getElem?_eq_some_iff.1 h2).1
    have hj : j < es.size := by simpa using hjl
    have ht : (es.eraseIdxIfInBounds j).toList = es.toList.eraseIdx j := by simp [Array.eraseIdxIfInBounds, hj]
    have hsub : (es.toList.eraseIdx j).Sublist es.toList := List.eraseIdx_sublist _ _
    have hmem : ∀ e ∈ es.toList.eraseIdx j, e.key ≠ k := by
      intro e he ek
      obtain ⟨i, hi⟩ := List.mem_iff_getElem?.1 he
      have a2 : (es.toList.map (·.key))[j]? = some k := by simp [h2, h3]
      by_cases hij : i < j
      · rw [List.getElem?_eraseIdx_of_lt hij] at hi
        have a1 : (es.toList.map (·.key))[i]? = some k := by simp [hi, ek]
        have := (List.getElem?_inj (List.getElem?_eq_some_iff.1 a1).1 s3).1 (a1.trans a2.symm)
        omega
      · rw [List.getElem?_eraseIdx_of_ge (by omega)] at hi
        have a1 : (es.toList.map (·.key))[i + 1]? = some k := by simp [hi, ek]
        have := (List.getElem?_inj (List.getElem?_eq_some_iff.1 a1).1 s3).1 (a1.trans a2.symm)
        omega
    refine ⟨es.eraseIdxIfInBounds j, ?_, ⟨?_, ?_, ?_⟩, ?_, ?_⟩
    · simp [Builtin.delete_, run_underlying Try.underlying60, MapKept.run_getObj_map hb, klaw.check w _ hk, h1, MapKept.run_setObj_map _ hb, Result.andThen, setBlock]
    · intro x hx
      rw [ht] at hx
      exact s1 x (hsub.mem hx)
    · rw [ht]
      exact List.Nodup.sublist (hsub.map _) s2
    · rw [ht]
      exact List.Nodup.sublist (hsub.map _) s3
    · intro e he
      rw [ht] at he
      exact ⟨hsub.mem he, hmem e he⟩
    · intro e he hne
      rw [ht]
      obtain ⟨i, hi⟩ := List.mem_iff_getElem?.1 he
      by_cases hij : i < j
      · exact List.mem_iff_getElem?.2 ⟨i, by rw [List.getElem?_eraseIdx_of_lt hij]; exact hi⟩
      · by_cases e1 : i = j
        · subst e1
          rw [h2] at hi
          cases hi
          exact absurd h3 hne
        · refine List.mem_iff_getElem?.2 ⟨i - 1, ?_⟩
          rw [List.getElem?_eraseIdx_of_ge (by omega), show i - 1 + 1 = i by omega]
          exact hi
open Classical in
noncomputable def updV (g : Value → Value) (k v : Value) : Value → Value := fun k' => if k' = k then v else g k'
theorem updV_at (g : Value → Value) (k v : Value) : updV g k v k = v := if_pos rfl
theorem updV_ne (g : Value → Value) {k k' : Value} (v : Value) (h : k' ≠ k) : updV g k v k' = g k' := if_neg h
theorem PMap.upd {w : World} {M : Nat} {g : Value → Value} (h : PMap w M g) {k : Value} (hk : isRun k) (v : Value) :
    ∃ w', (Instr.mapUpdate 60 (.map (some M)) k v).run Try.prog w = .ok () w' ∧ PMap w' M (updV g k v) ∧ Chg w w' (fun b => b = M) ∧ w'.heap.size = w.heap.size := by
  obtain ⟨es, clock, q⟩ := h
  obtain ⟨l, hk⟩ := hk
  obtain ⟨es', clock', r1, r2, r3, r4, r5⟩ := upd_core q.blk q.stamped q.keys (val := v) hk
  refine ⟨_, r1, ⟨es', clock', heap_setBlock_same q.blk _, r2, fun e he => ?_, fun e he => ?_, fun k' hk' => ?_⟩, Chg.of_setBlock q.blk _, by simp [setBlock]⟩
  · rcases r3 e he with ⟨h, _⟩ | ⟨h, _⟩
    · exact q.keys e h
    · rw [h]; exact ⟨l, hk⟩
  · rcases r3 e he with ⟨h, hne⟩ | ⟨h, hv⟩
    · rw [updV_ne _ _ hne]; exact q.val e h
    · rw [h, updV_at]; exact hv
  · have hne : k' ≠ k := fun e => by
      obtain ⟨x, hx, hxk, _⟩ := r5
      exact hk' x hx (hxk.trans e.symm)
    rw [updV_ne _ _ hne]
    exact q.non k' (fun e he ek => hk' e (r4 e he (by rw [ek]; exact hne)) ek)
theorem PMap.del {w : World} {M : Nat} {g : Value → Value} (h : PMap w M g) {k : Value} (hk : isRun k) (ty : TypeId) :
    ∃ w', (Builtin.delete_ #[60, 71] ty #[.map (some M), k]).run Try.prog w = .ok (.tuple #[]) w' ∧ PMap w' M (updV g k nilP) ∧ Chg w w' (fun b => b = M) ∧ w'.heap.size = w.heap.size := by
  obtain ⟨es, clock, q⟩ := h
  obtain ⟨l, hk⟩ := hk
  obtain ⟨es', r1, r2, r3, r4⟩ := del_core q.blk q.stamped q.keys ty hk
  refine ⟨_, r1, ⟨es', clock, heap_setBlock_same q.blk _, r2, fun e he => q.keys e (r3 e he).1, fun e he => ?_, fun k' hk' => ?_⟩, Chg.of_setBlock q.blk _, by simp [setBlock]⟩
  · rw [updV_ne _ _ (r3 e he).2]; exact q.val e (r3 e he).1
  · by_cases e1 : k' = k
    · rw [e1, updV_at]
    · rw [updV_ne _ _ e1]
      exact q.non k' (fun e he ek => hk' e (r4 e he (by rw [ek]; exact e1)) ek)
end Go.Proofs.Ytbpldnlafilbbaa
