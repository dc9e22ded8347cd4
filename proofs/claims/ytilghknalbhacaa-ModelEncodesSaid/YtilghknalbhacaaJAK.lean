import Derived.Test.YtilghknalbhacaaDcF
import Derived.Test.YtilghknalbhacaaJAJ
import Derived.Deep.RegionHeld3
import Derived.Test.YtilghknalbhacaaJAA
import Derived.Deep.Quiet
namespace Go.Proofs.Ytilghknalbhacaa
open Go.RowKit
/-! The reader's tokenMat. -/
/-- what tokenMat answers -/
structure TokP (w w' : World) (r bb : Nat) (B : List Int) (p : Nat) (bad : Bool) (c : Int) (g P : Nat) : Prop where
  lo : w.heap.size ≤ g
  ex : ∃ f, Own w' w.heap.size 84 1 (.slice (some ⟨g, 0, none⟩) P P) P (fun i => .int .i8 (f i)) ∧ (∀ i, i < P → -128 ≤ f i ∧ f i ≤ 127) ∧ RdP w w' r bb B p bad (secL c (nbL f P)) (SecS c P)
theorem idxT7 (w : World) : (Instr.index 118 (.agg tab8) (.int .i64 7)).run Try.prog w = .ok (.agg #[.func (.func 95) #[] #[], .func (.func 96) #[] #[]]) w := by kernel_rfl
set_option maxRecDepth 20000 in
set_option maxHeartbeats 4000000 in
theorem tokm_any {w : World} {r bb : Nat} {B : List Int} {p : Nat} {bad : Bool} (h : Rdr w r bb B p bad) (hbb : bb < w.heap.size) (V W H K L D N M : Int) {c : Int} (hc : 0 ≤ c ∧ c < 256) {P : Nat} (hP : V * W = (P : Int)) (h0 : 0 < P) (hn : P ≤ 1048576) :
    Calls Try.prog 67 #[.pointer (some ⟨r, 0, none⟩), .agg #[.int .i64 V, .int .i64 W, .int .i64 H, .int .i64 K, .int .i64 L, .int .i64 D, .int .i64 N, .int .i64 M], .int .u8 c] w fun e w' => ∃ g, e = .returned (.agg #[.int .i64 V, .int .i64 W, .slice (some ⟨g, 0, none⟩) P P]) ∧ TokP w w' r bb B p bad c g P := by
  have hrl := h.lt
  have HR := hidd h
  have hwp : IntKind.i64.wrap (V * W) = (P : Int) := by rw [hP]; exact wrap_small _ (by omega) (by omega)
  have hf0 := fresh_trans (fresh_alloc w (.cells #[.int .i64 V, .int .i64 W, .int .i64 H, .int .i64 K, .int .i64 L, .int .i64 D, .int .i64 N, .int .i64 M] 23)) (fresh_alloc _ (.cells #[.int .i64 0, .int .i64 0, .slice none 0 0] 29))
  have R2 := World.rowIs_alloc3 (w.alloc (.cells #[.int .i64 V, .int .i64 W, .int .i64 H, .int .i64 K, .int .i64 L, .int .i64 D, .int .i64 N, .int .i64 M] 23)) (.int .i64 0) (.int .i64 0) (.slice none 0 0) 29
  have HR2 : Hid (((w.alloc (.cells #[.int .i64 V, .int .i64 W, .int .i64 H, .int .i64 K, .int .i64 L, .int .i64 D, .int .i64 N, .int .i64 M] 23)).alloc (.cells #[.int .i64 0, .int .i64 0, .slice none 0 0] 29)).rowIs (w.heap.size + 1) 29 3 (row3 (.int .i64 0) (.int .i64 0) (.slice none 0 0))) := hidd (by simpa using R2)
  have HCF : Hid (∀ j, j < 8 → ((w.alloc (.cells #[.int .i64 V, .int .i64 W, .int .i64 H, .int .i64 K, .int .i64 L, .int .i64 D, .int .i64 N, .int .i64 M] 23)).alloc (.cells #[.int .i64 0, .int .i64 0, .slice none 0 0] 29)).cell? ⟨w.heap.size, j, none⟩ = some (.int .i64 ([V, W, H, K, L, D, N, M].getD j 0))) := fun j hj => by
    refine fresh_cell (fresh_alloc _ _) ?_
    have hh := heap_new w (.cells #[.int .i64 V, .int .i64 W, .int .i64 H, .int .i64 K, .int .i64 L, .int .i64 D, .int .i64 N, .int .i64 M] 23)
    rw [cell_heap hh j]
    match j, hj with
    | 0, _ | 1, _ | 2, _ | 3, _ | 4, _ | 5, _ | 6, _ | 7, _ => rfl
  have hs0 : ((w.alloc (.cells #[.int .i64 V, .int .i64 W, .int .i64 H, .int .i64 K, .int .i64 L, .int .i64 D, .int .i64 N, .int .i64 M] 23)).alloc (.cells #[.int .i64 0, .int .i64 0, .slice none 0 0] 29)).heap.size = w.heap.size + 2 := by simp
  clear h R2
  go_enter Try.func67, Try.ntmps67
  go_upto_region 1 with fail
  generalize ((w.alloc (.cells #[.int .i64 V, .int .i64 W, .int .i64 H, .int .i64 K, .int .i64 L, .int .i64 D, .int .i64 N, .int .i64 M] 23)).alloc (.cells #[.int .i64 0, .int .i64 0, .slice none 0 0] 29)) = w1 at *
  have d0 : w1.cell? ⟨w.heap.size, 0, none⟩ = some (.int .i64 V) := HCF.out 0 (by decide)
  have d1 : w1.cell? ⟨w.heap.size, 1, none⟩ = some (.int .i64 W) := HCF.out 1 (by decide)
  have HH := hidd (header_any w1 (c := c) (m := P) (by omega))
  have HR1 := hidd (HR.out.fresh hf0)
  have HF0 := hidd hf0
  clear hf0
  go_upto_region 2 with (first
    | (go_at_call 61; refine HH.out.mono ?_; rintro e w2 ⟨v, rfl, hv, f1⟩; have HM := hidd (meethdr HR1.out f1 hc hv); have hs1 := f1.size; clear hv f1 HH)
    | (go_at_call 35; refine HM.out.mono ?_; rintro e w3 ⟨rfl, hp3⟩))
  have hz3 := hp3.chg.size
  have HQ3 := hidd (hp3.chg.row HR2.out (by show ¬ (w.heap.size + 1 = r); omega))
  have HC3 : Hid (∀ j, j < 8 → w3.cell? ⟨w.heap.size, j, none⟩ = some (.int .i64 ([V, W, H, K, L, D, N, M].getD j 0))) := fun j hj => hp3.chg.cell (HCF.out j hj) (by omega)
  obtain ⟨p3, bad3, hs3, hr3⟩ := hp3.ex
  have HS3 := hidd hs3
  have HX3 := hidd hp3.chg
  have HSH : Hid (∀ z : World, Calls Try.prog 84 #[] z fun e w' => e = .returned (.agg tab8) ∧ Below z.heap.size z w') := shapes_any
  have HMT : Hid (∀ z, Below w3.heap.size w3 z → Calls Try.prog 92 #[.pointer (some ⟨r, 0, none⟩), .agg #[.int .i64 V, .int .i64 W, .int .i64 H, .int .i64 K, .int .i64 L, .int .i64 D, .int .i64 N, .int .i64 M], .agg #[.func (.func 95) #[] #[], .func (.func 96) #[] #[]]] z fun e w' => ∃ g, e = .returned (.agg #[.int .i64 V, .int .i64 W, .slice (some ⟨g, 0, none⟩) P P]) ∧ MatP z w' r bb B p3 bad3 g P) := fun z hz => matT (hr3.fresh hz) (by have := hz.size; omega) V W H K L D N M hP h0 hn
  have hix := idxT7
  obtain ⟨tb, HTB⟩ : ∃ t, Hid (t = Value.agg tab8) := ⟨_, rfl⟩
  rw [← HTB.out] at HSH hix
  clear hp3 hs3 hr3 HR2 HCF HR HR1 HM d0 d1
  have e0 : w3.cell? ⟨w.heap.size, 0, none⟩ = some (.int .i64 V) := HC3.out 0 (by decide)
  have e1 : w3.cell? ⟨w.heap.size, 1, none⟩ = some (.int .i64 W) := HC3.out 1 (by decide)
  have e2 : w3.cell? ⟨w.heap.size, 2, none⟩ = some (.int .i64 H) := HC3.out 2 (by decide)
  have e3 : w3.cell? ⟨w.heap.size, 3, none⟩ = some (.int .i64 K) := HC3.out 3 (by decide)
  have e4 : w3.cell? ⟨w.heap.size, 4, none⟩ = some (.int .i64 L) := HC3.out 4 (by decide)
  have e5 : w3.cell? ⟨w.heap.size, 5, none⟩ = some (.int .i64 D) := HC3.out 5 (by decide)
  have e6 : w3.cell? ⟨w.heap.size, 6, none⟩ = some (.int .i64 N) := HC3.out 6 (by decide)
  have e7 : w3.cell? ⟨w.heap.size, 7, none⟩ = some (.int .i64 M) := HC3.out 7 (by decide)
  go_region_with (first
    | (go_at_call 84; refine (HSH.out _).mono ?_; rintro e w4 ⟨rfl, f4⟩; have F4 := hidd f4; have g0 := fresh_cell f4 e0; have g1 := fresh_cell f4 e1; have g2 := fresh_cell f4 e2; have g3 := fresh_cell f4 e3; have g4 := fresh_cell f4 e4; have g5 := fresh_cell f4 e5; have g6 := fresh_cell f4 e6; have g7 := fresh_cell f4 e7; clear f4)
    | (go_at_call 92; refine (HMT.out _ (by first | exact F4.out | exact (Below.refl _ _).drew.trans (F4.out.mono (by simp)))).mono ?_; rintro e w5 ⟨g, rfl, hm⟩; have q5 := hm.ex.choose_spec.2.2.chg.row (HQ3.out.of_block ((by first | exact F4.out.block _ HQ3.out.lt | exact ((Below.refl _ _).drew.trans (F4.out.mono (by simp))).block _ HQ3.out.lt))) (by show ¬ (w.heap.size + 1 = r); omega); have b0 : w5.cell? ⟨w.heap.size + 1, 0, none⟩ = some (.int .i64 0) := q5.cell (i := 0) (by decide); have b1 : w5.cell? ⟨w.heap.size + 1, 1, none⟩ = some (.int .i64 0) := q5.cell (i := 1) (by decide); have b2 : w5.cell? ⟨w.heap.size + 1, 2, none⟩ = some (.slice none 0 0) := q5.cell (i := 2) (by decide); have z0 := q5.frozen; have HQ5 := hidd q5; have HM5 := hidd hm; clear q5 hm))
  all_goals
    have HF34 : Hid (Below w3.heap.size w3 w4) := (Below.refl _ _).drew.trans (F4.out.mono (by simp))
    have hs4 := HF34.out.size
    have hlo := HM5.out.lo
    have HQ := hidd (((HQ5.out.set 0 (.int .i64 V)).set 1 (.int .i64 W)).set 2 (.slice (some ⟨g, 0, none⟩) P P))
    have HCC : Hid (Chg w5 (((w5.setCell ⟨w.heap.size + 1, 0, none⟩ (.int .i64 V)).setCell ⟨w.heap.size + 1, 1, none⟩ (.int .i64 W)).setCell ⟨w.heap.size + 1, 2, none⟩ (.slice (some ⟨g, 0, none⟩) P P)) (fun b => b = w.heap.size + 1)) := ((Chg.of_set w5 _ 0 _).trans (Chg.of_set _ _ 1 _) (fun _ _ e => e)).trans (Chg.of_set _ _ 2 _) (fun _ _ e => e)
    clear b0 b1 b2 z0 HQ5 g0 g1 g2 g3 g4 g5 g6 g7 F4
    go_wp2
    refine bodyPost_ret (v := .agg #[.int .i64 V, .int .i64 W, .slice (some ⟨g, 0, none⟩) P P]) ?_ ?_ ?_
    · refine results_cell_mid Try.results67 _ _ (w.heap.size + 1) [.int .i64 V, .int .i64 W, .slice (some ⟨g, 0, none⟩) P P] _ rfl ?_ Try.underlying29 rfl (by kernel_rfl)
      intro j v hv
      match j, hv with
      | 0, hv => rw [← Option.some.inj hv]; exact HQ.out.cell (i := 0) (by decide)
      | 1, hv => rw [← Option.some.inj hv]; exact HQ.out.cell (i := 1) (by decide)
      | 2, hv => rw [← Option.some.inj hv]; exact HQ.out.cell (i := 2) (by decide)
      | j + 3, hv => cases hv
    · rfl
    · obtain ⟨f, ho, hb, hpp⟩ := HM5.out.ex
      obtain ⟨p5, bad5, h1, h2⟩ := hpp.ex
      refine ⟨g, rfl, by omega, f, (ho.chg HCC.out (fun b e hb => by have := (ho.lt b e).1; omega)).weaken (by omega), hb, ⟨p5, bad5, sec_two HS3.out h1 (fun _ e => e), h2.chg HCC.out (by omega) (by omega)⟩, ?_⟩
      exact (((Chg.pre HF0.out HX3.out).post HF34.out).trans hpp.chg (fun b _ e => e)).trans HCC.out (fun b hb e => by omega)
end Go.Proofs.Ytilghknalbhacaa
namespace Go.Proofs.Ytilghknalbhacaa
open Go.RowKit
/-! A region that draws its order, all of whose operations but the last are quiet: the last waits for all of them. -/
theorem pop_get (l : Array Bool) {i : Nat} (hi : i + 1 < l.size) : l.pop[i]? = l[i]? := by
  rw [Array.getElem?_pop, if_pos (by omega)]
theorem pop_set (l : Array Bool) {i : Nat} (hi : i + 1 < l.size) : (l.setIfInBounds i true).pop = l.pop.setIfInBounds i true := by
  apply Array.ext_getElem?
  intro j
  rw [Array.getElem?_pop, Array.getElem?_setIfInBounds, Array.getElem?_setIfInBounds, Array.getElem?_pop]
  simp only [Array.size_setIfInBounds, Array.size_pop]
  by_cases e : i = j
  · subst e
    rw [if_pos (by omega), if_pos rfl, if_pos (by omega), if_pos rfl, if_pos (by omega)]
  · rw [if_neg e, if_neg e]
/-- what the region's operations must be like -/
structure LastOk (pre : Array Oper) (o : Oper) : Prop where
  free : ∀ (i : Nat) (x : Oper), pre[i]? = some x → x.guard = none
  down : ∀ (i : Nat) (x : Oper), pre[i]? = some x → ∀ e ∈ x.after, e.on < i
  gl : o.guard = none
  all : ∀ i, i < pre.size → (∃ e ∈ o.after, Region.binds .any e = true ∧ e.on = i) ∨ ∃ e ∈ o.after, Region.binds .any e = true ∧ ∃ x : Oper, pre[e.on]? = some x ∧ ∃ f ∈ x.after, Region.binds .any f = true ∧ f.on = i
  low : ∀ e ∈ o.after, e.on < pre.size
def lastB (pre : Array Oper) (o : Oper) : Bool :=
  (List.range pre.size).all (fun i => ((pre[i]?).map fun x => x.guard.isNone && x.after.all fun e => decide (e.on < i)).getD false) && o.guard.isNone &&
  (List.range pre.size).all (fun i => (o.after.any fun e => Region.binds .any e && e.on == i) || o.after.any fun e => Region.binds .any e && ((pre[e.on]?).map fun x => x.after.any fun f => Region.binds .any f && f.on == i).getD false) && o.after.all fun e => decide (e.on < pre.size)
theorem lastOk_of {pre : Array Oper} {o : Oper} (h : lastB pre o = true) : LastOk pre o := by
  unfold lastB at h
  simp only [Bool.and_eq_true, List.all_eq_true, List.mem_range, Array.all_eq_true_iff_forall_mem, decide_eq_true_eq, Bool.or_eq_true] at h
  obtain ⟨⟨⟨h1, h2⟩, h3⟩, h4⟩ := h
  have key : ∀ (i : Nat) (x : Oper), pre[i]? = some x → x.guard.isNone = true ∧ x.after.all (fun e => decide (e.on < i)) = true := fun i x hx => by
    have hi := (Array.getElem?_eq_some_iff.1 hx).1
    have := h1 i hi
    rw [hx] at this
    simpa using this
  refine ⟨fun i x hx => ?_, fun i x hx e he => ?_, by simpa using h2, fun i hi => ?_, h4⟩
  · simpa using (key i x hx).1
  · have := (key i x hx).2
    rw [Array.all_eq_true_iff_forall_mem] at this
    simpa using this e he
  · rcases h3 i hi with q | q
    · left
      obtain ⟨k, hk, e1⟩ := Array.any_eq_true.1 q
      simp only [Bool.and_eq_true, beq_iff_eq] at e1
      exact ⟨_, Array.getElem_mem hk, e1.1, e1.2⟩
    · right
      obtain ⟨k, hk, e1⟩ := Array.any_eq_true.1 q
      simp only [Bool.and_eq_true] at e1
      refine ⟨_, Array.getElem_mem hk, e1.1, ?_⟩
      cases hx : pre[o.after[k].on]? with
      | none => rw [hx] at e1; simp at e1
      | some x =>
        rw [hx] at e1
        simp only [Option.map_some, Option.getD_some] at e1
        obtain ⟨m, hm, e2⟩ := Array.any_eq_true.1 e1.2
        simp only [Bool.and_eq_true, beq_iff_eq] at e2
        exact ⟨x, rfl, _, Array.getElem_mem hm, e2.1, e2.2⟩
/-- what has come up came behind what it waits for -/
def clo (pre : Array Oper) (l : Array Bool) : Prop := ∀ (j : Nat) (x : Oper), pre[j]? = some x → l.getD j false = true → ∀ e ∈ x.after, Region.binds .any e = true → l.getD e.on false = true
theorem all_listed {pre : Array Oper} {o : Oper} (hL : LastOk pre o) {l : Array Bool} (hs : l.size = pre.size) (hr : Region.ready .any pre l = []) : ∀ i, i < pre.size → l.getD i false = true := by
  intro i
  induction i using Nat.strongRecOn with
  | _ i ih =>
    intro hi
    cases hc : l.getD i true with
    | true =>
      rw [Array.getD_eq_getD_getElem?] at hc ⊢
      rw [Array.getElem?_eq_getElem (by omega)] at hc ⊢
      exact hc
    | false =>
      exfalso
      have hx : pre[i]? = some pre[i] := Array.getElem?_eq_getElem hi
      have hm : i ∈ Region.ready .any pre l := mem_ready.2 ⟨hc, _, hx, fun e he _ => ih e.on (hL.down i _ hx e he) (Nat.lt_trans (hL.down i _ hx e he) hi)⟩
      rw [hr] at hm
      cases hm
theorem wpAny_last {P : Program} {C : World → Prop} {Q : Exit → Act → World → Prop} {pre : Array Oper} {o : Oper} (hL : LastOk pre o) {Q1 : Act → Prop} (h1 : ∀ a, Q1 a → ∀ w, C w → wpList P (pre.push o) Q [o] a w) :
    ∀ (fuel k : Nat) (l : Array Bool) (a : Act) (w : World), l.size = pre.size + 1 → l.getD pre.size true = false → clo pre l → C w → wpAnyQ P .any pre C Q1 fuel l.pop a → fuel + 1 ≤ k → wpAny P .any (pre.push o) Q k l a w := by
  have hready : ∀ l : Array Bool, l.size = pre.size + 1 → l.getD pre.size true = false → clo pre l → ∀ i, i ∈ Region.ready .any (pre.push o) l → (i < pre.size ∧ i ∈ Region.ready .any pre l.pop) ∨ (i = pre.size ∧ ∀ j, j < pre.size → l.getD j false = true) := by
    intro l hs hu hcl i hi
    obtain ⟨q1, x, q2, q3⟩ := mem_ready.1 hi
    by_cases hip : i < pre.size
    · left
      have hx : pre[i]? = some x := by rw [← q2, Array.getElem?_push, if_neg (by omega)]
      refine ⟨hip, mem_ready.2 ⟨?_, x, hx, fun e he hb => ?_⟩⟩
      · rw [Array.getD_eq_getD_getElem?] at q1 ⊢
        rw [pop_get l (by omega)]
        exact q1
      · have := q3 e he hb
        have hd := hL.down i x hx e he
        rw [Array.getD_eq_getD_getElem?] at this ⊢
        rw [pop_get l (by omega)]
        exact this
    · right
      have hle : i = pre.size := by
        have := (Array.getElem?_eq_some_iff.1 q2).1
        simp at this
        omega
      subst hle
      obtain rfl : x = o := by simpa using q2.symm
      refine ⟨rfl, fun j hj => ?_⟩
      rcases hL.all j hj with ⟨e, he, hb, rfl⟩ | ⟨e, he, hb, x', hx', f, hf, hfb, rfl⟩
      · exact q3 e he hb
      · exact hcl e.on x' hx' (q3 e he hb) f hf hfb
  have hlast : ∀ (k : Nat) (l : Array Bool) (a : Act) (w : World), l.size = pre.size + 1 → l.getD pre.size true = false → clo pre l → C w → Q1 a → (∀ j, j < pre.size → l.getD j false = true) → wpAny P .any (pre.push o) Q (k + 1) l a w := by
    intro k l a w hs hu hcl hC hQ hall
    have hm : pre.size ∈ Region.ready .any (pre.push o) l := mem_ready.2 ⟨hu, o, by simp, fun e he _ => hall e.on (hL.low e he)⟩
    refine ⟨fun h => (by rw [h] at hm; cases hm), fun i hi => ?_⟩
    have hip : i = pre.size := by
      rcases hready l hs hu hcl i hi with ⟨hlt, hr⟩ | ⟨e, _⟩
      · have q1 := (mem_ready.1 hi).1
        have q2 := hall i hlt
        rw [Array.getD_eq_getD_getElem?, Array.getElem?_eq_getElem (by omega)] at q1 q2
        simp only [Option.getD_some] at q1 q2
        rw [q1] at q2
        cases q2
      · exact e
    subst hip
    have hdone : Region.ready .any (pre.push o) (l.setIfInBounds pre.size true) = [] := by
      rw [List.eq_nil_iff_forall_not_mem]
      intro j hj
      have q1 := (mem_ready.1 hj).1
      by_cases e : pre.size = j
      · subst e
        rw [Array.getD_eq_getD_getElem?, Array.getElem?_setIfInBounds, if_pos rfl, if_pos (by omega)] at q1
        cases q1
      · rw [getD_set_ne true e] at q1
        have hjl : j < pre.size := by
          obtain ⟨_, x, q2, _⟩ := mem_ready.1 hj
          have := (Array.getElem?_eq_some_iff.1 q2).1
          simp at this
          omega
        have q2 := hall j hjl
        rw [Array.getD_eq_getD_getElem?, Array.getElem?_eq_getElem (by omega)] at q1 q2
        simp only [Option.getD_some] at q1 q2
        rw [q1] at q2
        cases q2
    have hK : ∀ a' w', Q .normal a' w' → wpAny P .any (pre.push o) Q k (l.setIfInBounds pre.size true) a' w' := by
      intro a' w' hq
      cases k with
      | zero => exact ⟨hdone, hq⟩
      | succ k => exact ⟨fun _ => hq, fun i hi => by rw [hdone] at hi; cases hi⟩
    have hw := h1 a hQ w hC
    unfold wpList at hw
    unfold wpOp
    simp only [Array.getElem?_push, if_true]
    have hwt : Region.wanted o (yielded (pre.push o) a.tmps) = true := by unfold Region.wanted; rw [hL.gl]
    rw [hwt] at hw
    simp only [if_true] at hw
    rw [hwt]
    simp only [if_true]
    rcases hw with hw | hw
    · exact .inl (Oper.wp_mono (fun a' w' q => hK a' w' q) hw)
    · exact .inr hw
  intro fuel
  induction fuel with
  | zero =>
    intro k l a w hs hu hcl hC h hk
    cases k with
    | zero => omega
    | succ k => exact hlast k l a w hs hu hcl hC h.2 (fun j hj => by
        have := all_listed hL (l := l.pop) (by simp [hs]) h.1 j hj
        rw [Array.getD_eq_getD_getElem?] at this ⊢
        rwa [pop_get l (by omega)] at this)
  | succ fuel ih =>
    intro k l a w hs hu hcl hC h hk
    cases k with
    | zero => omega
    | succ k =>
      by_cases hr : Region.ready .any pre l.pop = []
      · exact hlast k l a w hs hu hcl hC (h.1 hr) (fun j hj => by
          have := all_listed hL (l := l.pop) (by simp [hs]) hr j hj
          rw [Array.getD_eq_getD_getElem?] at this ⊢
          rwa [pop_get l (by omega)] at this)
      · obtain ⟨i0, hi0⟩ := List.exists_mem_of_ne_nil _ hr
        refine ⟨fun hn => ?_, fun i hi => ?_⟩
        · exfalso
          obtain ⟨q1, x, q2, q3⟩ := mem_ready.1 hi0
          have hlt := (Array.getElem?_eq_some_iff.1 q2).1
          have hm : i0 ∈ Region.ready .any (pre.push o) l := mem_ready.2 ⟨by
            rw [Array.getD_eq_getD_getElem?] at q1 ⊢
            rwa [pop_get l (by omega)] at q1, x, by rw [Array.getElem?_push, if_neg (by omega)]; exact q2, fun e he hb => by
            have h9 := q3 e he hb
            have hd := hL.down i0 x q2 e he
            rw [Array.getD_eq_getD_getElem?] at h9 ⊢
            rwa [pop_get l (by omega)] at h9⟩
          rw [hn] at hm
          cases hm
        · rcases hready l hs hu hcl i hi with ⟨hlt, hri⟩ | ⟨rfl, hall⟩
          · have hq := h.2 i hri
            have hx : pre[i]? = some pre[i] := Array.getElem?_eq_getElem hlt
            have hx2 : (pre.push o)[i]? = some pre[i] := by rw [Array.getElem?_push, if_neg (by omega)]; exact hx
            have hg := hL.free i _ hx
            unfold qOp at hq
            rw [hx] at hq
            unfold wpOp
            rw [hx2]
            have w1 : Region.wanted pre[i] (yielded pre a.tmps) = true := by unfold Region.wanted; rw [hg]
            have w2 : Region.wanted pre[i] (yielded (pre.push o) a.tmps) = true := by unfold Region.wanted; rw [hg]
            simp only [w1, w2, if_true] at hq ⊢
            refine .inl (Oper.wp_of_quiet hC (fun a' w' hC' q => ?_) hq)
            have hcl' : clo pre (l.setIfInBounds i true) := fun j x hjx hj e he hb => by
              by_cases ej : i = j
              · subst ej
                obtain ⟨_, y, hy, q9⟩ := mem_ready.1 hi
                rw [hx2] at hy
                rw [hx] at hjx
                cases hy
                cases hjx
                exact getD_set_true (q9 e he hb)
              · rw [getD_set_ne false ej] at hj
                exact getD_set_true (hcl j x hjx hj e he hb)
            refine ih k _ a' w' (by simp [hs]) (by rw [getD_set_ne true (by omega)]; exact hu) hcl' hC' ?_ (by omega)
            rw [pop_set l (by omega)]
            exact q
          · exfalso
            obtain ⟨q1, x, q2, _⟩ := mem_ready.1 hi0
            have hlt := (Array.getElem?_eq_some_iff.1 q2).1
            have q9 := hall i0 hlt
            rw [Array.getD_eq_getD_getElem?, pop_get l (by omega), Array.getElem?_eq_getElem (by omega)] at q1
            rw [Array.getD_eq_getD_getElem?, Array.getElem?_eq_getElem (by omega)] at q9
            simp only [Option.getD_some] at q1 q9
            rw [q1] at q9
            cases q9
/-- All operations but the last are quiet in a class of worlds, the last is walked where they have ended. -/
theorem wp_region_last {P : Program} {id : Nat} {Q : Exit → Act → World → Prop} {a : Act} {w : World} {C : World → Prop} {l : List Oper} (pre : List Oper) (o : Oper) (hl : l = pre ++ [o]) (hm : P.follows .mixedOrders = true) (hB : Region.lexB .any pre.toArray = true) (hL : lastB pre.toArray o = true) (hC : C w.drew)
    (h : wpQuiet P pre.toArray C (fun a' => ∀ w', C w' → wpList P l.toArray Q [o] a' w') pre a) : (Code.region id l.toArray true).wp P Q a w := by
  have hpush : l.toArray = pre.toArray.push o := by rw [hl]; simp
  rw [hpush] at h ⊢
  simp only [Region.lexB, Bool.and_eq_true] at hB
  refine wp_region_any hm ?_
  have hq := wpAnyQ_lex (C := C) (md := .any) hB.1 pre.toArray.toList 0 (Array.replicate pre.toArray.size false) a (by simp) (by simpa using hB.2) (by simpa using h)
  refine wpAny_last (Q1 := fun a' => ∀ w', C w' → wpList P (pre.toArray.push o) Q [o] a' w') (lastOk_of hL) (fun a' q w' hw' => q w' hw') _ _ _ a _ (by simp) (by simp) (fun j x hjx hj => by have hlt := (Array.getElem?_eq_some_iff.1 hjx).1; rw [Array.getD_eq_getD_getElem?, Array.getElem?_replicate] at hj; split at hj <;> cases hj) hC (by simpa using hq) (by simp)
theorem wp_region_lastL {P : Program} {id : Nat} {Q : Exit → Act → World → Prop} {a : Act} {w : World} {C : World → Prop} {l : List Oper} (hn : l ≠ []) (hm : P.follows .mixedOrders = true) (hB : Region.lexB .any l.dropLast.toArray = true) (hL : lastB l.dropLast.toArray (l.getLast hn) = true) (hC : C w.drew)
    (h : wpQuiet P l.dropLast.toArray C (fun a' => ∀ w', C w' → wpList P l.toArray Q [l.getLast hn] a' w') l.dropLast a) : (Code.region id l.toArray true).wp P Q a w :=
  wp_region_last l.dropLast (l.getLast hn) (List.dropLast_concat_getLast hn).symm hm hB hL hC h
end Go.Proofs.Ytilghknalbhacaa
