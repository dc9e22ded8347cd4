import Derived.Test.YtilghknalbhacaaJAF
import Derived.Test.YtilghknalbhacaaJAI
import Derived.Test.YtilghknalbhacaaCpA
namespace Go.Proofs.Ytilghknalbhacaa
open Go.RowKit
/-! The reader's mat. -/
theorem third_alloc (w : World) (o1 o2 : Obj) (cs : Array Value) (t : TypeId) (j : Nat) : (((w.alloc o1).alloc o2).alloc (.cells cs t)).cell? ⟨w.heap.size + 1 + 1, j, none⟩ = cs[j]? := by
  have h := heap_new ((w.alloc o1).alloc o2) (.cells cs t)
  have hs : ((w.alloc o1).alloc o2).heap.size = w.heap.size + 1 + 1 := by simp
  rw [hs] at h
  exact cell_heap h j
/-- what mat answers: a matrix of this shape in memory of its own -/
structure MatP (w w' : World) (r bb : Nat) (B : List Int) (p : Nat) (bad : Bool) (g P : Nat) : Prop where
  lo : w.heap.size ≤ g
  ex : ∃ f, Own w' w.heap.size 84 1 (.slice (some ⟨g, 0, none⟩) P P) P (fun i => .int .i8 (f i)) ∧ (∀ i, i < P → -128 ≤ f i ∧ f i ≤ 127) ∧ RdP w w' r bb B p bad (nbL f P) (fun M => M.length = P)
set_option maxRecDepth 20000 in
set_option maxHeartbeats 4000000 in
theorem matQO {w : World} {r bb : Nat} {B : List Int} {p : Nat} {bad : Bool} (h : Rdr w r bb B p bad) (hbb : bb < w.heap.size) (V W H K L D N M : Int) {P : Nat} (hP : W * W = (P : Int)) (h0 : 0 < P) (hn : P ≤ 1048576) :
    Calls Try.prog 92 #[.pointer (some ⟨r, 0, none⟩), .agg #[.int .i64 V, .int .i64 W, .int .i64 H, .int .i64 K, .int .i64 L, .int .i64 D, .int .i64 N, .int .i64 M], .agg #[.func (.func 96) #[] #[], .func (.func 96) #[] #[]]] w fun e w' => ∃ g, e = .returned (.agg #[.int .i64 W, .int .i64 W, .slice (some ⟨g, 0, none⟩) P P]) ∧ MatP w w' r bb B p bad g P := by
  have hrl := h.lt
  have HR := hidd h
  have hwp : IntKind.i64.wrap (W * W) = (P : Int) := by rw [hP]; exact wrap_small _ (by omega) (by omega)
  have hf0 := fresh_trans (fresh_trans (fresh_alloc w (.cells #[.int .i64 V, .int .i64 W, .int .i64 H, .int .i64 K, .int .i64 L, .int .i64 D, .int .i64 N, .int .i64 M] 23)) (fresh_alloc _ (.cells #[.func (.func 96) #[] #[], .func (.func 96) #[] #[]] 117))) (fresh_alloc _ (.cells #[.int .i64 0, .int .i64 0, .slice none 0 0] 29))
  have R2 := World.rowIs_alloc3 ((w.alloc (.cells #[.int .i64 V, .int .i64 W, .int .i64 H, .int .i64 K, .int .i64 L, .int .i64 D, .int .i64 N, .int .i64 M] 23)).alloc (.cells #[.func (.func 96) #[] #[], .func (.func 96) #[] #[]] 117)) (.int .i64 0) (.int .i64 0) (.slice none 0 0) 29
  have HR2 : Hid ((((w.alloc (.cells #[.int .i64 V, .int .i64 W, .int .i64 H, .int .i64 K, .int .i64 L, .int .i64 D, .int .i64 N, .int .i64 M] 23)).alloc (.cells #[.func (.func 96) #[] #[], .func (.func 96) #[] #[]] 117)).alloc (.cells #[.int .i64 0, .int .i64 0, .slice none 0 0] 29)).rowIs (w.heap.size + 1 + 1) 29 3 (row3 (.int .i64 0) (.int .i64 0) (.slice none 0 0))) := hidd (by simpa using R2)
  clear h R2
  go_enter Try.func92, Try.ntmps92
  go_upto_region 1 with fail
  have d0 := fresh_cell (fresh_alloc ((w.alloc (.cells #[.int .i64 V, .int .i64 W, .int .i64 H, .int .i64 K, .int .i64 L, .int .i64 D, .int .i64 N, .int .i64 M] 23)).alloc (.cells #[.func (.func 96) #[] #[], .func (.func 96) #[] #[]] 117)) (.cells #[.int .i64 0, .int .i64 0, .slice none 0 0] 29)) (show ((w.alloc (.cells #[.int .i64 V, .int .i64 W, .int .i64 H, .int .i64 K, .int .i64 L, .int .i64 D, .int .i64 N, .int .i64 M] 23)).alloc (.cells #[.func (.func 96) #[] #[], .func (.func 96) #[] #[]] 117)).cell? ⟨w.heap.size, 0, none⟩ = some (.int .i64 V) by simp)
  have d1 := fresh_cell (fresh_alloc ((w.alloc (.cells #[.int .i64 V, .int .i64 W, .int .i64 H, .int .i64 K, .int .i64 L, .int .i64 D, .int .i64 N, .int .i64 M] 23)).alloc (.cells #[.func (.func 96) #[] #[], .func (.func 96) #[] #[]] 117)) (.cells #[.int .i64 0, .int .i64 0, .slice none 0 0] 29)) (show ((w.alloc (.cells #[.int .i64 V, .int .i64 W, .int .i64 H, .int .i64 K, .int .i64 L, .int .i64 D, .int .i64 N, .int .i64 M] 23)).alloc (.cells #[.func (.func 96) #[] #[], .func (.func 96) #[] #[]] 117)).cell? ⟨w.heap.size, 1, none⟩ = some (.int .i64 W) by simp)
  have d2 := fresh_cell (fresh_alloc ((w.alloc (.cells #[.int .i64 V, .int .i64 W, .int .i64 H, .int .i64 K, .int .i64 L, .int .i64 D, .int .i64 N, .int .i64 M] 23)).alloc (.cells #[.func (.func 96) #[] #[], .func (.func 96) #[] #[]] 117)) (.cells #[.int .i64 0, .int .i64 0, .slice none 0 0] 29)) (show ((w.alloc (.cells #[.int .i64 V, .int .i64 W, .int .i64 H, .int .i64 K, .int .i64 L, .int .i64 D, .int .i64 N, .int .i64 M] 23)).alloc (.cells #[.func (.func 96) #[] #[], .func (.func 96) #[] #[]] 117)).cell? ⟨w.heap.size, 2, none⟩ = some (.int .i64 H) by simp)
  have d3 := fresh_cell (fresh_alloc ((w.alloc (.cells #[.int .i64 V, .int .i64 W, .int .i64 H, .int .i64 K, .int .i64 L, .int .i64 D, .int .i64 N, .int .i64 M] 23)).alloc (.cells #[.func (.func 96) #[] #[], .func (.func 96) #[] #[]] 117)) (.cells #[.int .i64 0, .int .i64 0, .slice none 0 0] 29)) (show ((w.alloc (.cells #[.int .i64 V, .int .i64 W, .int .i64 H, .int .i64 K, .int .i64 L, .int .i64 D, .int .i64 N, .int .i64 M] 23)).alloc (.cells #[.func (.func 96) #[] #[], .func (.func 96) #[] #[]] 117)).cell? ⟨w.heap.size, 3, none⟩ = some (.int .i64 K) by simp)
  have d4 := fresh_cell (fresh_alloc ((w.alloc (.cells #[.int .i64 V, .int .i64 W, .int .i64 H, .int .i64 K, .int .i64 L, .int .i64 D, .int .i64 N, .int .i64 M] 23)).alloc (.cells #[.func (.func 96) #[] #[], .func (.func 96) #[] #[]] 117)) (.cells #[.int .i64 0, .int .i64 0, .slice none 0 0] 29)) (show ((w.alloc (.cells #[.int .i64 V, .int .i64 W, .int .i64 H, .int .i64 K, .int .i64 L, .int .i64 D, .int .i64 N, .int .i64 M] 23)).alloc (.cells #[.func (.func 96) #[] #[], .func (.func 96) #[] #[]] 117)).cell? ⟨w.heap.size, 4, none⟩ = some (.int .i64 L) by simp)
  have d5 := fresh_cell (fresh_alloc ((w.alloc (.cells #[.int .i64 V, .int .i64 W, .int .i64 H, .int .i64 K, .int .i64 L, .int .i64 D, .int .i64 N, .int .i64 M] 23)).alloc (.cells #[.func (.func 96) #[] #[], .func (.func 96) #[] #[]] 117)) (.cells #[.int .i64 0, .int .i64 0, .slice none 0 0] 29)) (show ((w.alloc (.cells #[.int .i64 V, .int .i64 W, .int .i64 H, .int .i64 K, .int .i64 L, .int .i64 D, .int .i64 N, .int .i64 M] 23)).alloc (.cells #[.func (.func 96) #[] #[], .func (.func 96) #[] #[]] 117)).cell? ⟨w.heap.size, 5, none⟩ = some (.int .i64 D) by simp)
  have d6 := fresh_cell (fresh_alloc ((w.alloc (.cells #[.int .i64 V, .int .i64 W, .int .i64 H, .int .i64 K, .int .i64 L, .int .i64 D, .int .i64 N, .int .i64 M] 23)).alloc (.cells #[.func (.func 96) #[] #[], .func (.func 96) #[] #[]] 117)) (.cells #[.int .i64 0, .int .i64 0, .slice none 0 0] 29)) (show ((w.alloc (.cells #[.int .i64 V, .int .i64 W, .int .i64 H, .int .i64 K, .int .i64 L, .int .i64 D, .int .i64 N, .int .i64 M] 23)).alloc (.cells #[.func (.func 96) #[] #[], .func (.func 96) #[] #[]] 117)).cell? ⟨w.heap.size, 6, none⟩ = some (.int .i64 N) by simp)
  have d7 := fresh_cell (fresh_alloc ((w.alloc (.cells #[.int .i64 V, .int .i64 W, .int .i64 H, .int .i64 K, .int .i64 L, .int .i64 D, .int .i64 N, .int .i64 M] 23)).alloc (.cells #[.func (.func 96) #[] #[], .func (.func 96) #[] #[]] 117)) (.cells #[.int .i64 0, .int .i64 0, .slice none 0 0] 29)) (show ((w.alloc (.cells #[.int .i64 V, .int .i64 W, .int .i64 H, .int .i64 K, .int .i64 L, .int .i64 D, .int .i64 N, .int .i64 M] 23)).alloc (.cells #[.func (.func 96) #[] #[], .func (.func 96) #[] #[]] 117)).cell? ⟨w.heap.size, 7, none⟩ = some (.int .i64 M) by simp)
  have d8 := fresh_cell (fresh_alloc ((w.alloc (.cells #[.int .i64 V, .int .i64 W, .int .i64 H, .int .i64 K, .int .i64 L, .int .i64 D, .int .i64 N, .int .i64 M] 23)).alloc (.cells #[.func (.func 96) #[] #[], .func (.func 96) #[] #[]] 117)) (.cells #[.int .i64 0, .int .i64 0, .slice none 0 0] 29)) (show ((w.alloc (.cells #[.int .i64 V, .int .i64 W, .int .i64 H, .int .i64 K, .int .i64 L, .int .i64 D, .int .i64 N, .int .i64 M] 23)).alloc (.cells #[.func (.func 96) #[] #[], .func (.func 96) #[] #[]] 117)).cell? ⟨w.heap.size + 1, 0, none⟩ = some (.func (.func 96) #[] #[]) by simp)
  have d9 := fresh_cell (fresh_alloc ((w.alloc (.cells #[.int .i64 V, .int .i64 W, .int .i64 H, .int .i64 K, .int .i64 L, .int .i64 D, .int .i64 N, .int .i64 M] 23)).alloc (.cells #[.func (.func 96) #[] #[], .func (.func 96) #[] #[]] 117)) (.cells #[.int .i64 0, .int .i64 0, .slice none 0 0] 29)) (show ((w.alloc (.cells #[.int .i64 V, .int .i64 W, .int .i64 H, .int .i64 K, .int .i64 L, .int .i64 D, .int .i64 N, .int .i64 M] 23)).alloc (.cells #[.func (.func 96) #[] #[], .func (.func 96) #[] #[]] 117)).cell? ⟨w.heap.size + 1, 1, none⟩ = some (.func (.func 96) #[] #[]) by simp)
  have hs0 : (((w.alloc (.cells #[.int .i64 V, .int .i64 W, .int .i64 H, .int .i64 K, .int .i64 L, .int .i64 D, .int .i64 N, .int .i64 M] 23)).alloc (.cells #[.func (.func 96) #[] #[], .func (.func 96) #[] #[]] 117)).alloc (.cells #[.int .i64 0, .int .i64 0, .slice none 0 0] 29)).heap.size = w.heap.size + 3 := by simp
  generalize (((w.alloc (.cells #[.int .i64 V, .int .i64 W, .int .i64 H, .int .i64 K, .int .i64 L, .int .i64 D, .int .i64 N, .int .i64 M] 23)).alloc (.cells #[.func (.func 96) #[] #[], .func (.func 96) #[] #[]] 117)).alloc (.cells #[.int .i64 0, .int .i64 0, .slice none 0 0] 29)) = w1 at *
  replace d0 := later_cell d0
  replace d1 := later_cell d1
  replace d2 := later_cell d2
  replace d3 := later_cell d3
  replace d4 := later_cell d4
  replace d5 := later_cell d5
  replace d6 := later_cell d6
  replace d7 := later_cell d7
  replace d8 := later_cell d8
  replace d9 := later_cell d9
  have ne := later_some w1
  refine wp_region_later (by kernel_rfl) (by kernel_rfl) ?_
  repeat (go_big_quiet_step (fail))
  go_big_quiet_step (exact later_of (shWidth _ _ _ _ _ _ _ _ _))
  repeat (go_big_quiet_step (fail))
  go_big_quiet_step (exact later_of (shWidth _ _ _ _ _ _ _ _ _))
  repeat (go_big_quiet_step (fail))
  refine wpQuiet_nil ?_
  rintro _ ⟨z, rfl⟩
  have hz := z.fresh
  have HFZ := hidd (fresh_trans hf0 hz)
  have hsz : w.heap.size + 3 ≤ z.val.heap.size := by have := hz.size; omega
  have HRZ := hidd (row_fresh HR2.out hz)
  have HNR := hidd (narrow_any (HR.out.fresh HFZ.out) (Nat.lt_of_lt_of_le hbb HFZ.out.size) h0 hn)
  clear d0 d1 d2 d3 d4 d5 d6 d7 d8 d9 ne hz hf0 HR2
  generalize z.val = w2 at *
  go_wp2_with (go_at_call 71; refine HNR.out.mono ?_; rintro e w3 ⟨rfl, f, ho, hb, hp⟩; have q2 := hp.chg.row HRZ.out (by show ¬ (w.heap.size + 1 + 1 = r); omega); have b0 : w3.cell? ⟨w.heap.size + 1 + 1, 0, none⟩ = some (.int .i64 0) := q2.cell (i := 0) (by decide); have b1 : w3.cell? ⟨w.heap.size + 1 + 1, 1, none⟩ = some (.int .i64 0) := q2.cell (i := 1) (by decide); have b2 : w3.cell? ⟨w.heap.size + 1 + 1, 2, none⟩ = some (.slice none 0 0) := q2.cell (i := 2) (by decide); have z0 := q2.frozen; have HQ2 := hidd q2; have HO := hidd ho; have HBD := hidd hb; have HP := hidd hp; clear q2 ho hb hp)
  have hs3 := HP.out.chg.size
  have HQ := hidd (((HQ2.out.set 0 (.int .i64 W)).set 1 (.int .i64 W)).set 2 (.slice (some ⟨w2.heap.size, 0, none⟩) P P))
  have HCC : Hid (Chg w3 (((w3.setCell ⟨w.heap.size + 1 + 1, 0, none⟩ (.int .i64 W)).setCell ⟨w.heap.size + 1 + 1, 1, none⟩ (.int .i64 W)).setCell ⟨w.heap.size + 1 + 1, 2, none⟩ (.slice (some ⟨w2.heap.size, 0, none⟩) P P)) (fun b => b = w.heap.size + 1 + 1)) := ((Chg.of_set w3 _ 0 _).trans (Chg.of_set _ _ 1 _) (fun _ _ e => e)).trans (Chg.of_set _ _ 2 _) (fun _ _ e => e)
  refine bodyPost_ret (v := .agg #[.int .i64 W, .int .i64 W, .slice (some ⟨w2.heap.size, 0, none⟩) P P]) ?_ ?_ ?_
  · refine results_cell_mid Try.results92 _ _ (w.heap.size + 1 + 1) [.int .i64 W, .int .i64 W, .slice (some ⟨w2.heap.size, 0, none⟩) P P] _ rfl ?_ Try.underlying29 rfl (by kernel_rfl)
    intro j v hv
    match j, hv with
    | 0, hv => rw [← Option.some.inj hv]; exact HQ.out.cell (i := 0) (by decide)
    | 1, hv => rw [← Option.some.inj hv]; exact HQ.out.cell (i := 1) (by decide)
    | 2, hv => rw [← Option.some.inj hv]; exact HQ.out.cell (i := 2) (by decide)
    | j + 3, hv => cases hv
  · rfl
  · obtain ⟨p', bad', h1, h2⟩ := HP.out.ex
    refine ⟨_, rfl, by omega, f, (HO.out.chg HCC.out (fun b e hb => by have := (HO.out.lt b e).1; omega)).weaken (by omega), HBD.out, ⟨p', bad', h1, h2.chg HCC.out (by omega) (by omega)⟩, ?_⟩
    exact (Chg.pre HFZ.out HP.out.chg).trans HCC.out (fun b hb e => by omega)
set_option maxRecDepth 20000 in
set_option maxHeartbeats 4000000 in
theorem matKV {w : World} {r bb : Nat} {B : List Int} {p : Nat} {bad : Bool} (h : Rdr w r bb B p bad) (hbb : bb < w.heap.size) (V W H K L D N M : Int) (kv : Int) (hH : 1 ≤ H) (hH4 : H ≤ 4) (hW : 2 ≤ W) (hW2 : W ≤ 32) (hkv : K * (W / H) = kv) (kv0 : 0 ≤ kv) (kv1 : kv ≤ 128) {P : Nat} (hP : kv * W = (P : Int)) (h0 : 0 < P) (hn : P ≤ 1048576) :
    Calls Try.prog 92 #[.pointer (some ⟨r, 0, none⟩), .agg #[.int .i64 V, .int .i64 W, .int .i64 H, .int .i64 K, .int .i64 L, .int .i64 D, .int .i64 N, .int .i64 M], .agg #[.func (.func 98) #[] #[], .func (.func 96) #[] #[]]] w fun e w' => ∃ g, e = .returned (.agg #[.int .i64 kv, .int .i64 W, .slice (some ⟨g, 0, none⟩) P P]) ∧ MatP w w' r bb B p bad g P := by
  have hrl := h.lt
  have HR := hidd h
  have hwp : IntKind.i64.wrap (kv * W) = (P : Int) := by rw [hP]; exact wrap_small _ (by omega) (by omega)
  have hf0 := fresh_trans (fresh_trans (fresh_alloc w (.cells #[.int .i64 V, .int .i64 W, .int .i64 H, .int .i64 K, .int .i64 L, .int .i64 D, .int .i64 N, .int .i64 M] 23)) (fresh_alloc _ (.cells #[.func (.func 98) #[] #[], .func (.func 96) #[] #[]] 117))) (fresh_alloc _ (.cells #[.int .i64 0, .int .i64 0, .slice none 0 0] 29))
  have R2 := World.rowIs_alloc3 ((w.alloc (.cells #[.int .i64 V, .int .i64 W, .int .i64 H, .int .i64 K, .int .i64 L, .int .i64 D, .int .i64 N, .int .i64 M] 23)).alloc (.cells #[.func (.func 98) #[] #[], .func (.func 96) #[] #[]] 117)) (.int .i64 0) (.int .i64 0) (.slice none 0 0) 29
  have HR2 : Hid ((((w.alloc (.cells #[.int .i64 V, .int .i64 W, .int .i64 H, .int .i64 K, .int .i64 L, .int .i64 D, .int .i64 N, .int .i64 M] 23)).alloc (.cells #[.func (.func 98) #[] #[], .func (.func 96) #[] #[]] 117)).alloc (.cells #[.int .i64 0, .int .i64 0, .slice none 0 0] 29)).rowIs (w.heap.size + 1 + 1) 29 3 (row3 (.int .i64 0) (.int .i64 0) (.slice none 0 0))) := hidd (by simpa using R2)
  clear h R2
  go_enter Try.func92, Try.ntmps92
  go_upto_region 1 with fail
  have d0 := fresh_cell (fresh_alloc ((w.alloc (.cells #[.int .i64 V, .int .i64 W, .int .i64 H, .int .i64 K, .int .i64 L, .int .i64 D, .int .i64 N, .int .i64 M] 23)).alloc (.cells #[.func (.func 98) #[] #[], .func (.func 96) #[] #[]] 117)) (.cells #[.int .i64 0, .int .i64 0, .slice none 0 0] 29)) (show ((w.alloc (.cells #[.int .i64 V, .int .i64 W, .int .i64 H, .int .i64 K, .int .i64 L, .int .i64 D, .int .i64 N, .int .i64 M] 23)).alloc (.cells #[.func (.func 98) #[] #[], .func (.func 96) #[] #[]] 117)).cell? ⟨w.heap.size, 0, none⟩ = some (.int .i64 V) by simp)
  have d1 := fresh_cell (fresh_alloc ((w.alloc (.cells #[.int .i64 V, .int .i64 W, .int .i64 H, .int .i64 K, .int .i64 L, .int .i64 D, .int .i64 N, .int .i64 M] 23)).alloc (.cells #[.func (.func 98) #[] #[], .func (.func 96) #[] #[]] 117)) (.cells #[.int .i64 0, .int .i64 0, .slice none 0 0] 29)) (show ((w.alloc (.cells #[.int .i64 V, .int .i64 W, .int .i64 H, .int .i64 K, .int .i64 L, .int .i64 D, .int .i64 N, .int .i64 M] 23)).alloc (.cells #[.func (.func 98) #[] #[], .func (.func 96) #[] #[]] 117)).cell? ⟨w.heap.size, 1, none⟩ = some (.int .i64 W) by simp)
  have d2 := fresh_cell (fresh_alloc ((w.alloc (.cells #[.int .i64 V, .int .i64 W, .int .i64 H, .int .i64 K, .int .i64 L, .int .i64 D, .int .i64 N, .int .i64 M] 23)).alloc (.cells #[.func (.func 98) #[] #[], .func (.func 96) #[] #[]] 117)) (.cells #[.int .i64 0, .int .i64 0, .slice none 0 0] 29)) (show ((w.alloc (.cells #[.int .i64 V, .int .i64 W, .int .i64 H, .int .i64 K, .int .i64 L, .int .i64 D, .int .i64 N, .int .i64 M] 23)).alloc (.cells #[.func (.func 98) #[] #[], .func (.func 96) #[] #[]] 117)).cell? ⟨w.heap.size, 2, none⟩ = some (.int .i64 H) by simp)
  have d3 := fresh_cell (fresh_alloc ((w.alloc (.cells #[.int .i64 V, .int .i64 W, .int .i64 H, .int .i64 K, .int .i64 L, .int .i64 D, .int .i64 N, .int .i64 M] 23)).alloc (.cells #[.func (.func 98) #[] #[], .func (.func 96) #[] #[]] 117)) (.cells #[.int .i64 0, .int .i64 0, .slice none 0 0] 29)) (show ((w.alloc (.cells #[.int .i64 V, .int .i64 W, .int .i64 H, .int .i64 K, .int .i64 L, .int .i64 D, .int .i64 N, .int .i64 M] 23)).alloc (.cells #[.func (.func 98) #[] #[], .func (.func 96) #[] #[]] 117)).cell? ⟨w.heap.size, 3, none⟩ = some (.int .i64 K) by simp)
  have d4 := fresh_cell (fresh_alloc ((w.alloc (.cells #[.int .i64 V, .int .i64 W, .int .i64 H, .int .i64 K, .int .i64 L, .int .i64 D, .int .i64 N, .int .i64 M] 23)).alloc (.cells #[.func (.func 98) #[] #[], .func (.func 96) #[] #[]] 117)) (.cells #[.int .i64 0, .int .i64 0, .slice none 0 0] 29)) (show ((w.alloc (.cells #[.int .i64 V, .int .i64 W, .int .i64 H, .int .i64 K, .int .i64 L, .int .i64 D, .int .i64 N, .int .i64 M] 23)).alloc (.cells #[.func (.func 98) #[] #[], .func (.func 96) #[] #[]] 117)).cell? ⟨w.heap.size, 4, none⟩ = some (.int .i64 L) by simp)
  have d5 := fresh_cell (fresh_alloc ((w.alloc (.cells #[.int .i64 V, .int .i64 W, .int .i64 H, .int .i64 K, .int .i64 L, .int .i64 D, .int .i64 N, .int .i64 M] 23)).alloc (.cells #[.func (.func 98) #[] #[], .func (.func 96) #[] #[]] 117)) (.cells #[.int .i64 0, .int .i64 0, .slice none 0 0] 29)) (show ((w.alloc (.cells #[.int .i64 V, .int .i64 W, .int .i64 H, .int .i64 K, .int .i64 L, .int .i64 D, .int .i64 N, .int .i64 M] 23)).alloc (.cells #[.func (.func 98) #[] #[], .func (.func 96) #[] #[]] 117)).cell? ⟨w.heap.size, 5, none⟩ = some (.int .i64 D) by simp)
  have d6 := fresh_cell (fresh_alloc ((w.alloc (.cells #[.int .i64 V, .int .i64 W, .int .i64 H, .int .i64 K, .int .i64 L, .int .i64 D, .int .i64 N, .int .i64 M] 23)).alloc (.cells #[.func (.func 98) #[] #[], .func (.func 96) #[] #[]] 117)) (.cells #[.int .i64 0, .int .i64 0, .slice none 0 0] 29)) (show ((w.alloc (.cells #[.int .i64 V, .int .i64 W, .int .i64 H, .int .i64 K, .int .i64 L, .int .i64 D, .int .i64 N, .int .i64 M] 23)).alloc (.cells #[.func (.func 98) #[] #[], .func (.func 96) #[] #[]] 117)).cell? ⟨w.heap.size, 6, none⟩ = some (.int .i64 N) by simp)
  have d7 := fresh_cell (fresh_alloc ((w.alloc (.cells #[.int .i64 V, .int .i64 W, .int .i64 H, .int .i64 K, .int .i64 L, .int .i64 D, .int .i64 N, .int .i64 M] 23)).alloc (.cells #[.func (.func 98) #[] #[], .func (.func 96) #[] #[]] 117)) (.cells #[.int .i64 0, .int .i64 0, .slice none 0 0] 29)) (show ((w.alloc (.cells #[.int .i64 V, .int .i64 W, .int .i64 H, .int .i64 K, .int .i64 L, .int .i64 D, .int .i64 N, .int .i64 M] 23)).alloc (.cells #[.func (.func 98) #[] #[], .func (.func 96) #[] #[]] 117)).cell? ⟨w.heap.size, 7, none⟩ = some (.int .i64 M) by simp)
  have d8 := fresh_cell (fresh_alloc ((w.alloc (.cells #[.int .i64 V, .int .i64 W, .int .i64 H, .int .i64 K, .int .i64 L, .int .i64 D, .int .i64 N, .int .i64 M] 23)).alloc (.cells #[.func (.func 98) #[] #[], .func (.func 96) #[] #[]] 117)) (.cells #[.int .i64 0, .int .i64 0, .slice none 0 0] 29)) (show ((w.alloc (.cells #[.int .i64 V, .int .i64 W, .int .i64 H, .int .i64 K, .int .i64 L, .int .i64 D, .int .i64 N, .int .i64 M] 23)).alloc (.cells #[.func (.func 98) #[] #[], .func (.func 96) #[] #[]] 117)).cell? ⟨w.heap.size + 1, 0, none⟩ = some (.func (.func 98) #[] #[]) by simp)
  have d9 := fresh_cell (fresh_alloc ((w.alloc (.cells #[.int .i64 V, .int .i64 W, .int .i64 H, .int .i64 K, .int .i64 L, .int .i64 D, .int .i64 N, .int .i64 M] 23)).alloc (.cells #[.func (.func 98) #[] #[], .func (.func 96) #[] #[]] 117)) (.cells #[.int .i64 0, .int .i64 0, .slice none 0 0] 29)) (show ((w.alloc (.cells #[.int .i64 V, .int .i64 W, .int .i64 H, .int .i64 K, .int .i64 L, .int .i64 D, .int .i64 N, .int .i64 M] 23)).alloc (.cells #[.func (.func 98) #[] #[], .func (.func 96) #[] #[]] 117)).cell? ⟨w.heap.size + 1, 1, none⟩ = some (.func (.func 96) #[] #[]) by simp)
  have hs0 : (((w.alloc (.cells #[.int .i64 V, .int .i64 W, .int .i64 H, .int .i64 K, .int .i64 L, .int .i64 D, .int .i64 N, .int .i64 M] 23)).alloc (.cells #[.func (.func 98) #[] #[], .func (.func 96) #[] #[]] 117)).alloc (.cells #[.int .i64 0, .int .i64 0, .slice none 0 0] 29)).heap.size = w.heap.size + 3 := by simp
  generalize (((w.alloc (.cells #[.int .i64 V, .int .i64 W, .int .i64 H, .int .i64 K, .int .i64 L, .int .i64 D, .int .i64 N, .int .i64 M] 23)).alloc (.cells #[.func (.func 98) #[] #[], .func (.func 96) #[] #[]] 117)).alloc (.cells #[.int .i64 0, .int .i64 0, .slice none 0 0] 29)) = w1 at *
  replace d0 := later_cell d0
  replace d1 := later_cell d1
  replace d2 := later_cell d2
  replace d3 := later_cell d3
  replace d4 := later_cell d4
  replace d5 := later_cell d5
  replace d6 := later_cell d6
  replace d7 := later_cell d7
  replace d8 := later_cell d8
  replace d9 := later_cell d9
  have ne := later_some w1
  refine wp_region_later (by kernel_rfl) (by kernel_rfl) ?_
  repeat (go_big_quiet_step (fail))
  go_big_quiet_step (exact later_of (shKeys _ _ _ _ _ _ _ _ kv _ hH hH4 hW hW2 hkv kv0 kv1))
  repeat (go_big_quiet_step (fail))
  go_big_quiet_step (exact later_of (shWidth _ _ _ _ _ _ _ _ _))
  repeat (go_big_quiet_step (fail))
  refine wpQuiet_nil ?_
  rintro _ ⟨z, rfl⟩
  have hz := z.fresh
  have HFZ := hidd (fresh_trans hf0 hz)
  have hsz : w.heap.size + 3 ≤ z.val.heap.size := by have := hz.size; omega
  have HRZ := hidd (row_fresh HR2.out hz)
  have HNR := hidd (narrow_any (HR.out.fresh HFZ.out) (Nat.lt_of_lt_of_le hbb HFZ.out.size) h0 hn)
  clear d0 d1 d2 d3 d4 d5 d6 d7 d8 d9 ne hz hf0 HR2
  generalize z.val = w2 at *
  go_wp2_with (go_at_call 71; refine HNR.out.mono ?_; rintro e w3 ⟨rfl, f, ho, hb, hp⟩; have q2 := hp.chg.row HRZ.out (by show ¬ (w.heap.size + 1 + 1 = r); omega); have b0 : w3.cell? ⟨w.heap.size + 1 + 1, 0, none⟩ = some (.int .i64 0) := q2.cell (i := 0) (by decide); have b1 : w3.cell? ⟨w.heap.size + 1 + 1, 1, none⟩ = some (.int .i64 0) := q2.cell (i := 1) (by decide); have b2 : w3.cell? ⟨w.heap.size + 1 + 1, 2, none⟩ = some (.slice none 0 0) := q2.cell (i := 2) (by decide); have z0 := q2.frozen; have HQ2 := hidd q2; have HO := hidd ho; have HBD := hidd hb; have HP := hidd hp; clear q2 ho hb hp)
  have hs3 := HP.out.chg.size
  have HQ := hidd (((HQ2.out.set 0 (.int .i64 kv)).set 1 (.int .i64 W)).set 2 (.slice (some ⟨w2.heap.size, 0, none⟩) P P))
  have HCC : Hid (Chg w3 (((w3.setCell ⟨w.heap.size + 1 + 1, 0, none⟩ (.int .i64 kv)).setCell ⟨w.heap.size + 1 + 1, 1, none⟩ (.int .i64 W)).setCell ⟨w.heap.size + 1 + 1, 2, none⟩ (.slice (some ⟨w2.heap.size, 0, none⟩) P P)) (fun b => b = w.heap.size + 1 + 1)) := ((Chg.of_set w3 _ 0 _).trans (Chg.of_set _ _ 1 _) (fun _ _ e => e)).trans (Chg.of_set _ _ 2 _) (fun _ _ e => e)
  refine bodyPost_ret (v := .agg #[.int .i64 kv, .int .i64 W, .slice (some ⟨w2.heap.size, 0, none⟩) P P]) ?_ ?_ ?_
  · refine results_cell_mid Try.results92 _ _ (w.heap.size + 1 + 1) [.int .i64 kv, .int .i64 W, .slice (some ⟨w2.heap.size, 0, none⟩) P P] _ rfl ?_ Try.underlying29 rfl (by kernel_rfl)
    intro j v hv
    match j, hv with
    | 0, hv => rw [← Option.some.inj hv]; exact HQ.out.cell (i := 0) (by decide)
    | 1, hv => rw [← Option.some.inj hv]; exact HQ.out.cell (i := 1) (by decide)
    | 2, hv => rw [← Option.some.inj hv]; exact HQ.out.cell (i := 2) (by decide)
    | j + 3, hv => cases hv
  · rfl
  · obtain ⟨p', bad', h1, h2⟩ := HP.out.ex
    refine ⟨_, rfl, by omega, f, (HO.out.chg HCC.out (fun b e hb => by have := (HO.out.lt b e).1; omega)).weaken (by omega), HBD.out, ⟨p', bad', h1, h2.chg HCC.out (by omega) (by omega)⟩, ?_⟩
    exact (Chg.pre HFZ.out HP.out.chg).trans HCC.out (fun b hb e => by omega)
set_option maxRecDepth 20000 in
set_option maxHeartbeats 4000000 in
theorem matGU {w : World} {r bb : Nat} {B : List Int} {p : Nat} {bad : Bool} (h : Rdr w r bb B p bad) (hbb : bb < w.heap.size) (V W H K L D N M : Int) {P : Nat} (hP : D * W = (P : Int)) (h0 : 0 < P) (hn : P ≤ 1048576) :
    Calls Try.prog 92 #[.pointer (some ⟨r, 0, none⟩), .agg #[.int .i64 V, .int .i64 W, .int .i64 H, .int .i64 K, .int .i64 L, .int .i64 D, .int .i64 N, .int .i64 M], .agg #[.func (.func 97) #[] #[], .func (.func 96) #[] #[]]] w fun e w' => ∃ g, e = .returned (.agg #[.int .i64 D, .int .i64 W, .slice (some ⟨g, 0, none⟩) P P]) ∧ MatP w w' r bb B p bad g P := by
  have hrl := h.lt
  have HR := hidd h
  have hwp : IntKind.i64.wrap (D * W) = (P : Int) := by rw [hP]; exact wrap_small _ (by omega) (by omega)
  have hf0 := fresh_trans (fresh_trans (fresh_alloc w (.cells #[.int .i64 V, .int .i64 W, .int .i64 H, .int .i64 K, .int .i64 L, .int .i64 D, .int .i64 N, .int .i64 M] 23)) (fresh_alloc _ (.cells #[.func (.func 97) #[] #[], .func (.func 96) #[] #[]] 117))) (fresh_alloc _ (.cells #[.int .i64 0, .int .i64 0, .slice none 0 0] 29))
  have R2 := World.rowIs_alloc3 ((w.alloc (.cells #[.int .i64 V, .int .i64 W, .int .i64 H, .int .i64 K, .int .i64 L, .int .i64 D, .int .i64 N, .int .i64 M] 23)).alloc (.cells #[.func (.func 97) #[] #[], .func (.func 96) #[] #[]] 117)) (.int .i64 0) (.int .i64 0) (.slice none 0 0) 29
  have HR2 : Hid ((((w.alloc (.cells #[.int .i64 V, .int .i64 W, .int .i64 H, .int .i64 K, .int .i64 L, .int .i64 D, .int .i64 N, .int .i64 M] 23)).alloc (.cells #[.func (.func 97) #[] #[], .func (.func 96) #[] #[]] 117)).alloc (.cells #[.int .i64 0, .int .i64 0, .slice none 0 0] 29)).rowIs (w.heap.size + 1 + 1) 29 3 (row3 (.int .i64 0) (.int .i64 0) (.slice none 0 0))) := hidd (by simpa using R2)
  clear h R2
  go_enter Try.func92, Try.ntmps92
  go_upto_region 1 with fail
  have d0 := fresh_cell (fresh_alloc ((w.alloc (.cells #[.int .i64 V, .int .i64 W, .int .i64 H, .int .i64 K, .int .i64 L, .int .i64 D, .int .i64 N, .int .i64 M] 23)).alloc (.cells #[.func (.func 97) #[] #[], .func (.func 96) #[] #[]] 117)) (.cells #[.int .i64 0, .int .i64 0, .slice none 0 0] 29)) (show ((w.alloc (.cells #[.int .i64 V, .int .i64 W, .int .i64 H, .int .i64 K, .int .i64 L, .int .i64 D, .int .i64 N, .int .i64 M] 23)).alloc (.cells #[.func (.func 97) #[] #[], .func (.func 96) #[] #[]] 117)).cell? ⟨w.heap.size, 0, none⟩ = some (.int .i64 V) by simp)
  have d1 := fresh_cell (fresh_alloc ((w.alloc (.cells #[.int .i64 V, .int .i64 W, .int .i64 H, .int .i64 K, .int .i64 L, .int .i64 D, .int .i64 N, .int .i64 M] 23)).alloc (.cells #[.func (.func 97) #[] #[], .func (.func 96) #[] #[]] 117)) (.cells #[.int .i64 0, .int .i64 0, .slice none 0 0] 29)) (show ((w.alloc (.cells #[.int .i64 V, .int .i64 W, .int .i64 H, .int .i64 K, .int .i64 L, .int .i64 D, .int .i64 N, .int .i64 M] 23)).alloc (.cells #[.func (.func 97) #[] #[], .func (.func 96) #[] #[]] 117)).cell? ⟨w.heap.size, 1, none⟩ = some (.int .i64 W) by simp)
  have d2 := fresh_cell (fresh_alloc ((w.alloc (.cells #[.int .i64 V, .int .i64 W, .int .i64 H, .int .i64 K, .int .i64 L, .int .i64 D, .int .i64 N, .int .i64 M] 23)).alloc (.cells #[.func (.func 97) #[] #[], .func (.func 96) #[] #[]] 117)) (.cells #[.int .i64 0, .int .i64 0, .slice none 0 0] 29)) (show ((w.alloc (.cells #[.int .i64 V, .int .i64 W, .int .i64 H, .int .i64 K, .int .i64 L, .int .i64 D, .int .i64 N, .int .i64 M] 23)).alloc (.cells #[.func (.func 97) #[] #[], .func (.func 96) #[] #[]] 117)).cell? ⟨w.heap.size, 2, none⟩ = some (.int .i64 H) by simp)
  have d3 := fresh_cell (fresh_alloc ((w.alloc (.cells #[.int .i64 V, .int .i64 W, .int .i64 H, .int .i64 K, .int .i64 L, .int .i64 D, .int .i64 N, .int .i64 M] 23)).alloc (.cells #[.func (.func 97) #[] #[], .func (.func 96) #[] #[]] 117)) (.cells #[.int .i64 0, .int .i64 0, .slice none 0 0] 29)) (show ((w.alloc (.cells #[.int .i64 V, .int .i64 W, .int .i64 H, .int .i64 K, .int .i64 L, .int .i64 D, .int .i64 N, .int .i64 M] 23)).alloc (.cells #[.func (.func 97) #[] #[], .func (.func 96) #[] #[]] 117)).cell? ⟨w.heap.size, 3, none⟩ = some (.int .i64 K) by simp)
  have d4 := fresh_cell (fresh_alloc ((w.alloc (.cells #[.int .i64 V, .int .i64 W, .int .i64 H, .int .i64 K, .int .i64 L, .int .i64 D, .int .i64 N, .int .i64 M] 23)).alloc (.cells #[.func (.func 97) #[] #[], .func (.func 96) #[] #[]] 117)) (.cells #[.int .i64 0, .int .i64 0, .slice none 0 0] 29)) (show ((w.alloc (.cells #[.int .i64 V, .int .i64 W, .int .i64 H, .int .i64 K, .int .i64 L, .int .i64 D, .int .i64 N, .int .i64 M] 23)).alloc (.cells #[.func (.func 97) #[] #[], .func (.func 96) #[] #[]] 117)).cell? ⟨w.heap.size, 4, none⟩ = some (.int .i64 L) by simp)
  have d5 := fresh_cell (fresh_alloc ((w.alloc (.cells #[.int .i64 V, .int .i64 W, .int .i64 H, .int .i64 K, .int .i64 L, .int .i64 D, .int .i64 N, .int .i64 M] 23)).alloc (.cells #[.func (.func 97) #[] #[], .func (.func 96) #[] #[]] 117)) (.cells #[.int .i64 0, .int .i64 0, .slice none 0 0] 29)) (show ((w.alloc (.cells #[.int .i64 V, .int .i64 W, .int .i64 H, .int .i64 K, .int .i64 L, .int .i64 D, .int .i64 N, .int .i64 M] 23)).alloc (.cells #[.func (.func 97) #[] #[], .func (.func 96) #[] #[]] 117)).cell? ⟨w.heap.size, 5, none⟩ = some (.int .i64 D) by simp)
  have d6 := fresh_cell (fresh_alloc ((w.alloc (.cells #[.int .i64 V, .int .i64 W, .int .i64 H, .int .i64 K, .int .i64 L, .int .i64 D, .int .i64 N, .int .i64 M] 23)).alloc (.cells #[.func (.func 97) #[] #[], .func (.func 96) #[] #[]] 117)) (.cells #[.int .i64 0, .int .i64 0, .slice none 0 0] 29)) (show ((w.alloc (.cells #[.int .i64 V, .int .i64 W, .int .i64 H, .int .i64 K, .int .i64 L, .int .i64 D, .int .i64 N, .int .i64 M] 23)).alloc (.cells #[.func (.func 97) #[] #[], .func (.func 96) #[] #[]] 117)).cell? ⟨w.heap.size, 6, none⟩ = some (.int .i64 N) by simp)
  have d7 := fresh_cell (fresh_alloc ((w.alloc (.cells #[.int .i64 V, .int .i64 W, .int .i64 H, .int .i64 K, .int .i64 L, .int .i64 D, .int .i64 N, .int .i64 M] 23)).alloc (.cells #[.func (.func 97) #[] #[], .func (.func 96) #[] #[]] 117)) (.cells #[.int .i64 0, .int .i64 0, .slice none 0 0] 29)) (show ((w.alloc (.cells #[.int .i64 V, .int .i64 W, .int .i64 H, .int .i64 K, .int .i64 L, .int .i64 D, .int .i64 N, .int .i64 M] 23)).alloc (.cells #[.func (.func 97) #[] #[], .func (.func 96) #[] #[]] 117)).cell? ⟨w.heap.size, 7, none⟩ = some (.int .i64 M) by simp)
  have d8 := fresh_cell (fresh_alloc ((w.alloc (.cells #[.int .i64 V, .int .i64 W, .int .i64 H, .int .i64 K, .int .i64 L, .int .i64 D, .int .i64 N, .int .i64 M] 23)).alloc (.cells #[.func (.func 97) #[] #[], .func (.func 96) #[] #[]] 117)) (.cells #[.int .i64 0, .int .i64 0, .slice none 0 0] 29)) (show ((w.alloc (.cells #[.int .i64 V, .int .i64 W, .int .i64 H, .int .i64 K, .int .i64 L, .int .i64 D, .int .i64 N, .int .i64 M] 23)).alloc (.cells #[.func (.func 97) #[] #[], .func (.func 96) #[] #[]] 117)).cell? ⟨w.heap.size + 1, 0, none⟩ = some (.func (.func 97) #[] #[]) by simp)
  have d9 := fresh_cell (fresh_alloc ((w.alloc (.cells #[.int .i64 V, .int .i64 W, .int .i64 H, .int .i64 K, .int .i64 L, .int .i64 D, .int .i64 N, .int .i64 M] 23)).alloc (.cells #[.func (.func 97) #[] #[], .func (.func 96) #[] #[]] 117)) (.cells #[.int .i64 0, .int .i64 0, .slice none 0 0] 29)) (show ((w.alloc (.cells #[.int .i64 V, .int .i64 W, .int .i64 H, .int .i64 K, .int .i64 L, .int .i64 D, .int .i64 N, .int .i64 M] 23)).alloc (.cells #[.func (.func 97) #[] #[], .func (.func 96) #[] #[]] 117)).cell? ⟨w.heap.size + 1, 1, none⟩ = some (.func (.func 96) #[] #[]) by simp)
  have hs0 : (((w.alloc (.cells #[.int .i64 V, .int .i64 W, .int .i64 H, .int .i64 K, .int .i64 L, .int .i64 D, .int .i64 N, .int .i64 M] 23)).alloc (.cells #[.func (.func 97) #[] #[], .func (.func 96) #[] #[]] 117)).alloc (.cells #[.int .i64 0, .int .i64 0, .slice none 0 0] 29)).heap.size = w.heap.size + 3 := by simp
  generalize (((w.alloc (.cells #[.int .i64 V, .int .i64 W, .int .i64 H, .int .i64 K, .int .i64 L, .int .i64 D, .int .i64 N, .int .i64 M] 23)).alloc (.cells #[.func (.func 97) #[] #[], .func (.func 96) #[] #[]] 117)).alloc (.cells #[.int .i64 0, .int .i64 0, .slice none 0 0] 29)) = w1 at *
  replace d0 := later_cell d0
  replace d1 := later_cell d1
  replace d2 := later_cell d2
  replace d3 := later_cell d3
  replace d4 := later_cell d4
  replace d5 := later_cell d5
  replace d6 := later_cell d6
  replace d7 := later_cell d7
  replace d8 := later_cell d8
  replace d9 := later_cell d9
  have ne := later_some w1
  refine wp_region_later (by kernel_rfl) (by kernel_rfl) ?_
  repeat (go_big_quiet_step (fail))
  go_big_quiet_step (exact later_of (shHidden _ _ _ _ _ _ _ _ _))
  repeat (go_big_quiet_step (fail))
  go_big_quiet_step (exact later_of (shWidth _ _ _ _ _ _ _ _ _))
  repeat (go_big_quiet_step (fail))
  refine wpQuiet_nil ?_
  rintro _ ⟨z, rfl⟩
  have hz := z.fresh
  have HFZ := hidd (fresh_trans hf0 hz)
  have hsz : w.heap.size + 3 ≤ z.val.heap.size := by have := hz.size; omega
  have HRZ := hidd (row_fresh HR2.out hz)
  have HNR := hidd (narrow_any (HR.out.fresh HFZ.out) (Nat.lt_of_lt_of_le hbb HFZ.out.size) h0 hn)
  clear d0 d1 d2 d3 d4 d5 d6 d7 d8 d9 ne hz hf0 HR2
  generalize z.val = w2 at *
  go_wp2_with (go_at_call 71; refine HNR.out.mono ?_; rintro e w3 ⟨rfl, f, ho, hb, hp⟩; have q2 := hp.chg.row HRZ.out (by show ¬ (w.heap.size + 1 + 1 = r); omega); have b0 : w3.cell? ⟨w.heap.size + 1 + 1, 0, none⟩ = some (.int .i64 0) := q2.cell (i := 0) (by decide); have b1 : w3.cell? ⟨w.heap.size + 1 + 1, 1, none⟩ = some (.int .i64 0) := q2.cell (i := 1) (by decide); have b2 : w3.cell? ⟨w.heap.size + 1 + 1, 2, none⟩ = some (.slice none 0 0) := q2.cell (i := 2) (by decide); have z0 := q2.frozen; have HQ2 := hidd q2; have HO := hidd ho; have HBD := hidd hb; have HP := hidd hp; clear q2 ho hb hp)
  have hs3 := HP.out.chg.size
  have HQ := hidd (((HQ2.out.set 0 (.int .i64 D)).set 1 (.int .i64 W)).set 2 (.slice (some ⟨w2.heap.size, 0, none⟩) P P))
  have HCC : Hid (Chg w3 (((w3.setCell ⟨w.heap.size + 1 + 1, 0, none⟩ (.int .i64 D)).setCell ⟨w.heap.size + 1 + 1, 1, none⟩ (.int .i64 W)).setCell ⟨w.heap.size + 1 + 1, 2, none⟩ (.slice (some ⟨w2.heap.size, 0, none⟩) P P)) (fun b => b = w.heap.size + 1 + 1)) := ((Chg.of_set w3 _ 0 _).trans (Chg.of_set _ _ 1 _) (fun _ _ e => e)).trans (Chg.of_set _ _ 2 _) (fun _ _ e => e)
  refine bodyPost_ret (v := .agg #[.int .i64 D, .int .i64 W, .slice (some ⟨w2.heap.size, 0, none⟩) P P]) ?_ ?_ ?_
  · refine results_cell_mid Try.results92 _ _ (w.heap.size + 1 + 1) [.int .i64 D, .int .i64 W, .slice (some ⟨w2.heap.size, 0, none⟩) P P] _ rfl ?_ Try.underlying29 rfl (by kernel_rfl)
    intro j v hv
    match j, hv with
    | 0, hv => rw [← Option.some.inj hv]; exact HQ.out.cell (i := 0) (by decide)
    | 1, hv => rw [← Option.some.inj hv]; exact HQ.out.cell (i := 1) (by decide)
    | 2, hv => rw [← Option.some.inj hv]; exact HQ.out.cell (i := 2) (by decide)
    | j + 3, hv => cases hv
  · rfl
  · obtain ⟨p', bad', h1, h2⟩ := HP.out.ex
    refine ⟨_, rfl, by omega, f, (HO.out.chg HCC.out (fun b e hb => by have := (HO.out.lt b e).1; omega)).weaken (by omega), HBD.out, ⟨p', bad', h1, h2.chg HCC.out (by omega) (by omega)⟩, ?_⟩
    exact (Chg.pre HFZ.out HP.out.chg).trans HCC.out (fun b hb e => by omega)
set_option maxRecDepth 20000 in
set_option maxHeartbeats 4000000 in
theorem matD {w : World} {r bb : Nat} {B : List Int} {p : Nat} {bad : Bool} (h : Rdr w r bb B p bad) (hbb : bb < w.heap.size) (V W H K L D N M : Int) {P : Nat} (hP : W * D = (P : Int)) (h0 : 0 < P) (hn : P ≤ 1048576) :
    Calls Try.prog 92 #[.pointer (some ⟨r, 0, none⟩), .agg #[.int .i64 V, .int .i64 W, .int .i64 H, .int .i64 K, .int .i64 L, .int .i64 D, .int .i64 N, .int .i64 M], .agg #[.func (.func 96) #[] #[], .func (.func 97) #[] #[]]] w fun e w' => ∃ g, e = .returned (.agg #[.int .i64 W, .int .i64 D, .slice (some ⟨g, 0, none⟩) P P]) ∧ MatP w w' r bb B p bad g P := by
  have hrl := h.lt
  have HR := hidd h
  have hwp : IntKind.i64.wrap (W * D) = (P : Int) := by rw [hP]; exact wrap_small _ (by omega) (by omega)
  have hf0 := fresh_trans (fresh_trans (fresh_alloc w (.cells #[.int .i64 V, .int .i64 W, .int .i64 H, .int .i64 K, .int .i64 L, .int .i64 D, .int .i64 N, .int .i64 M] 23)) (fresh_alloc _ (.cells #[.func (.func 96) #[] #[], .func (.func 97) #[] #[]] 117))) (fresh_alloc _ (.cells #[.int .i64 0, .int .i64 0, .slice none 0 0] 29))
  have R2 := World.rowIs_alloc3 ((w.alloc (.cells #[.int .i64 V, .int .i64 W, .int .i64 H, .int .i64 K, .int .i64 L, .int .i64 D, .int .i64 N, .int .i64 M] 23)).alloc (.cells #[.func (.func 96) #[] #[], .func (.func 97) #[] #[]] 117)) (.int .i64 0) (.int .i64 0) (.slice none 0 0) 29
  have HR2 : Hid ((((w.alloc (.cells #[.int .i64 V, .int .i64 W, .int .i64 H, .int .i64 K, .int .i64 L, .int .i64 D, .int .i64 N, .int .i64 M] 23)).alloc (.cells #[.func (.func 96) #[] #[], .func (.func 97) #[] #[]] 117)).alloc (.cells #[.int .i64 0, .int .i64 0, .slice none 0 0] 29)).rowIs (w.heap.size + 1 + 1) 29 3 (row3 (.int .i64 0) (.int .i64 0) (.slice none 0 0))) := hidd (by simpa using R2)
  clear h R2
  go_enter Try.func92, Try.ntmps92
  go_upto_region 1 with fail
  have d0 := fresh_cell (fresh_alloc ((w.alloc (.cells #[.int .i64 V, .int .i64 W, .int .i64 H, .int .i64 K, .int .i64 L, .int .i64 D, .int .i64 N, .int .i64 M] 23)).alloc (.cells #[.func (.func 96) #[] #[], .func (.func 97) #[] #[]] 117)) (.cells #[.int .i64 0, .int .i64 0, .slice none 0 0] 29)) (show ((w.alloc (.cells #[.int .i64 V, .int .i64 W, .int .i64 H, .int .i64 K, .int .i64 L, .int .i64 D, .int .i64 N, .int .i64 M] 23)).alloc (.cells #[.func (.func 96) #[] #[], .func (.func 97) #[] #[]] 117)).cell? ⟨w.heap.size, 0, none⟩ = some (.int .i64 V) by simp)
  have d1 := fresh_cell (fresh_alloc ((w.alloc (.cells #[.int .i64 V, .int .i64 W, .int .i64 H, .int .i64 K, .int .i64 L, .int .i64 D, .int .i64 N, .int .i64 M] 23)).alloc (.cells #[.func (.func 96) #[] #[], .func (.func 97) #[] #[]] 117)) (.cells #[.int .i64 0, .int .i64 0, .slice none 0 0] 29)) (show ((w.alloc (.cells #[.int .i64 V, .int .i64 W, .int .i64 H, .int .i64 K, .int .i64 L, .int .i64 D, .int .i64 N, .int .i64 M] 23)).alloc (.cells #[.func (.func 96) #[] #[], .func (.func 97) #[] #[]] 117)).cell? ⟨w.heap.size, 1, none⟩ = some (.int .i64 W) by simp)
  have d2 := fresh_cell (fresh_alloc ((w.alloc (.cells #[.int .i64 V, .int .i64 W, .int .i64 H, .int .i64 K, .int .i64 L, .int .i64 D, .int .i64 N, .int .i64 M] 23)).alloc (.cells #[.func (.func 96) #[] #[], .func (.func 97) #[] #[]] 117)) (.cells #[.int .i64 0, .int .i64 0, .slice none 0 0] 29)) (show ((w.alloc (.cells #[.int .i64 V, .int .i64 W, .int .i64 H, .int .i64 K, .int .i64 L, .int .i64 D, .int .i64 N, .int .i64 M] 23)).alloc (.cells #[.func (.func 96) #[] #[], .func (.func 97) #[] #[]] 117)).cell? ⟨w.heap.size, 2, none⟩ = some (.int .i64 H) by simp)
  have d3 := fresh_cell (fresh_alloc ((w.alloc (.cells #[.int .i64 V, .int .i64 W, .int .i64 H, .int .i64 K, .int .i64 L, .int .i64 D, .int .i64 N, .int .i64 M] 23)).alloc (.cells #[.func (.func 96) #[] #[], .func (.func 97) #[] #[]] 117)) (.cells #[.int .i64 0, .int .i64 0, .slice none 0 0] 29)) (show ((w.alloc (.cells #[.int .i64 V, .int .i64 W, .int .i64 H, .int .i64 K, .int .i64 L, .int .i64 D, .int .i64 N, .int .i64 M] 23)).alloc (.cells #[.func (.func 96) #[] #[], .func (.func 97) #[] #[]] 117)).cell? ⟨w.heap.size, 3, none⟩ = some (.int .i64 K) by simp)
  have d4 := fresh_cell (fresh_alloc ((w.alloc (.cells #[.int .i64 V, .int .i64 W, .int .i64 H, .int .i64 K, .int .i64 L, .int .i64 D, .int .i64 N, .int .i64 M] 23)).alloc (.cells #[.func (.func 96) #[] #[], .func (.func 97) #[] #[]] 117)) (.cells #[.int .i64 0, .int .i64 0, .slice none 0 0] 29)) (show ((w.alloc (.cells #[.int .i64 V, .int .i64 W, .int .i64 H, .int .i64 K, .int .i64 L, .int .i64 D, .int .i64 N, .int .i64 M] 23)).alloc (.cells #[.func (.func 96) #[] #[], .func (.func 97) #[] #[]] 117)).cell? ⟨w.heap.size, 4, none⟩ = some (.int .i64 L) by simp)
  have d5 := fresh_cell (fresh_alloc ((w.alloc (.cells #[.int .i64 V, .int .i64 W, .int .i64 H, .int .i64 K, .int .i64 L, .int .i64 D, .int .i64 N, .int .i64 M] 23)).alloc (.cells #[.func (.func 96) #[] #[], .func (.func 97) #[] #[]] 117)) (.cells #[.int .i64 0, .int .i64 0, .slice none 0 0] 29)) (show ((w.alloc (.cells #[.int .i64 V, .int .i64 W, .int .i64 H, .int .i64 K, .int .i64 L, .int .i64 D, .int .i64 N, .int .i64 M] 23)).alloc (.cells #[.func (.func 96) #[] #[], .func (.func 97) #[] #[]] 117)).cell? ⟨w.heap.size, 5, none⟩ = some (.int .i64 D) by simp)
  have d6 := fresh_cell (fresh_alloc ((w.alloc (.cells #[.int .i64 V, .int .i64 W, .int .i64 H, .int .i64 K, .int .i64 L, .int .i64 D, .int .i64 N, .int .i64 M] 23)).alloc (.cells #[.func (.func 96) #[] #[], .func (.func 97) #[] #[]] 117)) (.cells #[.int .i64 0, .int .i64 0, .slice none 0 0] 29)) (show ((w.alloc (.cells #[.int .i64 V, .int .i64 W, .int .i64 H, .int .i64 K, .int .i64 L, .int .i64 D, .int .i64 N, .int .i64 M] 23)).alloc (.cells #[.func (.func 96) #[] #[], .func (.func 97) #[] #[]] 117)).cell? ⟨w.heap.size, 6, none⟩ = some (.int .i64 N) by simp)
  have d7 := fresh_cell (fresh_alloc ((w.alloc (.cells #[.int .i64 V, .int .i64 W, .int .i64 H, .int .i64 K, .int .i64 L, .int .i64 D, .int .i64 N, .int .i64 M] 23)).alloc (.cells #[.func (.func 96) #[] #[], .func (.func 97) #[] #[]] 117)) (.cells #[.int .i64 0, .int .i64 0, .slice none 0 0] 29)) (show ((w.alloc (.cells #[.int .i64 V, .int .i64 W, .int .i64 H, .int .i64 K, .int .i64 L, .int .i64 D, .int .i64 N, .int .i64 M] 23)).alloc (.cells #[.func (.func 96) #[] #[], .func (.func 97) #[] #[]] 117)).cell? ⟨w.heap.size, 7, none⟩ = some (.int .i64 M) by simp)
  have d8 := fresh_cell (fresh_alloc ((w.alloc (.cells #[.int .i64 V, .int .i64 W, .int .i64 H, .int .i64 K, .int .i64 L, .int .i64 D, .int .i64 N, .int .i64 M] 23)).alloc (.cells #[.func (.func 96) #[] #[], .func (.func 97) #[] #[]] 117)) (.cells #[.int .i64 0, .int .i64 0, .slice none 0 0] 29)) (show ((w.alloc (.cells #[.int .i64 V, .int .i64 W, .int .i64 H, .int .i64 K, .int .i64 L, .int .i64 D, .int .i64 N, .int .i64 M] 23)).alloc (.cells #[.func (.func 96) #[] #[], .func (.func 97) #[] #[]] 117)).cell? ⟨w.heap.size + 1, 0, none⟩ = some (.func (.func 96) #[] #[]) by simp)
  have d9 := fresh_cell (fresh_alloc ((w.alloc (.cells #[.int .i64 V, .int .i64 W, .int .i64 H, .int .i64 K, .int .i64 L, .int .i64 D, .int .i64 N, .int .i64 M] 23)).alloc (.cells #[.func (.func 96) #[] #[], .func (.func 97) #[] #[]] 117)) (.cells #[.int .i64 0, .int .i64 0, .slice none 0 0] 29)) (show ((w.alloc (.cells #[.int .i64 V, .int .i64 W, .int .i64 H, .int .i64 K, .int .i64 L, .int .i64 D, .int .i64 N, .int .i64 M] 23)).alloc (.cells #[.func (.func 96) #[] #[], .func (.func 97) #[] #[]] 117)).cell? ⟨w.heap.size + 1, 1, none⟩ = some (.func (.func 97) #[] #[]) by simp)
  have hs0 : (((w.alloc (.cells #[.int .i64 V, .int .i64 W, .int .i64 H, .int .i64 K, .int .i64 L, .int .i64 D, .int .i64 N, .int .i64 M] 23)).alloc (.cells #[.func (.func 96) #[] #[], .func (.func 97) #[] #[]] 117)).alloc (.cells #[.int .i64 0, .int .i64 0, .slice none 0 0] 29)).heap.size = w.heap.size + 3 := by simp
  generalize (((w.alloc (.cells #[.int .i64 V, .int .i64 W, .int .i64 H, .int .i64 K, .int .i64 L, .int .i64 D, .int .i64 N, .int .i64 M] 23)).alloc (.cells #[.func (.func 96) #[] #[], .func (.func 97) #[] #[]] 117)).alloc (.cells #[.int .i64 0, .int .i64 0, .slice none 0 0] 29)) = w1 at *
  replace d0 := later_cell d0
  replace d1 := later_cell d1
  replace d2 := later_cell d2
  replace d3 := later_cell d3
  replace d4 := later_cell d4
  replace d5 := later_cell d5
  replace d6 := later_cell d6
  replace d7 := later_cell d7
  replace d8 := later_cell d8
  replace d9 := later_cell d9
  have ne := later_some w1
  refine wp_region_later (by kernel_rfl) (by kernel_rfl) ?_
  repeat (go_big_quiet_step (fail))
  go_big_quiet_step (exact later_of (shWidth _ _ _ _ _ _ _ _ _))
  repeat (go_big_quiet_step (fail))
  go_big_quiet_step (exact later_of (shHidden _ _ _ _ _ _ _ _ _))
  repeat (go_big_quiet_step (fail))
  refine wpQuiet_nil ?_
  rintro _ ⟨z, rfl⟩
  have hz := z.fresh
  have HFZ := hidd (fresh_trans hf0 hz)
  have hsz : w.heap.size + 3 ≤ z.val.heap.size := by have := hz.size; omega
  have HRZ := hidd (row_fresh HR2.out hz)
  have HNR := hidd (narrow_any (HR.out.fresh HFZ.out) (Nat.lt_of_lt_of_le hbb HFZ.out.size) h0 hn)
  clear d0 d1 d2 d3 d4 d5 d6 d7 d8 d9 ne hz hf0 HR2
  generalize z.val = w2 at *
  go_wp2_with (go_at_call 71; refine HNR.out.mono ?_; rintro e w3 ⟨rfl, f, ho, hb, hp⟩; have q2 := hp.chg.row HRZ.out (by show ¬ (w.heap.size + 1 + 1 = r); omega); have b0 : w3.cell? ⟨w.heap.size + 1 + 1, 0, none⟩ = some (.int .i64 0) := q2.cell (i := 0) (by decide); have b1 : w3.cell? ⟨w.heap.size + 1 + 1, 1, none⟩ = some (.int .i64 0) := q2.cell (i := 1) (by decide); have b2 : w3.cell? ⟨w.heap.size + 1 + 1, 2, none⟩ = some (.slice none 0 0) := q2.cell (i := 2) (by decide); have z0 := q2.frozen; have HQ2 := hidd q2; have HO := hidd ho; have HBD := hidd hb; have HP := hidd hp; clear q2 ho hb hp)
  have hs3 := HP.out.chg.size
  have HQ := hidd (((HQ2.out.set 0 (.int .i64 W)).set 1 (.int .i64 D)).set 2 (.slice (some ⟨w2.heap.size, 0, none⟩) P P))
  have HCC : Hid (Chg w3 (((w3.setCell ⟨w.heap.size + 1 + 1, 0, none⟩ (.int .i64 W)).setCell ⟨w.heap.size + 1 + 1, 1, none⟩ (.int .i64 D)).setCell ⟨w.heap.size + 1 + 1, 2, none⟩ (.slice (some ⟨w2.heap.size, 0, none⟩) P P)) (fun b => b = w.heap.size + 1 + 1)) := ((Chg.of_set w3 _ 0 _).trans (Chg.of_set _ _ 1 _) (fun _ _ e => e)).trans (Chg.of_set _ _ 2 _) (fun _ _ e => e)
  refine bodyPost_ret (v := .agg #[.int .i64 W, .int .i64 D, .slice (some ⟨w2.heap.size, 0, none⟩) P P]) ?_ ?_ ?_
  · refine results_cell_mid Try.results92 _ _ (w.heap.size + 1 + 1) [.int .i64 W, .int .i64 D, .slice (some ⟨w2.heap.size, 0, none⟩) P P] _ rfl ?_ Try.underlying29 rfl (by kernel_rfl)
    intro j v hv
    match j, hv with
    | 0, hv => rw [← Option.some.inj hv]; exact HQ.out.cell (i := 0) (by decide)
    | 1, hv => rw [← Option.some.inj hv]; exact HQ.out.cell (i := 1) (by decide)
    | 2, hv => rw [← Option.some.inj hv]; exact HQ.out.cell (i := 2) (by decide)
    | j + 3, hv => cases hv
  · rfl
  · obtain ⟨p', bad', h1, h2⟩ := HP.out.ex
    refine ⟨_, rfl, by omega, f, (HO.out.chg HCC.out (fun b e hb => by have := (HO.out.lt b e).1; omega)).weaken (by omega), HBD.out, ⟨p', bad', h1, h2.chg HCC.out (by omega) (by omega)⟩, ?_⟩
    exact (Chg.pre HFZ.out HP.out.chg).trans HCC.out (fun b hb e => by omega)
set_option maxRecDepth 20000 in
set_option maxHeartbeats 4000000 in
theorem matT {w : World} {r bb : Nat} {B : List Int} {p : Nat} {bad : Bool} (h : Rdr w r bb B p bad) (hbb : bb < w.heap.size) (V W H K L D N M : Int) {P : Nat} (hP : V * W = (P : Int)) (h0 : 0 < P) (hn : P ≤ 1048576) :
    Calls Try.prog 92 #[.pointer (some ⟨r, 0, none⟩), .agg #[.int .i64 V, .int .i64 W, .int .i64 H, .int .i64 K, .int .i64 L, .int .i64 D, .int .i64 N, .int .i64 M], .agg #[.func (.func 95) #[] #[], .func (.func 96) #[] #[]]] w fun e w' => ∃ g, e = .returned (.agg #[.int .i64 V, .int .i64 W, .slice (some ⟨g, 0, none⟩) P P]) ∧ MatP w w' r bb B p bad g P := by
  have hrl := h.lt
  have HR := hidd h
  have hwp : IntKind.i64.wrap (V * W) = (P : Int) := by rw [hP]; exact wrap_small _ (by omega) (by omega)
  have hf0 := fresh_trans (fresh_trans (fresh_alloc w (.cells #[.int .i64 V, .int .i64 W, .int .i64 H, .int .i64 K, .int .i64 L, .int .i64 D, .int .i64 N, .int .i64 M] 23)) (fresh_alloc _ (.cells #[.func (.func 95) #[] #[], .func (.func 96) #[] #[]] 117))) (fresh_alloc _ (.cells #[.int .i64 0, .int .i64 0, .slice none 0 0] 29))
  have R2 := World.rowIs_alloc3 ((w.alloc (.cells #[.int .i64 V, .int .i64 W, .int .i64 H, .int .i64 K, .int .i64 L, .int .i64 D, .int .i64 N, .int .i64 M] 23)).alloc (.cells #[.func (.func 95) #[] #[], .func (.func 96) #[] #[]] 117)) (.int .i64 0) (.int .i64 0) (.slice none 0 0) 29
  have HR2 : Hid ((((w.alloc (.cells #[.int .i64 V, .int .i64 W, .int .i64 H, .int .i64 K, .int .i64 L, .int .i64 D, .int .i64 N, .int .i64 M] 23)).alloc (.cells #[.func (.func 95) #[] #[], .func (.func 96) #[] #[]] 117)).alloc (.cells #[.int .i64 0, .int .i64 0, .slice none 0 0] 29)).rowIs (w.heap.size + 1 + 1) 29 3 (row3 (.int .i64 0) (.int .i64 0) (.slice none 0 0))) := hidd (by simpa using R2)
  clear h R2
  go_enter Try.func92, Try.ntmps92
  go_upto_region 1 with fail
  have d0 := fresh_cell (fresh_alloc ((w.alloc (.cells #[.int .i64 V, .int .i64 W, .int .i64 H, .int .i64 K, .int .i64 L, .int .i64 D, .int .i64 N, .int .i64 M] 23)).alloc (.cells #[.func (.func 95) #[] #[], .func (.func 96) #[] #[]] 117)) (.cells #[.int .i64 0, .int .i64 0, .slice none 0 0] 29)) (show ((w.alloc (.cells #[.int .i64 V, .int .i64 W, .int .i64 H, .int .i64 K, .int .i64 L, .int .i64 D, .int .i64 N, .int .i64 M] 23)).alloc (.cells #[.func (.func 95) #[] #[], .func (.func 96) #[] #[]] 117)).cell? ⟨w.heap.size, 0, none⟩ = some (.int .i64 V) by simp)
  have d1 := fresh_cell (fresh_alloc ((w.alloc (.cells #[.int .i64 V, .int .i64 W, .int .i64 H, .int .i64 K, .int .i64 L, .int .i64 D, .int .i64 N, .int .i64 M] 23)).alloc (.cells #[.func (.func 95) #[] #[], .func (.func 96) #[] #[]] 117)) (.cells #[.int .i64 0, .int .i64 0, .slice none 0 0] 29)) (show ((w.alloc (.cells #[.int .i64 V, .int .i64 W, .int .i64 H, .int .i64 K, .int .i64 L, .int .i64 D, .int .i64 N, .int .i64 M] 23)).alloc (.cells #[.func (.func 95) #[] #[], .func (.func 96) #[] #[]] 117)).cell? ⟨w.heap.size, 1, none⟩ = some (.int .i64 W) by simp)
  have d2 := fresh_cell (fresh_alloc ((w.alloc (.cells #[.int .i64 V, .int .i64 W, .int .i64 H, .int .i64 K, .int .i64 L, .int .i64 D, .int .i64 N, .int .i64 M] 23)).alloc (.cells #[.func (.func 95) #[] #[], .func (.func 96) #[] #[]] 117)) (.cells #[.int .i64 0, .int .i64 0, .slice none 0 0] 29)) (show ((w.alloc (.cells #[.int .i64 V, .int .i64 W, .int .i64 H, .int .i64 K, .int .i64 L, .int .i64 D, .int .i64 N, .int .i64 M] 23)).alloc (.cells #[.func (.func 95) #[] #[], .func (.func 96) #[] #[]] 117)).cell? ⟨w.heap.size, 2, none⟩ = some (.int .i64 H) by simp)
  have d3 := fresh_cell (fresh_alloc ((w.alloc (.cells #[.int .i64 V, .int .i64 W, .int .i64 H, .int .i64 K, .int .i64 L, .int .i64 D, .int .i64 N, .int .i64 M] 23)).alloc (.cells #[.func (.func 95) #[] #[], .func (.func 96) #[] #[]] 117)) (.cells #[.int .i64 0, .int .i64 0, .slice none 0 0] 29)) (show ((w.alloc (.cells #[.int .i64 V, .int .i64 W, .int .i64 H, .int .i64 K, .int .i64 L, .int .i64 D, .int .i64 N, .int .i64 M] 23)).alloc (.cells #[.func (.func 95) #[] #[], .func (.func 96) #[] #[]] 117)).cell? ⟨w.heap.size, 3, none⟩ = some (.int .i64 K) by simp)
  have d4 := fresh_cell (fresh_alloc ((w.alloc (.cells #[.int .i64 V, .int .i64 W, .int .i64 H, .int .i64 K, .int .i64 L, .int .i64 D, .int .i64 N, .int .i64 M] 23)).alloc (.cells #[.func (.func 95) #[] #[], .func (.func 96) #[] #[]] 117)) (.cells #[.int .i64 0, .int .i64 0, .slice none 0 0] 29)) (show ((w.alloc (.cells #[.int .i64 V, .int .i64 W, .int .i64 H, .int .i64 K, .int .i64 L, .int .i64 D, .int .i64 N, .int .i64 M] 23)).alloc (.cells #[.func (.func 95) #[] #[], .func (.func 96) #[] #[]] 117)).cell? ⟨w.heap.size, 4, none⟩ = some (.int .i64 L) by simp)
  have d5 := fresh_cell (fresh_alloc ((w.alloc (.cells #[.int .i64 V, .int .i64 W, .int .i64 H, .int .i64 K, .int .i64 L, .int .i64 D, .int .i64 N, .int .i64 M] 23)).alloc (.cells #[.func (.func 95) #[] #[], .func (.func 96) #[] #[]] 117)) (.cells #[.int .i64 0, .int .i64 0, .slice none 0 0] 29)) (show ((w.alloc (.cells #[.int .i64 V, .int .i64 W, .int .i64 H, .int .i64 K, .int .i64 L, .int .i64 D, .int .i64 N, .int .i64 M] 23)).alloc (.cells #[.func (.func 95) #[] #[], .func (.func 96) #[] #[]] 117)).cell? ⟨w.heap.size, 5, none⟩ = some (.int .i64 D) by simp)
  have d6 := fresh_cell (fresh_alloc ((w.alloc (.cells #[.int .i64 V, .int .i64 W, .int .i64 H, .int .i64 K, .int .i64 L, .int .i64 D, .int .i64 N, .int .i64 M] 23)).alloc (.cells #[.func (.func 95) #[] #[], .func (.func 96) #[] #[]] 117)) (.cells #[.int .i64 0, .int .i64 0, .slice none 0 0] 29)) (show ((w.alloc (.cells #[.int .i64 V, .int .i64 W, .int .i64 H, .int .i64 K, .int .i64 L, .int .i64 D, .int .i64 N, .int .i64 M] 23)).alloc (.cells #[.func (.func 95) #[] #[], .func (.func 96) #[] #[]] 117)).cell? ⟨w.heap.size, 6, none⟩ = some (.int .i64 N) by simp)
  have d7 := fresh_cell (fresh_alloc ((w.alloc (.cells #[.int .i64 V, .int .i64 W, .int .i64 H, .int .i64 K, .int .i64 L, .int .i64 D, .int .i64 N, .int .i64 M] 23)).alloc (.cells #[.func (.func 95) #[] #[], .func (.func 96) #[] #[]] 117)) (.cells #[.int .i64 0, .int .i64 0, .slice none 0 0] 29)) (show ((w.alloc (.cells #[.int .i64 V, .int .i64 W, .int .i64 H, .int .i64 K, .int .i64 L, .int .i64 D, .int .i64 N, .int .i64 M] 23)).alloc (.cells #[.func (.func 95) #[] #[], .func (.func 96) #[] #[]] 117)).cell? ⟨w.heap.size, 7, none⟩ = some (.int .i64 M) by simp)
  have d8 := fresh_cell (fresh_alloc ((w.alloc (.cells #[.int .i64 V, .int .i64 W, .int .i64 H, .int .i64 K, .int .i64 L, .int .i64 D, .int .i64 N, .int .i64 M] 23)).alloc (.cells #[.func (.func 95) #[] #[], .func (.func 96) #[] #[]] 117)) (.cells #[.int .i64 0, .int .i64 0, .slice none 0 0] 29)) (show ((w.alloc (.cells #[.int .i64 V, .int .i64 W, .int .i64 H, .int .i64 K, .int .i64 L, .int .i64 D, .int .i64 N, .int .i64 M] 23)).alloc (.cells #[.func (.func 95) #[] #[], .func (.func 96) #[] #[]] 117)).cell? ⟨w.heap.size + 1, 0, none⟩ = some (.func (.func 95) #[] #[]) by simp)
  have d9 := fresh_cell (fresh_alloc ((w.alloc (.cells #[.int .i64 V, .int .i64 W, .int .i64 H, .int .i64 K, .int .i64 L, .int .i64 D, .int .i64 N, .int .i64 M] 23)).alloc (.cells #[.func (.func 95) #[] #[], .func (.func 96) #[] #[]] 117)) (.cells #[.int .i64 0, .int .i64 0, .slice none 0 0] 29)) (show ((w.alloc (.cells #[.int .i64 V, .int .i64 W, .int .i64 H, .int .i64 K, .int .i64 L, .int .i64 D, .int .i64 N, .int .i64 M] 23)).alloc (.cells #[.func (.func 95) #[] #[], .func (.func 96) #[] #[]] 117)).cell? ⟨w.heap.size + 1, 1, none⟩ = some (.func (.func 96) #[] #[]) by simp)
  have hs0 : (((w.alloc (.cells #[.int .i64 V, .int .i64 W, .int .i64 H, .int .i64 K, .int .i64 L, .int .i64 D, .int .i64 N, .int .i64 M] 23)).alloc (.cells #[.func (.func 95) #[] #[], .func (.func 96) #[] #[]] 117)).alloc (.cells #[.int .i64 0, .int .i64 0, .slice none 0 0] 29)).heap.size = w.heap.size + 3 := by simp
  generalize (((w.alloc (.cells #[.int .i64 V, .int .i64 W, .int .i64 H, .int .i64 K, .int .i64 L, .int .i64 D, .int .i64 N, .int .i64 M] 23)).alloc (.cells #[.func (.func 95) #[] #[], .func (.func 96) #[] #[]] 117)).alloc (.cells #[.int .i64 0, .int .i64 0, .slice none 0 0] 29)) = w1 at *
  replace d0 := later_cell d0
  replace d1 := later_cell d1
  replace d2 := later_cell d2
  replace d3 := later_cell d3
  replace d4 := later_cell d4
  replace d5 := later_cell d5
  replace d6 := later_cell d6
  replace d7 := later_cell d7
  replace d8 := later_cell d8
  replace d9 := later_cell d9
  have ne := later_some w1
  refine wp_region_later (by kernel_rfl) (by kernel_rfl) ?_
  repeat (go_big_quiet_step (fail))
  go_big_quiet_step (exact later_of (shVocab _ _ _ _ _ _ _ _ _))
  repeat (go_big_quiet_step (fail))
  go_big_quiet_step (exact later_of (shWidth _ _ _ _ _ _ _ _ _))
  repeat (go_big_quiet_step (fail))
  refine wpQuiet_nil ?_
  rintro _ ⟨z, rfl⟩
  have hz := z.fresh
  have HFZ := hidd (fresh_trans hf0 hz)
  have hsz : w.heap.size + 3 ≤ z.val.heap.size := by have := hz.size; omega
  have HRZ := hidd (row_fresh HR2.out hz)
  have HNR := hidd (narrow_any (HR.out.fresh HFZ.out) (Nat.lt_of_lt_of_le hbb HFZ.out.size) h0 hn)
  clear d0 d1 d2 d3 d4 d5 d6 d7 d8 d9 ne hz hf0 HR2
  generalize z.val = w2 at *
  go_wp2_with (go_at_call 71; refine HNR.out.mono ?_; rintro e w3 ⟨rfl, f, ho, hb, hp⟩; have q2 := hp.chg.row HRZ.out (by show ¬ (w.heap.size + 1 + 1 = r); omega); have b0 : w3.cell? ⟨w.heap.size + 1 + 1, 0, none⟩ = some (.int .i64 0) := q2.cell (i := 0) (by decide); have b1 : w3.cell? ⟨w.heap.size + 1 + 1, 1, none⟩ = some (.int .i64 0) := q2.cell (i := 1) (by decide); have b2 : w3.cell? ⟨w.heap.size + 1 + 1, 2, none⟩ = some (.slice none 0 0) := q2.cell (i := 2) (by decide); have z0 := q2.frozen; have HQ2 := hidd q2; have HO := hidd ho; have HBD := hidd hb; have HP := hidd hp; clear q2 ho hb hp)
  have hs3 := HP.out.chg.size
  have HQ := hidd (((HQ2.out.set 0 (.int .i64 V)).set 1 (.int .i64 W)).set 2 (.slice (some ⟨w2.heap.size, 0, none⟩) P P))
  have HCC : Hid (Chg w3 (((w3.setCell ⟨w.heap.size + 1 + 1, 0, none⟩ (.int .i64 V)).setCell ⟨w.heap.size + 1 + 1, 1, none⟩ (.int .i64 W)).setCell ⟨w.heap.size + 1 + 1, 2, none⟩ (.slice (some ⟨w2.heap.size, 0, none⟩) P P)) (fun b => b = w.heap.size + 1 + 1)) := ((Chg.of_set w3 _ 0 _).trans (Chg.of_set _ _ 1 _) (fun _ _ e => e)).trans (Chg.of_set _ _ 2 _) (fun _ _ e => e)
  refine bodyPost_ret (v := .agg #[.int .i64 V, .int .i64 W, .slice (some ⟨w2.heap.size, 0, none⟩) P P]) ?_ ?_ ?_
  · refine results_cell_mid Try.results92 _ _ (w.heap.size + 1 + 1) [.int .i64 V, .int .i64 W, .slice (some ⟨w2.heap.size, 0, none⟩) P P] _ rfl ?_ Try.underlying29 rfl (by kernel_rfl)
    intro j v hv
    match j, hv with
    | 0, hv => rw [← Option.some.inj hv]; exact HQ.out.cell (i := 0) (by decide)
    | 1, hv => rw [← Option.some.inj hv]; exact HQ.out.cell (i := 1) (by decide)
    | 2, hv => rw [← Option.some.inj hv]; exact HQ.out.cell (i := 2) (by decide)
    | j + 3, hv => cases hv
  · rfl
  · obtain ⟨p', bad', h1, h2⟩ := HP.out.ex
    refine ⟨_, rfl, by omega, f, (HO.out.chg HCC.out (fun b e hb => by have := (HO.out.lt b e).1; omega)).weaken (by omega), HBD.out, ⟨p', bad', h1, h2.chg HCC.out (by omega) (by omega)⟩, ?_⟩
    exact (Chg.pre HFZ.out HP.out.chg).trans HCC.out (fun b hb e => by omega)
end Go.Proofs.Ytilghknalbhacaa
