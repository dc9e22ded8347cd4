import Derived.Test.YtokedgilehcdlaaGgB
import Derived.Laws.Tables
import Derived.Laws.CopyOwn
import Derived.Deep.DeepCutAuto
namespace Go.Proofs.Ytokedgilehcdlaa
open Go.RowKit
/-! resized, rested, New, right. -/
theorem ret_cell_tmp {P : Program} {fn : Func} {p u : Tmp} {ty : TypeId} (h : fn.results = #[.cell p ty, .tmp u]) (tmps : Array Value) (w : World) (g : Nat) (t : TypeId) (cs : Array Value) (fr : Nat × Nat) (d : TypeDesc) (v : Value)
    (hp : tmps.getD p undef = .pointer (some ⟨g, 0, none⟩)) (hg : w.heap[g]? = some (.cells cs t fr))
    (hu : P.underlying ty = some d) (hd : (match d with | .struct _ | .array _ _ => true | _ => false) = true) (hi : (P.info? ty).map (·.size) = some cs.size) (hv : tmps.getD u undef = v) :
    (results fn tmps).run P w = .ok (.tuple #[.agg cs, v]) w := by
  rw [results_cell_tmp h, hp, hv]
  simp [asAddr, run_loadVar_row w g t ty cs fr d hg hu hd hi]
theorem tup3 {a b c x a' b' c' x' : Int} (h1 : a = a') (h2 : b = b') (h3 : c = c') (h4 : x = x') : Ending.returned (.tuple #[.agg #[.int .i64 a, .int .i64 b, .int .i64 c], .int .i64 x]) = .returned (.tuple #[.agg #[.int .i64 a', .int .i64 b', .int .i64 c'], .int .i64 x']) := by rw [h1, h2, h3, h4]
theorem all3 (a b c : Int) : (#[.int .i64 a, .int .i64 b, .int .i64 c] : Array Value).all (·.oneCell') = true := by simp [Value.oneCell']
set_option maxRecDepth 20000 in
set_option maxHeartbeats 1600000 in
theorem resized_any (w : World) (s m r z : Int) :
    Calls Try.prog 19 #[.agg #[.int .i64 s, .int .i64 m, .int .i64 r], .int .i64 z] w fun e w' => e = .returned (.agg #[.int .i64 (bS z m), .int .i64 (bM m), .int .i64 0]) ∧ Below w.heap.size w w' := by
  have HB : Hid (∀ w1, Calls Try.prog 17 #[.agg #[.int .i64 z, .int .i64 m, .int .i64 0]] w1 fun e w' => e = .returned (.agg #[.int .i64 (bS z m), .int .i64 (bM m), .int .i64 0]) ∧ Below w1.heap.size w1 w') := fun w1 => bounded_any w1 z m 0
  have HF0 : Hid (Below w.heap.size w ((w.alloc (.cells #[.int .i64 s, .int .i64 m, .int .i64 r] 23)).alloc (.cells #[.int .i64 0, .int .i64 0, .int .i64 0] 23))) := (fresh_alloc w _).alloc (by simp) _
  have HN0 : Hid (((w.alloc (.cells #[.int .i64 s, .int .i64 m, .int .i64 r] 23)).alloc (.cells #[.int .i64 0, .int .i64 0, .int .i64 0] 23)).heap[w.heap.size + 1]? = some (.cells #[.int .i64 0, .int .i64 0, .int .i64 0] 23 (0, 0))) := heap_alloc2_new _ _ _
  generalize bS z m = x at *
  generalize bM m = y at *
  go_enter Try.func19, Try.ntmps19
  go_wp2_with (first
    | (go_at_call 17; with_reducible refine (HB.out _).mono ?_; rintro e w2 ⟨rfl, hb2⟩; have HN2 := hidd ((hb2.block (w.heap.size + 1) (by simp)).trans HN0.out); have HF2 := hidd (HF0.out.trans (hb2.mono HF0.out.size)); clear hb2 HN0 HF0)
    | (refine wpList_store_row rfl 23 _ _ rfl (w.heap.size + 1) #[.int .i64 x, .int .i64 y, .int .i64 0] rfl rfl 23 _ HN2.out (by kernel_rfl) rfl (all3 _ _ _) ?_))
  refine bodyPost_ret (results_cell_row rfl _ _ (w.heap.size + 1) 23 _ (0, 0) _ rfl (setRow_heap _ _ _ _ _ _ HN2.out) Try.underlying23 rfl (by kernel_rfl)) rfl ?_
  exact ⟨rfl, below_setRow HF2.out (by omega) _⟩
set_option maxRecDepth 20000 in
set_option maxHeartbeats 1600000 in
theorem rested_any (w : World) {s m r x y : Int} (h : okG s m r) (hx : x = if 1 < s then s else if r < 3 then s else min 2 m) (hy : y = if 1 < s then r else if r < 3 then r + 1 else 0) :
    Calls Try.prog 18 #[.agg #[.int .i64 s, .int .i64 m, .int .i64 r]] w fun e w' => e = .returned (.agg #[.int .i64 x, .int .i64 m, .int .i64 y]) ∧ Below w.heap.size w w' := by
  obtain ⟨k1, k2, k3, k4, k5, k6⟩ := h
  have HB : Hid (∀ w1, Calls Try.prog 19 #[.agg #[.int .i64 s, .int .i64 m, .int .i64 r], .int .i64 2] w1 fun e w' => e = .returned (.agg #[.int .i64 (min 2 m), .int .i64 m, .int .i64 0]) ∧ Below w1.heap.size w1 w') := fun w1 => by
    have := resized_any w1 s m r 2
    rwa [show bS 2 m = min 2 m by unfold bS bM; omega, show bM m = m by unfold bM; omega] at this
  have hw : IntKind.i64.wrap (r + 1) = r + 1 := by rw [IntKind.wrap_i64]; omega
  have HF0 : Hid (Below w.heap.size w ((w.alloc (.cells #[.int .i64 s, .int .i64 m, .int .i64 r] 23)).alloc (.cells #[.int .i64 0, .int .i64 0, .int .i64 0] 23))) := (fresh_alloc w _).alloc (by simp) _
  have HN0 : Hid (((w.alloc (.cells #[.int .i64 s, .int .i64 m, .int .i64 r] 23)).alloc (.cells #[.int .i64 0, .int .i64 0, .int .i64 0] 23)).heap[w.heap.size + 1]? = some (.cells #[.int .i64 0, .int .i64 0, .int .i64 0] 23 (0, 0))) := heap_alloc2_new _ _ _
  generalize min 2 m = m2 at *
  by_cases a1 : 1 < s
  · rw [if_pos a1] at hx hy
    subst x y
    have d1 : decide (1 < s) = true := decide_eq_true a1
    clear HB HF0 HN0
    go_enter Try.func18, Try.ntmps18
    go_wp2
    refine bodyPost_ret (results_cell_row rfl _ _ (w.heap.size + 1) 23 _ (0, 0) _ rfl (heap_alloc2_new _ _ _) Try.underlying23 rfl (by kernel_rfl)) rfl ?_
    exact ⟨rfl, (fresh_alloc w _).alloc (by simp) _⟩
  · rw [if_neg a1] at hx hy
    have d1 : decide (1 < s) = false := decide_eq_false a1
    by_cases a2 : r < 3
    · rw [if_pos a2] at hx hy
      subst x y
      have d2 : decide (r < 3) = true := decide_eq_true a2
      clear HB HF0 HN0
      go_enter Try.func18, Try.ntmps18
      go_wp2
      refine bodyPost_ret (results_cell_row rfl _ _ (w.heap.size + 1) 23 _ (0, 0) _ rfl (heap_alloc2_new _ _ _) Try.underlying23 rfl (by kernel_rfl)) rfl ?_
      exact ⟨by first | rfl | rw [hw], (fresh_alloc w _).alloc (by simp) _⟩
    · rw [if_neg a2] at hx hy
      subst x y
      have d2 : decide (r < 3) = false := decide_eq_false a2
      go_enter Try.func18, Try.ntmps18
      go_wp2_with (first
        | (go_at_call 19; with_reducible refine (HB.out _).mono ?_; rintro e w2 ⟨rfl, hb2⟩; have HN2 := hidd ((hb2.block (w.heap.size + 1) (by simp)).trans HN0.out); have HF2 := hidd (HF0.out.trans (hb2.mono HF0.out.size)); clear hb2 HN0 HF0)
        | (refine wpList_store_row rfl 23 _ _ rfl (w.heap.size + 1) #[.int .i64 m2, .int .i64 m, .int .i64 0] rfl rfl 23 _ HN2.out (by kernel_rfl) rfl (all3 _ _ _) ?_))
      refine bodyPost_ret (results_cell_row rfl _ _ (w.heap.size + 1) 23 _ (0, 0) _ rfl (setRow_heap _ _ _ _ _ _ HN2.out) Try.underlying23 rfl (by kernel_rfl)) rfl ?_
      exact ⟨rfl, below_setRow HF2.out (by omega) _⟩
set_option maxRecDepth 20000 in
set_option maxHeartbeats 1600000 in
theorem right_any (w : World) (s m r k : Int) {b : Bool} (h : b = true ↔ m = k ∧ 1 ≤ s ∧ s ≤ k ∧ 0 ≤ r ∧ r ≤ 3) :
    Calls Try.prog 13 #[.agg #[.int .i64 s, .int .i64 m, .int .i64 r], .int .i64 k] w fun e w' => e = .returned (.bool b) ∧ Below w.heap.size w w' := by
  have HH := hidd h
  clear h
  go_enter Try.func13, Try.ntmps13
  go_wp2
  all_goals
    go_ret
    refine ⟨ret_bool ?_, fresh_alloc w _⟩
    cases b with
    | true =>
      have := HH.out.1 rfl
      first | rfl | (exfalso; omega) | (simp; omega)
    | false =>
      have : ¬ _ := fun q => absurd (HH.out.2 q) (by simp)
      first | rfl | (exfalso; omega) | (simp; omega)
end Go.Proofs.Ytokedgilehcdlaa
