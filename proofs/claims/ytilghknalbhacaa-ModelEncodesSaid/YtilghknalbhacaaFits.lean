import Derived.Test.YtilghknalbhacaaJAI
namespace Go.Proofs.Ytilghknalbhacaa
open Go.RowKit
/-! A matrix of a shape. -/
theorem third_cell (w : World) (o1 o2 : Obj) (cs : Array Value) (t : TypeId) (j : Nat) : (((w.alloc o1).alloc o2).alloc (.cells cs t)).cell? ⟨w.heap.size + 1 + 1, j, none⟩ = cs[j]? := by
  have h := heap_new ((w.alloc o1).alloc o2) (.cells cs t)
  have hs : ((w.alloc o1).alloc o2).heap.size = w.heap.size + 1 + 1 := by simp
  rw [hs] at h
  exact cell_heap h j
set_option maxHeartbeats 4000000 in
theorem fitsQO {w : World} {m : MtD} (hm : MtR w m) (V W H K L D N M : Int) (b : Bool) (hb : b = true ↔ m.isa W W) :
    Calls Try.prog 85 #[.agg #[.func (.func 96) #[] #[], .func (.func 96) #[] #[]], .agg #[.int .i64 V, .int .i64 W, .int .i64 H, .int .i64 K, .int .i64 L, .int .i64 D, .int .i64 N, .int .i64 M], .agg #[.int .i64 m.R, .int .i64 m.C, .slice m.O m.n m.c]] w fun e w' => e = .returned (.bool b) ∧ Below w.heap.size w w' := by
  have HM := hidd hm
  have HB := hidd hb
  have HF : ∀ P : Prop, (m.isa W W → P) → ¬ P → Hid (b = false) := fun P h1 h2 => by
    show b = false
    cases hbb : b with
    | false => rfl
    | true => exact absurd (h1 (HB.out.1 hbb)) h2
  clear hm hb
  go_enter Try.func85, Try.ntmps85
  go_wp2
  have hf0 := fresh_trans (fresh_trans (fresh_alloc w (.cells #[.func (.func 96) #[] #[], .func (.func 96) #[] #[]] 117)) (fresh_alloc _ (.cells #[.int .i64 V, .int .i64 W, .int .i64 H, .int .i64 K, .int .i64 L, .int .i64 D, .int .i64 N, .int .i64 M] 23))) (fresh_alloc _ (.cells #[.int .i64 m.R, .int .i64 m.C, .slice m.O m.n m.c] 29))
  have d0 := fresh_cell (fresh_alloc ((w.alloc (.cells #[.func (.func 96) #[] #[], .func (.func 96) #[] #[]] 117)).alloc (.cells #[.int .i64 V, .int .i64 W, .int .i64 H, .int .i64 K, .int .i64 L, .int .i64 D, .int .i64 N, .int .i64 M] 23)) (.cells #[.int .i64 m.R, .int .i64 m.C, .slice m.O m.n m.c] 29)) (show ((w.alloc (.cells #[.func (.func 96) #[] #[], .func (.func 96) #[] #[]] 117)).alloc (.cells #[.int .i64 V, .int .i64 W, .int .i64 H, .int .i64 K, .int .i64 L, .int .i64 D, .int .i64 N, .int .i64 M] 23)).cell? ⟨w.heap.size, 0, none⟩ = some (.func (.func 96) #[] #[]) by simp)
  have d1 := fresh_cell (fresh_alloc ((w.alloc (.cells #[.func (.func 96) #[] #[], .func (.func 96) #[] #[]] 117)).alloc (.cells #[.int .i64 V, .int .i64 W, .int .i64 H, .int .i64 K, .int .i64 L, .int .i64 D, .int .i64 N, .int .i64 M] 23)) (.cells #[.int .i64 m.R, .int .i64 m.C, .slice m.O m.n m.c] 29)) (show ((w.alloc (.cells #[.func (.func 96) #[] #[], .func (.func 96) #[] #[]] 117)).alloc (.cells #[.int .i64 V, .int .i64 W, .int .i64 H, .int .i64 K, .int .i64 L, .int .i64 D, .int .i64 N, .int .i64 M] 23)).cell? ⟨w.heap.size, 1, none⟩ = some (.func (.func 96) #[] #[]) by simp)
  have d2 := fresh_cell (fresh_alloc ((w.alloc (.cells #[.func (.func 96) #[] #[], .func (.func 96) #[] #[]] 117)).alloc (.cells #[.int .i64 V, .int .i64 W, .int .i64 H, .int .i64 K, .int .i64 L, .int .i64 D, .int .i64 N, .int .i64 M] 23)) (.cells #[.int .i64 m.R, .int .i64 m.C, .slice m.O m.n m.c] 29)) (show ((w.alloc (.cells #[.func (.func 96) #[] #[], .func (.func 96) #[] #[]] 117)).alloc (.cells #[.int .i64 V, .int .i64 W, .int .i64 H, .int .i64 K, .int .i64 L, .int .i64 D, .int .i64 N, .int .i64 M] 23)).cell? ⟨w.heap.size + 1, 0, none⟩ = some (.int .i64 V) by simp)
  have d3 := fresh_cell (fresh_alloc ((w.alloc (.cells #[.func (.func 96) #[] #[], .func (.func 96) #[] #[]] 117)).alloc (.cells #[.int .i64 V, .int .i64 W, .int .i64 H, .int .i64 K, .int .i64 L, .int .i64 D, .int .i64 N, .int .i64 M] 23)) (.cells #[.int .i64 m.R, .int .i64 m.C, .slice m.O m.n m.c] 29)) (show ((w.alloc (.cells #[.func (.func 96) #[] #[], .func (.func 96) #[] #[]] 117)).alloc (.cells #[.int .i64 V, .int .i64 W, .int .i64 H, .int .i64 K, .int .i64 L, .int .i64 D, .int .i64 N, .int .i64 M] 23)).cell? ⟨w.heap.size + 1, 1, none⟩ = some (.int .i64 W) by simp)
  have d4 := fresh_cell (fresh_alloc ((w.alloc (.cells #[.func (.func 96) #[] #[], .func (.func 96) #[] #[]] 117)).alloc (.cells #[.int .i64 V, .int .i64 W, .int .i64 H, .int .i64 K, .int .i64 L, .int .i64 D, .int .i64 N, .int .i64 M] 23)) (.cells #[.int .i64 m.R, .int .i64 m.C, .slice m.O m.n m.c] 29)) (show ((w.alloc (.cells #[.func (.func 96) #[] #[], .func (.func 96) #[] #[]] 117)).alloc (.cells #[.int .i64 V, .int .i64 W, .int .i64 H, .int .i64 K, .int .i64 L, .int .i64 D, .int .i64 N, .int .i64 M] 23)).cell? ⟨w.heap.size + 1, 2, none⟩ = some (.int .i64 H) by simp)
  have d5 := fresh_cell (fresh_alloc ((w.alloc (.cells #[.func (.func 96) #[] #[], .func (.func 96) #[] #[]] 117)).alloc (.cells #[.int .i64 V, .int .i64 W, .int .i64 H, .int .i64 K, .int .i64 L, .int .i64 D, .int .i64 N, .int .i64 M] 23)) (.cells #[.int .i64 m.R, .int .i64 m.C, .slice m.O m.n m.c] 29)) (show ((w.alloc (.cells #[.func (.func 96) #[] #[], .func (.func 96) #[] #[]] 117)).alloc (.cells #[.int .i64 V, .int .i64 W, .int .i64 H, .int .i64 K, .int .i64 L, .int .i64 D, .int .i64 N, .int .i64 M] 23)).cell? ⟨w.heap.size + 1, 3, none⟩ = some (.int .i64 K) by simp)
  have d6 := fresh_cell (fresh_alloc ((w.alloc (.cells #[.func (.func 96) #[] #[], .func (.func 96) #[] #[]] 117)).alloc (.cells #[.int .i64 V, .int .i64 W, .int .i64 H, .int .i64 K, .int .i64 L, .int .i64 D, .int .i64 N, .int .i64 M] 23)) (.cells #[.int .i64 m.R, .int .i64 m.C, .slice m.O m.n m.c] 29)) (show ((w.alloc (.cells #[.func (.func 96) #[] #[], .func (.func 96) #[] #[]] 117)).alloc (.cells #[.int .i64 V, .int .i64 W, .int .i64 H, .int .i64 K, .int .i64 L, .int .i64 D, .int .i64 N, .int .i64 M] 23)).cell? ⟨w.heap.size + 1, 4, none⟩ = some (.int .i64 L) by simp)
  have d7 := fresh_cell (fresh_alloc ((w.alloc (.cells #[.func (.func 96) #[] #[], .func (.func 96) #[] #[]] 117)).alloc (.cells #[.int .i64 V, .int .i64 W, .int .i64 H, .int .i64 K, .int .i64 L, .int .i64 D, .int .i64 N, .int .i64 M] 23)) (.cells #[.int .i64 m.R, .int .i64 m.C, .slice m.O m.n m.c] 29)) (show ((w.alloc (.cells #[.func (.func 96) #[] #[], .func (.func 96) #[] #[]] 117)).alloc (.cells #[.int .i64 V, .int .i64 W, .int .i64 H, .int .i64 K, .int .i64 L, .int .i64 D, .int .i64 N, .int .i64 M] 23)).cell? ⟨w.heap.size + 1, 5, none⟩ = some (.int .i64 D) by simp)
  have d8 := fresh_cell (fresh_alloc ((w.alloc (.cells #[.func (.func 96) #[] #[], .func (.func 96) #[] #[]] 117)).alloc (.cells #[.int .i64 V, .int .i64 W, .int .i64 H, .int .i64 K, .int .i64 L, .int .i64 D, .int .i64 N, .int .i64 M] 23)) (.cells #[.int .i64 m.R, .int .i64 m.C, .slice m.O m.n m.c] 29)) (show ((w.alloc (.cells #[.func (.func 96) #[] #[], .func (.func 96) #[] #[]] 117)).alloc (.cells #[.int .i64 V, .int .i64 W, .int .i64 H, .int .i64 K, .int .i64 L, .int .i64 D, .int .i64 N, .int .i64 M] 23)).cell? ⟨w.heap.size + 1, 6, none⟩ = some (.int .i64 N) by simp)
  have d9 := fresh_cell (fresh_alloc ((w.alloc (.cells #[.func (.func 96) #[] #[], .func (.func 96) #[] #[]] 117)).alloc (.cells #[.int .i64 V, .int .i64 W, .int .i64 H, .int .i64 K, .int .i64 L, .int .i64 D, .int .i64 N, .int .i64 M] 23)) (.cells #[.int .i64 m.R, .int .i64 m.C, .slice m.O m.n m.c] 29)) (show ((w.alloc (.cells #[.func (.func 96) #[] #[], .func (.func 96) #[] #[]] 117)).alloc (.cells #[.int .i64 V, .int .i64 W, .int .i64 H, .int .i64 K, .int .i64 L, .int .i64 D, .int .i64 N, .int .i64 M] 23)).cell? ⟨w.heap.size + 1, 7, none⟩ = some (.int .i64 M) by simp)
  have d10 : (((w.alloc (.cells #[.func (.func 96) #[] #[], .func (.func 96) #[] #[]] 117)).alloc (.cells #[.int .i64 V, .int .i64 W, .int .i64 H, .int .i64 K, .int .i64 L, .int .i64 D, .int .i64 N, .int .i64 M] 23)).alloc (.cells #[.int .i64 m.R, .int .i64 m.C, .slice m.O m.n m.c] 29)).cell? ⟨w.heap.size + 1 + 1, 0, none⟩ = some (.int .i64 m.R) := third_cell w _ _ #[.int .i64 m.R, .int .i64 m.C, .slice m.O m.n m.c] 29 0
  have d11 : (((w.alloc (.cells #[.func (.func 96) #[] #[], .func (.func 96) #[] #[]] 117)).alloc (.cells #[.int .i64 V, .int .i64 W, .int .i64 H, .int .i64 K, .int .i64 L, .int .i64 D, .int .i64 N, .int .i64 M] 23)).alloc (.cells #[.int .i64 m.R, .int .i64 m.C, .slice m.O m.n m.c] 29)).cell? ⟨w.heap.size + 1 + 1, 1, none⟩ = some (.int .i64 m.C) := third_cell w _ _ #[.int .i64 m.R, .int .i64 m.C, .slice m.O m.n m.c] 29 1
  have d12 : (((w.alloc (.cells #[.func (.func 96) #[] #[], .func (.func 96) #[] #[]] 117)).alloc (.cells #[.int .i64 V, .int .i64 W, .int .i64 H, .int .i64 K, .int .i64 L, .int .i64 D, .int .i64 N, .int .i64 M] 23)).alloc (.cells #[.int .i64 m.R, .int .i64 m.C, .slice m.O m.n m.c] 29)).cell? ⟨w.heap.size + 1 + 1, 2, none⟩ = some (.slice m.O m.n m.c) := third_cell w _ _ #[.int .i64 m.R, .int .i64 m.C, .slice m.O m.n m.c] 29 2
  generalize (((w.alloc (.cells #[.func (.func 96) #[] #[], .func (.func 96) #[] #[]] 117)).alloc (.cells #[.int .i64 V, .int .i64 W, .int .i64 H, .int .i64 K, .int .i64 L, .int .i64 D, .int .i64 N, .int .i64 M] 23)).alloc (.cells #[.int .i64 m.R, .int .i64 m.C, .slice m.O m.n m.c] 29)) = w1 at *
  have HM1 := hidd (HM.out.fresh hf0)
  replace d0 := later_cell d0
  replace d1 := later_cell d1
  replace d2 := later_cell d2
  replace d3 := later_cell d3
  replace d4 := later_cell d4
  replace d5 := later_cell d5
  replace d6 := later_cell d6
  replace d7 := later_cell d7
  replace d8 := later_cell d8
  replace d9 := later_cell d9
  replace d10 := later_cell d10
  replace d11 := later_cell d11
  replace d12 := later_cell d12
  have ne := later_some w1
  by_cases p1 : m.R = W
  · have e1 : (m.R == W) = true := by simp [p1]
    by_cases p2 : m.C = W
    · have e2 : (m.C == W) = true := by simp [p2]
      have qc : ∃ er : Int, (er = 0 ↔ (shp m.R m.C m.n = true ∧ ∀ i, i < m.n → -127 ≤ m.f i)) ∧ ∀ w', RdA w' m.O 1 m.n m.c (fun i => .int .i8 (m.f i)) → Calls Try.prog 99 #[.agg #[.int .i64 m.R, .int .i64 m.C, .slice m.O m.n m.c]] w' fun e w'' => e = .returned (.int .i64 er) ∧ Below w'.heap.size w' w'' := by
        by_cases h : shp m.R m.C m.n = true ∧ ∀ i, i < m.n → -127 ≤ m.f i
        · exact ⟨0, ⟨fun _ => h, fun _ => rfl⟩, fun w' hr => check_ok hr h.1 h.2⟩
        · refine ⟨30, ⟨fun e => by omega, fun e => absurd e h⟩, fun w' hr => check_bad hr ?_⟩
          cases hs : shp m.R m.C m.n with
          | false => exact .inl rfl
          | true => exact .inr (some_low (fun h2 => h ⟨hs, h2⟩))
      obtain ⟨er, her, hck⟩ := qc
      have HE : Hid ((er == 0) = b) := by
        show (er == 0) = b
        cases hbb : b with
        | true => simp only [beq_iff_eq]; exact her.2 (HB.out.1 hbb).1
        | false =>
          simp only [beq_eq_false_iff_ne]
          intro e
          have := HB.out.2 ⟨her.1 e, p1, p2⟩
          rw [hbb] at this
          cases this
      clear her p1 p2 HB HF
      refine wp_region_later (by kernel_rfl) (by kernel_rfl) ?_
      repeat (go_big_quiet_step (fail))
      go_big_quiet_step (exact later_of (shWidth _ _ _ _ _ _ _ _ _))
      repeat (go_big_quiet_step (fail))
      go_big_quiet_step (exact later_of (shWidth _ _ _ _ _ _ _ _ _))
      repeat (go_big_quiet_step (fail))
      go_big_quiet_step (exact later_of (hck _ (HM1.out.rd.fresh (Later.fresh _))))
      repeat (go_big_quiet_step (fail))
      refine wpQuiet_nil ?_
      rintro _ ⟨z, rfl⟩
      have hz := z.fresh
      go_wp2
      go_ret
      exact ⟨ret_bool HE.out, fresh_trans hf0 hz⟩
    · have e2 : (m.C == W) = false := by simp [p2]
      have HE := HF (m.C = W) (fun h => h.2.2) p2
      clear p1 p2 HB HF
      refine wp_region_later (by kernel_rfl) (by kernel_rfl) ?_
      repeat (go_big_quiet_step (fail))
      go_big_quiet_step (exact later_of (shWidth _ _ _ _ _ _ _ _ _))
      repeat (go_big_quiet_step (fail))
      go_big_quiet_step (exact later_of (shWidth _ _ _ _ _ _ _ _ _))
      repeat (go_big_quiet_step (fail))
      refine wpQuiet_nil ?_
      rintro _ ⟨z, rfl⟩
      have hz := z.fresh
      go_wp2
      go_ret
      exact ⟨ret_bool HE.out.symm, fresh_trans hf0 hz⟩
  · have e1 : (m.R == W) = false := by simp [p1]
    have HE := HF (m.R = W) (fun h => h.2.1) p1
    clear p1 HB HF
    refine wp_region_later (by kernel_rfl) (by kernel_rfl) ?_
    repeat (go_big_quiet_step (fail))
    go_big_quiet_step (exact later_of (shWidth _ _ _ _ _ _ _ _ _))
    repeat (go_big_quiet_step (fail))
    refine wpQuiet_nil ?_
    rintro _ ⟨z, rfl⟩
    have hz := z.fresh
    go_wp2
    go_ret
    exact ⟨ret_bool HE.out.symm, fresh_trans hf0 hz⟩
set_option maxHeartbeats 4000000 in
theorem fitsKV {w : World} {m : MtD} (hm : MtR w m) (V W H K L D N M : Int) (kv : Int) (hH : 1 ≤ H) (hH4 : H ≤ 4) (hW : 2 ≤ W) (hW2 : W ≤ 32) (hkv : K * (W / H) = kv) (kv0 : 0 ≤ kv) (kv1 : kv ≤ 128) (b : Bool) (hb : b = true ↔ m.isa kv W) :
    Calls Try.prog 85 #[.agg #[.func (.func 98) #[] #[], .func (.func 96) #[] #[]], .agg #[.int .i64 V, .int .i64 W, .int .i64 H, .int .i64 K, .int .i64 L, .int .i64 D, .int .i64 N, .int .i64 M], .agg #[.int .i64 m.R, .int .i64 m.C, .slice m.O m.n m.c]] w fun e w' => e = .returned (.bool b) ∧ Below w.heap.size w w' := by
  have HM := hidd hm
  have HB := hidd hb
  have HF : ∀ P : Prop, (m.isa kv W → P) → ¬ P → Hid (b = false) := fun P h1 h2 => by
    show b = false
    cases hbb : b with
    | false => rfl
    | true => exact absurd (h1 (HB.out.1 hbb)) h2
  clear hm hb
  go_enter Try.func85, Try.ntmps85
  go_wp2
  have hf0 := fresh_trans (fresh_trans (fresh_alloc w (.cells #[.func (.func 98) #[] #[], .func (.func 96) #[] #[]] 117)) (fresh_alloc _ (.cells #[.int .i64 V, .int .i64 W, .int .i64 H, .int .i64 K, .int .i64 L, .int .i64 D, .int .i64 N, .int .i64 M] 23))) (fresh_alloc _ (.cells #[.int .i64 m.R, .int .i64 m.C, .slice m.O m.n m.c] 29))
  have d0 := fresh_cell (fresh_alloc ((w.alloc (.cells #[.func (.func 98) #[] #[], .func (.func 96) #[] #[]] 117)).alloc (.cells #[.int .i64 V, .int .i64 W, .int .i64 H, .int .i64 K, .int .i64 L, .int .i64 D, .int .i64 N, .int .i64 M] 23)) (.cells #[.int .i64 m.R, .int .i64 m.C, .slice m.O m.n m.c] 29)) (show ((w.alloc (.cells #[.func (.func 98) #[] #[], .func (.func 96) #[] #[]] 117)).alloc (.cells #[.int .i64 V, .int .i64 W, .int .i64 H, .int .i64 K, .int .i64 L, .int .i64 D, .int .i64 N, .int .i64 M] 23)).cell? ⟨w.heap.size, 0, none⟩ = some (.func (.func 98) #[] #[]) by simp)
  have d1 := fresh_cell (fresh_alloc ((w.alloc (.cells #[.func (.func 98) #[] #[], .func (.func 96) #[] #[]] 117)).alloc (.cells #[.int .i64 V, .int .i64 W, .int .i64 H, .int .i64 K, .int .i64 L, .int .i64 D, .int .i64 N, .int .i64 M] 23)) (.cells #[.int .i64 m.R, .int .i64 m.C, .slice m.O m.n m.c] 29)) (show ((w.alloc (.cells #[.func (.func 98) #[] #[], .func (.func 96) #[] #[]] 117)).alloc (.cells #[.int .i64 V, .int .i64 W, .int .i64 H, .int .i64 K, .int .i64 L, .int .i64 D, .int .i64 N, .int .i64 M] 23)).cell? ⟨w.heap.size, 1, none⟩ = some (.func (.func 96) #[] #[]) by simp)
  have d2 := fresh_cell (fresh_alloc ((w.alloc (.cells #[.func (.func 98) #[] #[], .func (.func 96) #[] #[]] 117)).alloc (.cells #[.int .i64 V, .int .i64 W, .int .i64 H, .int .i64 K, .int .i64 L, .int .i64 D, .int .i64 N, .int .i64 M] 23)) (.cells #[.int .i64 m.R, .int .i64 m.C, .slice m.O m.n m.c] 29)) (show ((w.alloc (.cells #[.func (.func 98) #[] #[], .func (.func 96) #[] #[]] 117)).alloc (.cells #[.int .i64 V, .int .i64 W, .int .i64 H, .int .i64 K, .int .i64 L, .int .i64 D, .int .i64 N, .int .i64 M] 23)).cell? ⟨w.heap.size + 1, 0, none⟩ = some (.int .i64 V) by simp)
  have d3 := fresh_cell (fresh_alloc ((w.alloc (.cells #[.func (.func 98) #[] #[], .func (.func 96) #[] #[]] 117)).alloc (.cells #[.int .i64 V, .int .i64 W, .int .i64 H, .int .i64 K, .int .i64 L, .int .i64 D, .int .i64 N, .int .i64 M] 23)) (.cells #[.int .i64 m.R, .int .i64 m.C, .slice m.O m.n m.c] 29)) (show ((w.alloc (.cells #[.func (.func 98) #[] #[], .func (.func 96) #[] #[]] 117)).alloc (.cells #[.int .i64 V, .int .i64 W, .int .i64 H, .int .i64 K, .int .i64 L, .int .i64 D, .int .i64 N, .int .i64 M] 23)).cell? ⟨w.heap.size + 1, 1, none⟩ = some (.int .i64 W) by simp)
  have d4 := fresh_cell (fresh_alloc ((w.alloc (.cells #[.func (.func 98) #[] #[], .func (.func 96) #[] #[]] 117)).alloc (.cells #[.int .i64 V, .int .i64 W, .int .i64 H, .int .i64 K, .int .i64 L, .int .i64 D, .int .i64 N, .int .i64 M] 23)) (.cells #[.int .i64 m.R, .int .i64 m.C, .slice m.O m.n m.c] 29)) (show ((w.alloc (.cells #[.func (.func 98) #[] #[], .func (.func 96) #[] #[]] 117)).alloc (.cells #[.int .i64 V, .int .i64 W, .int .i64 H, .int .i64 K, .int .i64 L, .int .i64 D, .int .i64 N, .int .i64 M] 23)).cell? ⟨w.heap.size + 1, 2, none⟩ = some (.int .i64 H) by simp)
  have d5 := fresh_cell (fresh_alloc ((w.alloc (.cells #[.func (.func 98) #[] #[], .func (.func 96) #[] #[]] 117)).alloc (.cells #[.int .i64 V, .int .i64 W, .int .i64 H, .int .i64 K, .int .i64 L, .int .i64 D, .int .i64 N, .int .i64 M] 23)) (.cells #[.int .i64 m.R, .int .i64 m.C, .slice m.O m.n m.c] 29)) (show ((w.alloc (.cells #[.func (.func 98) #[] #[], .func (.func 96) #[] #[]] 117)).alloc (.cells #[.int .i64 V, .int .i64 W, .int .i64 H, .int .i64 K, .int .i64 L, .int .i64 D, .int .i64 N, .int .i64 M] 23)).cell? ⟨w.heap.size + 1, 3, none⟩ = some (.int .i64 K) by simp)
  have d6 := fresh_cell (fresh_alloc ((w.alloc (.cells #[.func (.func 98) #[] #[], .func (.func 96) #[] #[]] 117)).alloc (.cells #[.int .i64 V, .int .i64 W, .int .i64 H, .int .i64 K, .int .i64 L, .int .i64 D, .int .i64 N, .int .i64 M] 23)) (.cells #[.int .i64 m.R, .int .i64 m.C, .slice m.O m.n m.c] 29)) (show ((w.alloc (.cells #[.func (.func 98) #[] #[], .func (.func 96) #[] #[]] 117)).alloc (.cells #[.int .i64 V, .int .i64 W, .int .i64 H, .int .i64 K, .int .i64 L, .int .i64 D, .int .i64 N, .int .i64 M] 23)).cell? ⟨w.heap.size + 1, 4, none⟩ = some (.int .i64 L) by simp)
  have d7 := fresh_cell (fresh_alloc ((w.alloc (.cells #[.func (.func 98) #[] #[], .func (.func 96) #[] #[]] 117)).alloc (.cells #[.int .i64 V, .int .i64 W, .int .i64 H, .int .i64 K, .int .i64 L, .int .i64 D, .int .i64 N, .int .i64 M] 23)) (.cells #[.int .i64 m.R, .int .i64 m.C, .slice m.O m.n m.c] 29)) (show ((w.alloc (.cells #[.func (.func 98) #[] #[], .func (.func 96) #[] #[]] 117)).alloc (.cells #[.int .i64 V, .int .i64 W, .int .i64 H, .int .i64 K, .int .i64 L, .int .i64 D, .int .i64 N, .int .i64 M] 23)).cell? ⟨w.heap.size + 1, 5, none⟩ = some (.int .i64 D) by simp)
  have d8 := fresh_cell (fresh_alloc ((w.alloc (.cells #[.func (.func 98) #[] #[], .func (.func 96) #[] #[]] 117)).alloc (.cells #[.int .i64 V, .int .i64 W, .int .i64 H, .int .i64 K, .int .i64 L, .int .i64 D, .int .i64 N, .int .i64 M] 23)) (.cells #[.int .i64 m.R, .int .i64 m.C, .slice m.O m.n m.c] 29)) (show ((w.alloc (.cells #[.func (.func 98) #[] #[], .func (.func 96) #[] #[]] 117)).alloc (.cells #[.int .i64 V, .int .i64 W, .int .i64 H, .int .i64 K, .int .i64 L, .int .i64 D, .int .i64 N, .int .i64 M] 23)).cell? ⟨w.heap.size + 1, 6, none⟩ = some (.int .i64 N) by simp)
  have d9 := fresh_cell (fresh_alloc ((w.alloc (.cells #[.func (.func 98) #[] #[], .func (.func 96) #[] #[]] 117)).alloc (.cells #[.int .i64 V, .int .i64 W, .int .i64 H, .int .i64 K, .int .i64 L, .int .i64 D, .int .i64 N, .int .i64 M] 23)) (.cells #[.int .i64 m.R, .int .i64 m.C, .slice m.O m.n m.c] 29)) (show ((w.alloc (.cells #[.func (.func 98) #[] #[], .func (.func 96) #[] #[]] 117)).alloc (.cells #[.int .i64 V, .int .i64 W, .int .i64 H, .int .i64 K, .int .i64 L, .int .i64 D, .int .i64 N, .int .i64 M] 23)).cell? ⟨w.heap.size + 1, 7, none⟩ = some (.int .i64 M) by simp)
  have d10 : (((w.alloc (.cells #[.func (.func 98) #[] #[], .func (.func 96) #[] #[]] 117)).alloc (.cells #[.int .i64 V, .int .i64 W, .int .i64 H, .int .i64 K, .int .i64 L, .int .i64 D, .int .i64 N, .int .i64 M] 23)).alloc (.cells #[.int .i64 m.R, .int .i64 m.C, .slice m.O m.n m.c] 29)).cell? ⟨w.heap.size + 1 + 1, 0, none⟩ = some (.int .i64 m.R) := third_cell w _ _ #[.int .i64 m.R, .int .i64 m.C, .slice m.O m.n m.c] 29 0
  have d11 : (((w.alloc (.cells #[.func (.func 98) #[] #[], .func (.func 96) #[] #[]] 117)).alloc (.cells #[.int .i64 V, .int .i64 W, .int .i64 H, .int .i64 K, .int .i64 L, .int .i64 D, .int .i64 N, .int .i64 M] 23)).alloc (.cells #[.int .i64 m.R, .int .i64 m.C, .slice m.O m.n m.c] 29)).cell? ⟨w.heap.size + 1 + 1, 1, none⟩ = some (.int .i64 m.C) := third_cell w _ _ #[.int .i64 m.R, .int .i64 m.C, .slice m.O m.n m.c] 29 1
  have d12 : (((w.alloc (.cells #[.func (.func 98) #[] #[], .func (.func 96) #[] #[]] 117)).alloc (.cells #[.int .i64 V, .int .i64 W, .int .i64 H, .int .i64 K, .int .i64 L, .int .i64 D, .int .i64 N, .int .i64 M] 23)).alloc (.cells #[.int .i64 m.R, .int .i64 m.C, .slice m.O m.n m.c] 29)).cell? ⟨w.heap.size + 1 + 1, 2, none⟩ = some (.slice m.O m.n m.c) := third_cell w _ _ #[.int .i64 m.R, .int .i64 m.C, .slice m.O m.n m.c] 29 2
  generalize (((w.alloc (.cells #[.func (.func 98) #[] #[], .func (.func 96) #[] #[]] 117)).alloc (.cells #[.int .i64 V, .int .i64 W, .int .i64 H, .int .i64 K, .int .i64 L, .int .i64 D, .int .i64 N, .int .i64 M] 23)).alloc (.cells #[.int .i64 m.R, .int .i64 m.C, .slice m.O m.n m.c] 29)) = w1 at *
  have HM1 := hidd (HM.out.fresh hf0)
  replace d0 := later_cell d0
  replace d1 := later_cell d1
  replace d2 := later_cell d2
  replace d3 := later_cell d3
  replace d4 := later_cell d4
  replace d5 := later_cell d5
  replace d6 := later_cell d6
  replace d7 := later_cell d7
  replace d8 := later_cell d8
  replace d9 := later_cell d9
  replace d10 := later_cell d10
  replace d11 := later_cell d11
  replace d12 := later_cell d12
  have ne := later_some w1
  by_cases p1 : m.R = kv
  · have e1 : (m.R == kv) = true := by simp [p1]
    by_cases p2 : m.C = W
    · have e2 : (m.C == W) = true := by simp [p2]
      have qc : ∃ er : Int, (er = 0 ↔ (shp m.R m.C m.n = true ∧ ∀ i, i < m.n → -127 ≤ m.f i)) ∧ ∀ w', RdA w' m.O 1 m.n m.c (fun i => .int .i8 (m.f i)) → Calls Try.prog 99 #[.agg #[.int .i64 m.R, .int .i64 m.C, .slice m.O m.n m.c]] w' fun e w'' => e = .returned (.int .i64 er) ∧ Below w'.heap.size w' w'' := by
        by_cases h : shp m.R m.C m.n = true ∧ ∀ i, i < m.n → -127 ≤ m.f i
        · exact ⟨0, ⟨fun _ => h, fun _ => rfl⟩, fun w' hr => check_ok hr h.1 h.2⟩
        · refine ⟨30, ⟨fun e => by omega, fun e => absurd e h⟩, fun w' hr => check_bad hr ?_⟩
          cases hs : shp m.R m.C m.n with
          | false => exact .inl rfl
          | true => exact .inr (some_low (fun h2 => h ⟨hs, h2⟩))
      obtain ⟨er, her, hck⟩ := qc
      have HE : Hid ((er == 0) = b) := by
        show (er == 0) = b
        cases hbb : b with
        | true => simp only [beq_iff_eq]; exact her.2 (HB.out.1 hbb).1
        | false =>
          simp only [beq_eq_false_iff_ne]
          intro e
          have := HB.out.2 ⟨her.1 e, p1, p2⟩
          rw [hbb] at this
          cases this
      clear her p1 p2 HB HF
      refine wp_region_later (by kernel_rfl) (by kernel_rfl) ?_
      repeat (go_big_quiet_step (fail))
      go_big_quiet_step (exact later_of (shKeys _ _ _ _ _ _ _ _ kv _ hH hH4 hW hW2 hkv kv0 kv1))
      repeat (go_big_quiet_step (fail))
      go_big_quiet_step (exact later_of (shWidth _ _ _ _ _ _ _ _ _))
      repeat (go_big_quiet_step (fail))
      go_big_quiet_step (exact later_of (hck _ (HM1.out.rd.fresh (Later.fresh _))))
      repeat (go_big_quiet_step (fail))
      refine wpQuiet_nil ?_
      rintro _ ⟨z, rfl⟩
      have hz := z.fresh
      go_wp2
      go_ret
      exact ⟨ret_bool HE.out, fresh_trans hf0 hz⟩
    · have e2 : (m.C == W) = false := by simp [p2]
      have HE := HF (m.C = W) (fun h => h.2.2) p2
      clear p1 p2 HB HF
      refine wp_region_later (by kernel_rfl) (by kernel_rfl) ?_
      repeat (go_big_quiet_step (fail))
      go_big_quiet_step (exact later_of (shKeys _ _ _ _ _ _ _ _ kv _ hH hH4 hW hW2 hkv kv0 kv1))
      repeat (go_big_quiet_step (fail))
      go_big_quiet_step (exact later_of (shWidth _ _ _ _ _ _ _ _ _))
      repeat (go_big_quiet_step (fail))
      refine wpQuiet_nil ?_
      rintro _ ⟨z, rfl⟩
      have hz := z.fresh
      go_wp2
      go_ret
      exact ⟨ret_bool HE.out.symm, fresh_trans hf0 hz⟩
  · have e1 : (m.R == kv) = false := by simp [p1]
    have HE := HF (m.R = kv) (fun h => h.2.1) p1
    clear p1 HB HF
    refine wp_region_later (by kernel_rfl) (by kernel_rfl) ?_
    repeat (go_big_quiet_step (fail))
    go_big_quiet_step (exact later_of (shKeys _ _ _ _ _ _ _ _ kv _ hH hH4 hW hW2 hkv kv0 kv1))
    repeat (go_big_quiet_step (fail))
    refine wpQuiet_nil ?_
    rintro _ ⟨z, rfl⟩
    have hz := z.fresh
    go_wp2
    go_ret
    exact ⟨ret_bool HE.out.symm, fresh_trans hf0 hz⟩
set_option maxHeartbeats 4000000 in
theorem fitsGU {w : World} {m : MtD} (hm : MtR w m) (V W H K L D N M : Int) (b : Bool) (hb : b = true ↔ m.isa D W) :
    Calls Try.prog 85 #[.agg #[.func (.func 97) #[] #[], .func (.func 96) #[] #[]], .agg #[.int .i64 V, .int .i64 W, .int .i64 H, .int .i64 K, .int .i64 L, .int .i64 D, .int .i64 N, .int .i64 M], .agg #[.int .i64 m.R, .int .i64 m.C, .slice m.O m.n m.c]] w fun e w' => e = .returned (.bool b) ∧ Below w.heap.size w w' := by
  have HM := hidd hm
  have HB := hidd hb
  have HF : ∀ P : Prop, (m.isa D W → P) → ¬ P → Hid (b = false) := fun P h1 h2 => by
    show b = false
    cases hbb : b with
    | false => rfl
    | true => exact absurd (h1 (HB.out.1 hbb)) h2
  clear hm hb
  go_enter Try.func85, Try.ntmps85
  go_wp2
  have hf0 := fresh_trans (fresh_trans (fresh_alloc w (.cells #[.func (.func 97) #[] #[], .func (.func 96) #[] #[]] 117)) (fresh_alloc _ (.cells #[.int .i64 V, .int .i64 W, .int .i64 H, .int .i64 K, .int .i64 L, .int .i64 D, .int .i64 N, .int .i64 M] 23))) (fresh_alloc _ (.cells #[.int .i64 m.R, .int .i64 m.C, .slice m.O m.n m.c] 29))
  have d0 := fresh_cell (fresh_alloc ((w.alloc (.cells #[.func (.func 97) #[] #[], .func (.func 96) #[] #[]] 117)).alloc (.cells #[.int .i64 V, .int .i64 W, .int .i64 H, .int .i64 K, .int .i64 L, .int .i64 D, .int .i64 N, .int .i64 M] 23)) (.cells #[.int .i64 m.R, .int .i64 m.C, .slice m.O m.n m.c] 29)) (show ((w.alloc (.cells #[.func (.func 97) #[] #[], .func (.func 96) #[] #[]] 117)).alloc (.cells #[.int .i64 V, .int .i64 W, .int .i64 H, .int .i64 K, .int .i64 L, .int .i64 D, .int .i64 N, .int .i64 M] 23)).cell? ⟨w.heap.size, 0, none⟩ = some (.func (.func 97) #[] #[]) by simp)
  have d1 := fresh_cell (fresh_alloc ((w.alloc (.cells #[.func (.func 97) #[] #[], .func (.func 96) #[] #[]] 117)).alloc (.cells #[.int .i64 V, .int .i64 W, .int .i64 H, .int .i64 K, .int .i64 L, .int .i64 D, .int .i64 N, .int .i64 M] 23)) (.cells #[.int .i64 m.R, .int .i64 m.C, .slice m.O m.n m.c] 29)) (show ((w.alloc (.cells #[.func (.func 97) #[] #[], .func (.func 96) #[] #[]] 117)).alloc (.cells #[.int .i64 V, .int .i64 W, .int .i64 H, .int .i64 K, .int .i64 L, .int .i64 D, .int .i64 N, .int .i64 M] 23)).cell? ⟨w.heap.size, 1, none⟩ = some (.func (.func 96) #[] #[]) by simp)
  have d2 := fresh_cell (fresh_alloc ((w.alloc (.cells #[.func (.func 97) #[] #[], .func (.func 96) #[] #[]] 117)).alloc (.cells #[.int .i64 V, .int .i64 W, .int .i64 H, .int .i64 K, .int .i64 L, .int .i64 D, .int .i64 N, .int .i64 M] 23)) (.cells #[.int .i64 m.R, .int .i64 m.C, .slice m.O m.n m.c] 29)) (show ((w.alloc (.cells #[.func (.func 97) #[] #[], .func (.func 96) #[] #[]] 117)).alloc (.cells #[.int .i64 V, .int .i64 W, .int .i64 H, .int .i64 K, .int .i64 L, .int .i64 D, .int .i64 N, .int .i64 M] 23)).cell? ⟨w.heap.size + 1, 0, none⟩ = some (.int .i64 V) by simp)
  have d3 := fresh_cell (fresh_alloc ((w.alloc (.cells #[.func (.func 97) #[] #[], .func (.func 96) #[] #[]] 117)).alloc (.cells #[.int .i64 V, .int .i64 W, .int .i64 H, .int .i64 K, .int .i64 L, .int .i64 D, .int .i64 N, .int .i64 M] 23)) (.cells #[.int .i64 m.R, .int .i64 m.C, .slice m.O m.n m.c] 29)) (show ((w.alloc (.cells #[.func (.func 97) #[] #[], .func (.func 96) #[] #[]] 117)).alloc (.cells #[.int .i64 V, .int .i64 W, .int .i64 H, .int .i64 K, .int .i64 L, .int .i64 D, .int .i64 N, .int .i64 M] 23)).cell? ⟨w.heap.size + 1, 1, none⟩ = some (.int .i64 W) by simp)
  have d4 := fresh_cell (fresh_alloc ((w.alloc (.cells #[.func (.func 97) #[] #[], .func (.func 96) #[] #[]] 117)).alloc (.cells #[.int .i64 V, .int .i64 W, .int .i64 H, .int .i64 K, .int .i64 L, .int .i64 D, .int .i64 N, .int .i64 M] 23)) (.cells #[.int .i64 m.R, .int .i64 m.C, .slice m.O m.n m.c] 29)) (show ((w.alloc (.cells #[.func (.func 97) #[] #[], .func (.func 96) #[] #[]] 117)).alloc (.cells #[.int .i64 V, .int .i64 W, .int .i64 H, .int .i64 K, .int .i64 L, .int .i64 D, .int .i64 N, .int .i64 M] 23)).cell? ⟨w.heap.size + 1, 2, none⟩ = some (.int .i64 H) by simp)
  have d5 := fresh_cell (fresh_alloc ((w.alloc (.cells #[.func (.func 97) #[] #[], .func (.func 96) #[] #[]] 117)).alloc (.cells #[.int .i64 V, .int .i64 W, .int .i64 H, .int .i64 K, .int .i64 L, .int .i64 D, .int .i64 N, .int .i64 M] 23)) (.cells #[.int .i64 m.R, .int .i64 m.C, .slice m.O m.n m.c] 29)) (show ((w.alloc (.cells #[.func (.func 97) #[] #[], .func (.func 96) #[] #[]] 117)).alloc (.cells #[.int .i64 V, .int .i64 W, .int .i64 H, .int .i64 K, .int .i64 L, .int .i64 D, .int .i64 N, .int .i64 M] 23)).cell? ⟨w.heap.size + 1, 3, none⟩ = some (.int .i64 K) by simp)
  have d6 := fresh_cell (fresh_alloc ((w.alloc (.cells #[.func (.func 97) #[] #[], .func (.func 96) #[] #[]] 117)).alloc (.cells #[.int .i64 V, .int .i64 W, .int .i64 H, .int .i64 K, .int .i64 L, .int .i64 D, .int .i64 N, .int .i64 M] 23)) (.cells #[.int .i64 m.R, .int .i64 m.C, .slice m.O m.n m.c] 29)) (show ((w.alloc (.cells #[.func (.func 97) #[] #[], .func (.func 96) #[] #[]] 117)).alloc (.cells #[.int .i64 V, .int .i64 W, .int .i64 H, .int .i64 K, .int .i64 L, .int .i64 D, .int .i64 N, .int .i64 M] 23)).cell? ⟨w.heap.size + 1, 4, none⟩ = some (.int .i64 L) by simp)
  have d7 := fresh_cell (fresh_alloc ((w.alloc (.cells #[.func (.func 97) #[] #[], .func (.func 96) #[] #[]] 117)).alloc (.cells #[.int .i64 V, .int .i64 W, .int .i64 H, .int .i64 K, .int .i64 L, .int .i64 D, .int .i64 N, .int .i64 M] 23)) (.cells #[.int .i64 m.R, .int .i64 m.C, .slice m.O m.n m.c] 29)) (show ((w.alloc (.cells #[.func (.func 97) #[] #[], .func (.func 96) #[] #[]] 117)).alloc (.cells #[.int .i64 V, .int .i64 W, .int .i64 H, .int .i64 K, .int .i64 L, .int .i64 D, .int .i64 N, .int .i64 M] 23)).cell? ⟨w.heap.size + 1, 5, none⟩ = some (.int .i64 D) by simp)
  have d8 := fresh_cell (fresh_alloc ((w.alloc (.cells #[.func (.func 97) #[] #[], .func (.func 96) #[] #[]] 117)).alloc (.cells #[.int .i64 V, .int .i64 W, .int .i64 H, .int .i64 K, .int .i64 L, .int .i64 D, .int .i64 N, .int .i64 M] 23)) (.cells #[.int .i64 m.R, .int .i64 m.C, .slice m.O m.n m.c] 29)) (show ((w.alloc (.cells #[.func (.func 97) #[] #[], .func (.func 96) #[] #[]] 117)).alloc (.cells #[.int .i64 V, .int .i64 W, .int .i64 H, .int .i64 K, .int .i64 L, .int .i64 D, .int .i64 N, .int .i64 M] 23)).cell? ⟨w.heap.size + 1, 6, none⟩ = some (.int .i64 N) by simp)
  have d9 := fresh_cell (fresh_alloc ((w.alloc (.cells #[.func (.func 97) #[] #[], .func (.func 96) #[] #[]] 117)).alloc (.cells #[.int .i64 V, .int .i64 W, .int .i64 H, .int .i64 K, .int .i64 L, .int .i64 D, .int .i64 N, .int .i64 M] 23)) (.cells #[.int .i64 m.R, .int .i64 m.C, .slice m.O m.n m.c] 29)) (show ((w.alloc (.cells #[.func (.func 97) #[] #[], .func (.func 96) #[] #[]] 117)).alloc (.cells #[.int .i64 V, .int .i64 W, .int .i64 H, .int .i64 K, .int .i64 L, .int .i64 D, .int .i64 N, .int .i64 M] 23)).cell? ⟨w.heap.size + 1, 7, none⟩ = some (.int .i64 M) by simp)
  have d10 : (((w.alloc (.cells #[.func (.func 97) #[] #[], .func (.func 96) #[] #[]] 117)).alloc (.cells #[.int .i64 V, .int .i64 W, .int .i64 H, .int .i64 K, .int .i64 L, .int .i64 D, .int .i64 N, .int .i64 M] 23)).alloc (.cells #[.int .i64 m.R, .int .i64 m.C, .slice m.O m.n m.c] 29)).cell? ⟨w.heap.size + 1 + 1, 0, none⟩ = some (.int .i64 m.R) := third_cell w _ _ #[.int .i64 m.R, .int .i64 m.C, .slice m.O m.n m.c] 29 0
  have d11 : (((w.alloc (.cells #[.func (.func 97) #[] #[], .func (.func 96) #[] #[]] 117)).alloc (.cells #[.int .i64 V, .int .i64 W, .int .i64 H, .int .i64 K, .int .i64 L, .int .i64 D, .int .i64 N, .int .i64 M] 23)).alloc (.cells #[.int .i64 m.R, .int .i64 m.C, .slice m.O m.n m.c] 29)).cell? ⟨w.heap.size + 1 + 1, 1, none⟩ = some (.int .i64 m.C) := third_cell w _ _ #[.int .i64 m.R, .int .i64 m.C, .slice m.O m.n m.c] 29 1
  have d12 : (((w.alloc (.cells #[.func (.func 97) #[] #[], .func (.func 96) #[] #[]] 117)).alloc (.cells #[.int .i64 V, .int .i64 W, .int .i64 H, .int .i64 K, .int .i64 L, .int .i64 D, .int .i64 N, .int .i64 M] 23)).alloc (.cells #[.int .i64 m.R, .int .i64 m.C, .slice m.O m.n m.c] 29)).cell? ⟨w.heap.size + 1 + 1, 2, none⟩ = some (.slice m.O m.n m.c) := third_cell w _ _ #[.int .i64 m.R, .int .i64 m.C, .slice m.O m.n m.c] 29 2
  generalize (((w.alloc (.cells #[.func (.func 97) #[] #[], .func (.func 96) #[] #[]] 117)).alloc (.cells #[.int .i64 V, .int .i64 W, .int .i64 H, .int .i64 K, .int .i64 L, .int .i64 D, .int .i64 N, .int .i64 M] 23)).alloc (.cells #[.int .i64 m.R, .int .i64 m.C, .slice m.O m.n m.c] 29)) = w1 at *
  have HM1 := hidd (HM.out.fresh hf0)
  replace d0 := later_cell d0
  replace d1 := later_cell d1
  replace d2 := later_cell d2
  replace d3 := later_cell d3
  replace d4 := later_cell d4
  replace d5 := later_cell d5
  replace d6 := later_cell d6
  replace d7 := later_cell d7
  replace d8 := later_cell d8
  replace d9 := later_cell d9
  replace d10 := later_cell d10
  replace d11 := later_cell d11
  replace d12 := later_cell d12
  have ne := later_some w1
  by_cases p1 : m.R = D
  · have e1 : (m.R == D) = true := by simp [p1]
    by_cases p2 : m.C = W
    · have e2 : (m.C == W) = true := by simp [p2]
      have qc : ∃ er : Int, (er = 0 ↔ (shp m.R m.C m.n = true ∧ ∀ i, i < m.n → -127 ≤ m.f i)) ∧ ∀ w', RdA w' m.O 1 m.n m.c (fun i => .int .i8 (m.f i)) → Calls Try.prog 99 #[.agg #[.int .i64 m.R, .int .i64 m.C, .slice m.O m.n m.c]] w' fun e w'' => e = .returned (.int .i64 er) ∧ Below w'.heap.size w' w'' := by
        by_cases h : shp m.R m.C m.n = true ∧ ∀ i, i < m.n → -127 ≤ m.f i
        · exact ⟨0, ⟨fun _ => h, fun _ => rfl⟩, fun w' hr => check_ok hr h.1 h.2⟩
        · refine ⟨30, ⟨fun e => by omega, fun e => absurd e h⟩, fun w' hr => check_bad hr ?_⟩
          cases hs : shp m.R m.C m.n with
          | false => exact .inl rfl
          | true => exact .inr (some_low (fun h2 => h ⟨hs, h2⟩))
      obtain ⟨er, her, hck⟩ := qc
      have HE : Hid ((er == 0) = b) := by
        show (er == 0) = b
        cases hbb : b with
        | true => simp only [beq_iff_eq]; exact her.2 (HB.out.1 hbb).1
        | false =>
          simp only [beq_eq_false_iff_ne]
          intro e
          have := HB.out.2 ⟨her.1 e, p1, p2⟩
          rw [hbb] at this
          cases this
      clear her p1 p2 HB HF
      refine wp_region_later (by kernel_rfl) (by kernel_rfl) ?_
      repeat (go_big_quiet_step (fail))
      go_big_quiet_step (exact later_of (shHidden _ _ _ _ _ _ _ _ _))
      repeat (go_big_quiet_step (fail))
      go_big_quiet_step (exact later_of (shWidth _ _ _ _ _ _ _ _ _))
      repeat (go_big_quiet_step (fail))
      go_big_quiet_step (exact later_of (hck _ (HM1.out.rd.fresh (Later.fresh _))))
      repeat (go_big_quiet_step (fail))
      refine wpQuiet_nil ?_
      rintro _ ⟨z, rfl⟩
      have hz := z.fresh
      go_wp2
      go_ret
      exact ⟨ret_bool HE.out, fresh_trans hf0 hz⟩
    · have e2 : (m.C == W) = false := by simp [p2]
      have HE := HF (m.C = W) (fun h => h.2.2) p2
      clear p1 p2 HB HF
      refine wp_region_later (by kernel_rfl) (by kernel_rfl) ?_
      repeat (go_big_quiet_step (fail))
      go_big_quiet_step (exact later_of (shHidden _ _ _ _ _ _ _ _ _))
      repeat (go_big_quiet_step (fail))
      go_big_quiet_step (exact later_of (shWidth _ _ _ _ _ _ _ _ _))
      repeat (go_big_quiet_step (fail))
      refine wpQuiet_nil ?_
      rintro _ ⟨z, rfl⟩
      have hz := z.fresh
      go_wp2
      go_ret
      exact ⟨ret_bool HE.out.symm, fresh_trans hf0 hz⟩
  · have e1 : (m.R == D) = false := by simp [p1]
    have HE := HF (m.R = D) (fun h => h.2.1) p1
    clear p1 HB HF
    refine wp_region_later (by kernel_rfl) (by kernel_rfl) ?_
    repeat (go_big_quiet_step (fail))
    go_big_quiet_step (exact later_of (shHidden _ _ _ _ _ _ _ _ _))
    repeat (go_big_quiet_step (fail))
    refine wpQuiet_nil ?_
    rintro _ ⟨z, rfl⟩
    have hz := z.fresh
    go_wp2
    go_ret
    exact ⟨ret_bool HE.out.symm, fresh_trans hf0 hz⟩
set_option maxHeartbeats 4000000 in
theorem fitsD {w : World} {m : MtD} (hm : MtR w m) (V W H K L D N M : Int) (b : Bool) (hb : b = true ↔ m.isa W D) :
    Calls Try.prog 85 #[.agg #[.func (.func 96) #[] #[], .func (.func 97) #[] #[]], .agg #[.int .i64 V, .int .i64 W, .int .i64 H, .int .i64 K, .int .i64 L, .int .i64 D, .int .i64 N, .int .i64 M], .agg #[.int .i64 m.R, .int .i64 m.C, .slice m.O m.n m.c]] w fun e w' => e = .returned (.bool b) ∧ Below w.heap.size w w' := by
  have HM := hidd hm
  have HB := hidd hb
  have HF : ∀ P : Prop, (m.isa W D → P) → ¬ P → Hid (b = false) := fun P h1 h2 => by
    show b = false
    cases hbb : b with
    | false => rfl
    | true => exact absurd (h1 (HB.out.1 hbb)) h2
  clear hm hb
  go_enter Try.func85, Try.ntmps85
  go_wp2
  have hf0 := fresh_trans (fresh_trans (fresh_alloc w (.cells #[.func (.func 96) #[] #[], .func (.func 97) #[] #[]] 117)) (fresh_alloc _ (.cells #[.int .i64 V, .int .i64 W, .int .i64 H, .int .i64 K, .int .i64 L, .int .i64 D, .int .i64 N, .int .i64 M] 23))) (fresh_alloc _ (.cells #[.int .i64 m.R, .int .i64 m.C, .slice m.O m.n m.c] 29))
  have d0 := fresh_cell (fresh_alloc ((w.alloc (.cells #[.func (.func 96) #[] #[], .func (.func 97) #[] #[]] 117)).alloc (.cells #[.int .i64 V, .int .i64 W, .int .i64 H, .int .i64 K, .int .i64 L, .int .i64 D, .int .i64 N, .int .i64 M] 23)) (.cells #[.int .i64 m.R, .int .i64 m.C, .slice m.O m.n m.c] 29)) (show ((w.alloc (.cells #[.func (.func 96) #[] #[], .func (.func 97) #[] #[]] 117)).alloc (.cells #[.int .i64 V, .int .i64 W, .int .i64 H, .int .i64 K, .int .i64 L, .int .i64 D, .int .i64 N, .int .i64 M] 23)).cell? ⟨w.heap.size, 0, none⟩ = some (.func (.func 96) #[] #[]) by simp)
  have d1 := fresh_cell (fresh_alloc ((w.alloc (.cells #[.func (.func 96) #[] #[], .func (.func 97) #[] #[]] 117)).alloc (.cells #[.int .i64 V, .int .i64 W, .int .i64 H, .int .i64 K, .int .i64 L, .int .i64 D, .int .i64 N, .int .i64 M] 23)) (.cells #[.int .i64 m.R, .int .i64 m.C, .slice m.O m.n m.c] 29)) (show ((w.alloc (.cells #[.func (.func 96) #[] #[], .func (.func 97) #[] #[]] 117)).alloc (.cells #[.int .i64 V, .int .i64 W, .int .i64 H, .int .i64 K, .int .i64 L, .int .i64 D, .int .i64 N, .int .i64 M] 23)).cell? ⟨w.heap.size, 1, none⟩ = some (.func (.func 97) #[] #[]) by simp)
  have d2 := fresh_cell (fresh_alloc ((w.alloc (.cells #[.func (.func 96) #[] #[], .func (.func 97) #[] #[]] 117)).alloc (.cells #[.int .i64 V, .int .i64 W, .int .i64 H, .int .i64 K, .int .i64 L, .int .i64 D, .int .i64 N, .int .i64 M] 23)) (.cells #[.int .i64 m.R, .int .i64 m.C, .slice m.O m.n m.c] 29)) (show ((w.alloc (.cells #[.func (.func 96) #[] #[], .func (.func 97) #[] #[]] 117)).alloc (.cells #[.int .i64 V, .int .i64 W, .int .i64 H, .int .i64 K, .int .i64 L, .int .i64 D, .int .i64 N, .int .i64 M] 23)).cell? ⟨w.heap.size + 1, 0, none⟩ = some (.int .i64 V) by simp)
  have d3 := fresh_cell (fresh_alloc ((w.alloc (.cells #[.func (.func 96) #[] #[], .func (.func 97) #[] #[]] 117)).alloc (.cells #[.int .i64 V, .int .i64 W, .int .i64 H, .int .i64 K, .int .i64 L, .int .i64 D, .int .i64 N, .int .i64 M] 23)) (.cells #[.int .i64 m.R, .int .i64 m.C, .slice m.O m.n m.c] 29)) (show ((w.alloc (.cells #[.func (.func 96) #[] #[], .func (.func 97) #[] #[]] 117)).alloc (.cells #[.int .i64 V, .int .i64 W, .int .i64 H, .int .i64 K, .int .i64 L, .int .i64 D, .int .i64 N, .int .i64 M] 23)).cell? ⟨w.heap.size + 1, 1, none⟩ = some (.int .i64 W) by simp)
  have d4 := fresh_cell (fresh_alloc ((w.alloc (.cells #[.func (.func 96) #[] #[], .func (.func 97) #[] #[]] 117)).alloc (.cells #[.int .i64 V, .int .i64 W, .int .i64 H, .int .i64 K, .int .i64 L, .int .i64 D, .int .i64 N, .int .i64 M] 23)) (.cells #[.int .i64 m.R, .int .i64 m.C, .slice m.O m.n m.c] 29)) (show ((w.alloc (.cells #[.func (.func 96) #[] #[], .func (.func 97) #[] #[]] 117)).alloc (.cells #[.int .i64 V, .int .i64 W, .int .i64 H, .int .i64 K, .int .i64 L, .int .i64 D, .int .i64 N, .int .i64 M] 23)).cell? ⟨w.heap.size + 1, 2, none⟩ = some (.int .i64 H) by simp)
  have d5 := fresh_cell (fresh_alloc ((w.alloc (.cells #[.func (.func 96) #[] #[], .func (.func 97) #[] #[]] 117)).alloc (.cells #[.int .i64 V, .int .i64 W, .int .i64 H, .int .i64 K, .int .i64 L, .int .i64 D, .int .i64 N, .int .i64 M] 23)) (.cells #[.int .i64 m.R, .int .i64 m.C, .slice m.O m.n m.c] 29)) (show ((w.alloc (.cells #[.func (.func 96) #[] #[], .func (.func 97) #[] #[]] 117)).alloc (.cells #[.int .i64 V, .int .i64 W, .int .i64 H, .int .i64 K, .int .i64 L, .int .i64 D, .int .i64 N, .int .i64 M] 23)).cell? ⟨w.heap.size + 1, 3, none⟩ = some (.int .i64 K) by simp)
  have d6 := fresh_cell (fresh_alloc ((w.alloc (.cells #[.func (.func 96) #[] #[], .func (.func 97) #[] #[]] 117)).alloc (.cells #[.int .i64 V, .int .i64 W, .int .i64 H, .int .i64 K, .int .i64 L, .int .i64 D, .int .i64 N, .int .i64 M] 23)) (.cells #[.int .i64 m.R, .int .i64 m.C, .slice m.O m.n m.c] 29)) (show ((w.alloc (.cells #[.func (.func 96) #[] #[], .func (.func 97) #[] #[]] 117)).alloc (.cells #[.int .i64 V, .int .i64 W, .int .i64 H, .int .i64 K, .int .i64 L, .int .i64 D, .int .i64 N, .int .i64 M] 23)).cell? ⟨w.heap.size + 1, 4, none⟩ = some (.int .i64 L) by simp)
  have d7 := fresh_cell (fresh_alloc ((w.alloc (.cells #[.func (.func 96) #[] #[], .func (.func 97) #[] #[]] 117)).alloc (.cells #[.int .i64 V, .int .i64 W, .int .i64 H, .int .i64 K, .int .i64 L, .int .i64 D, .int .i64 N, .int .i64 M] 23)) (.cells #[.int .i64 m.R, .int .i64 m.C, .slice m.O m.n m.c] 29)) (show ((w.alloc (.cells #[.func (.func 96) #[] #[], .func (.func 97) #[] #[]] 117)).alloc (.cells #[.int .i64 V, .int .i64 W, .int .i64 H, .int .i64 K, .int .i64 L, .int .i64 D, .int .i64 N, .int .i64 M] 23)).cell? ⟨w.heap.size + 1, 5, none⟩ = some (.int .i64 D) by simp)
  have d8 := fresh_cell (fresh_alloc ((w.alloc (.cells #[.func (.func 96) #[] #[], .func (.func 97) #[] #[]] 117)).alloc (.cells #[.int .i64 V, .int .i64 W, .int .i64 H, .int .i64 K, .int .i64 L, .int .i64 D, .int .i64 N, .int .i64 M] 23)) (.cells #[.int .i64 m.R, .int .i64 m.C, .slice m.O m.n m.c] 29)) (show ((w.alloc (.cells #[.func (.func 96) #[] #[], .func (.func 97) #[] #[]] 117)).alloc (.cells #[.int .i64 V, .int .i64 W, .int .i64 H, .int .i64 K, .int .i64 L, .int .i64 D, .int .i64 N, .int .i64 M] 23)).cell? ⟨w.heap.size + 1, 6, none⟩ = some (.int .i64 N) by simp)
  have d9 := fresh_cell (fresh_alloc ((w.alloc (.cells #[.func (.func 96) #[] #[], .func (.func 97) #[] #[]] 117)).alloc (.cells #[.int .i64 V, .int .i64 W, .int .i64 H, .int .i64 K, .int .i64 L, .int .i64 D, .int .i64 N, .int .i64 M] 23)) (.cells #[.int .i64 m.R, .int .i64 m.C, .slice m.O m.n m.c] 29)) (show ((w.alloc (.cells #[.func (.func 96) #[] #[], .func (.func 97) #[] #[]] 117)).alloc (.cells #[.int .i64 V, .int .i64 W, .int .i64 H, .int .i64 K, .int .i64 L, .int .i64 D, .int .i64 N, .int .i64 M] 23)).cell? ⟨w.heap.size + 1, 7, none⟩ = some (.int .i64 M) by simp)
  have d10 : (((w.alloc (.cells #[.func (.func 96) #[] #[], .func (.func 97) #[] #[]] 117)).alloc (.cells #[.int .i64 V, .int .i64 W, .int .i64 H, .int .i64 K, .int .i64 L, .int .i64 D, .int .i64 N, .int .i64 M] 23)).alloc (.cells #[.int .i64 m.R, .int .i64 m.C, .slice m.O m.n m.c] 29)).cell? ⟨w.heap.size + 1 + 1, 0, none⟩ = some (.int .i64 m.R) := third_cell w _ _ #[.int .i64 m.R, .int .i64 m.C, .slice m.O m.n m.c] 29 0
  have d11 : (((w.alloc (.cells #[.func (.func 96) #[] #[], .func (.func 97) #[] #[]] 117)).alloc (.cells #[.int .i64 V, .int .i64 W, .int .i64 H, .int .i64 K, .int .i64 L, .int .i64 D, .int .i64 N, .int .i64 M] 23)).alloc (.cells #[.int .i64 m.R, .int .i64 m.C, .slice m.O m.n m.c] 29)).cell? ⟨w.heap.size + 1 + 1, 1, none⟩ = some (.int .i64 m.C) := third_cell w _ _ #[.int .i64 m.R, .int .i64 m.C, .slice m.O m.n m.c] 29 1
  have d12 : (((w.alloc (.cells #[.func (.func 96) #[] #[], .func (.func 97) #[] #[]] 117)).alloc (.cells #[.int .i64 V, .int .i64 W, .int .i64 H, .int .i64 K, .int .i64 L, .int .i64 D, .int .i64 N, .int .i64 M] 23)).alloc (.cells #[.int .i64 m.R, .int .i64 m.C, .slice m.O m.n m.c] 29)).cell? ⟨w.heap.size + 1 + 1, 2, none⟩ = some (.slice m.O m.n m.c) := third_cell w _ _ #[.int .i64 m.R, .int .i64 m.C, .slice m.O m.n m.c] 29 2
  generalize (((w.alloc (.cells #[.func (.func 96) #[] #[], .func (.func 97) #[] #[]] 117)).alloc (.cells #[.int .i64 V, .int .i64 W, .int .i64 H, .int .i64 K, .int .i64 L, .int .i64 D, .int .i64 N, .int .i64 M] 23)).alloc (.cells #[.int .i64 m.R, .int .i64 m.C, .slice m.O m.n m.c] 29)) = w1 at *
  have HM1 := hidd (HM.out.fresh hf0)
  replace d0 := later_cell d0
  replace d1 := later_cell d1
  replace d2 := later_cell d2
  replace d3 := later_cell d3
  replace d4 := later_cell d4
  replace d5 := later_cell d5
  replace d6 := later_cell d6
  replace d7 := later_cell d7
  replace d8 := later_cell d8
  replace d9 := later_cell d9
  replace d10 := later_cell d10
  replace d11 := later_cell d11
  replace d12 := later_cell d12
  have ne := later_some w1
  by_cases p1 : m.R = W
  · have e1 : (m.R == W) = true := by simp [p1]
    by_cases p2 : m.C = D
    · have e2 : (m.C == D) = true := by simp [p2]
      have qc : ∃ er : Int, (er = 0 ↔ (shp m.R m.C m.n = true ∧ ∀ i, i < m.n → -127 ≤ m.f i)) ∧ ∀ w', RdA w' m.O 1 m.n m.c (fun i => .int .i8 (m.f i)) → Calls Try.prog 99 #[.agg #[.int .i64 m.R, .int .i64 m.C, .slice m.O m.n m.c]] w' fun e w'' => e = .returned (.int .i64 er) ∧ Below w'.heap.size w' w'' := by
        by_cases h : shp m.R m.C m.n = true ∧ ∀ i, i < m.n → -127 ≤ m.f i
        · exact ⟨0, ⟨fun _ => h, fun _ => rfl⟩, fun w' hr => check_ok hr h.1 h.2⟩
        · refine ⟨30, ⟨fun e => by omega, fun e => absurd e h⟩, fun w' hr => check_bad hr ?_⟩
          cases hs : shp m.R m.C m.n with
          | false => exact .inl rfl
          | true => exact .inr (some_low (fun h2 => h ⟨hs, h2⟩))
      obtain ⟨er, her, hck⟩ := qc
      have HE : Hid ((er == 0) = b) := by
        show (er == 0) = b
        cases hbb : b with
        | true => simp only [beq_iff_eq]; exact her.2 (HB.out.1 hbb).1
        | false =>
          simp only [beq_eq_false_iff_ne]
          intro e
          have := HB.out.2 ⟨her.1 e, p1, p2⟩
          rw [hbb] at this
          cases this
      clear her p1 p2 HB HF
      refine wp_region_later (by kernel_rfl) (by kernel_rfl) ?_
      repeat (go_big_quiet_step (fail))
      go_big_quiet_step (exact later_of (shWidth _ _ _ _ _ _ _ _ _))
      repeat (go_big_quiet_step (fail))
      go_big_quiet_step (exact later_of (shHidden _ _ _ _ _ _ _ _ _))
      repeat (go_big_quiet_step (fail))
      go_big_quiet_step (exact later_of (hck _ (HM1.out.rd.fresh (Later.fresh _))))
      repeat (go_big_quiet_step (fail))
      refine wpQuiet_nil ?_
      rintro _ ⟨z, rfl⟩
      have hz := z.fresh
      go_wp2
      go_ret
      exact ⟨ret_bool HE.out, fresh_trans hf0 hz⟩
    · have e2 : (m.C == D) = false := by simp [p2]
      have HE := HF (m.C = D) (fun h => h.2.2) p2
      clear p1 p2 HB HF
      refine wp_region_later (by kernel_rfl) (by kernel_rfl) ?_
      repeat (go_big_quiet_step (fail))
      go_big_quiet_step (exact later_of (shWidth _ _ _ _ _ _ _ _ _))
      repeat (go_big_quiet_step (fail))
      go_big_quiet_step (exact later_of (shHidden _ _ _ _ _ _ _ _ _))
      repeat (go_big_quiet_step (fail))
      refine wpQuiet_nil ?_
      rintro _ ⟨z, rfl⟩
      have hz := z.fresh
      go_wp2
      go_ret
      exact ⟨ret_bool HE.out.symm, fresh_trans hf0 hz⟩
  · have e1 : (m.R == W) = false := by simp [p1]
    have HE := HF (m.R = W) (fun h => h.2.1) p1
    clear p1 HB HF
    refine wp_region_later (by kernel_rfl) (by kernel_rfl) ?_
    repeat (go_big_quiet_step (fail))
    go_big_quiet_step (exact later_of (shWidth _ _ _ _ _ _ _ _ _))
    repeat (go_big_quiet_step (fail))
    refine wpQuiet_nil ?_
    rintro _ ⟨z, rfl⟩
    have hz := z.fresh
    go_wp2
    go_ret
    exact ⟨ret_bool HE.out.symm, fresh_trans hf0 hz⟩
set_option maxHeartbeats 4000000 in
theorem fitsT {w : World} {m : MtD} (hm : MtR w m) (V W H K L D N M : Int) (b : Bool) (hb : b = true ↔ m.isa V W) :
    Calls Try.prog 85 #[.agg #[.func (.func 95) #[] #[], .func (.func 96) #[] #[]], .agg #[.int .i64 V, .int .i64 W, .int .i64 H, .int .i64 K, .int .i64 L, .int .i64 D, .int .i64 N, .int .i64 M], .agg #[.int .i64 m.R, .int .i64 m.C, .slice m.O m.n m.c]] w fun e w' => e = .returned (.bool b) ∧ Below w.heap.size w w' := by
  have HM := hidd hm
  have HB := hidd hb
  have HF : ∀ P : Prop, (m.isa V W → P) → ¬ P → Hid (b = false) := fun P h1 h2 => by
    show b = false
    cases hbb : b with
    | false => rfl
    | true => exact absurd (h1 (HB.out.1 hbb)) h2
  clear hm hb
  go_enter Try.func85, Try.ntmps85
  go_wp2
  have hf0 := fresh_trans (fresh_trans (fresh_alloc w (.cells #[.func (.func 95) #[] #[], .func (.func 96) #[] #[]] 117)) (fresh_alloc _ (.cells #[.int .i64 V, .int .i64 W, .int .i64 H, .int .i64 K, .int .i64 L, .int .i64 D, .int .i64 N, .int .i64 M] 23))) (fresh_alloc _ (.cells #[.int .i64 m.R, .int .i64 m.C, .slice m.O m.n m.c] 29))
  have d0 := fresh_cell (fresh_alloc ((w.alloc (.cells #[.func (.func 95) #[] #[], .func (.func 96) #[] #[]] 117)).alloc (.cells #[.int .i64 V, .int .i64 W, .int .i64 H, .int .i64 K, .int .i64 L, .int .i64 D, .int .i64 N, .int .i64 M] 23)) (.cells #[.int .i64 m.R, .int .i64 m.C, .slice m.O m.n m.c] 29)) (show ((w.alloc (.cells #[.func (.func 95) #[] #[], .func (.func 96) #[] #[]] 117)).alloc (.cells #[.int .i64 V, .int .i64 W, .int .i64 H, .int .i64 K, .int .i64 L, .int .i64 D, .int .i64 N, .int .i64 M] 23)).cell? ⟨w.heap.size, 0, none⟩ = some (.func (.func 95) #[] #[]) by simp)
  have d1 := fresh_cell (fresh_alloc ((w.alloc (.cells #[.func (.func 95) #[] #[], .func (.func 96) #[] #[]] 117)).alloc (.cells #[.int .i64 V, .int .i64 W, .int .i64 H, .int .i64 K, .int .i64 L, .int .i64 D, .int .i64 N, .int .i64 M] 23)) (.cells #[.int .i64 m.R, .int .i64 m.C, .slice m.O m.n m.c] 29)) (show ((w.alloc (.cells #[.func (.func 95) #[] #[], .func (.func 96) #[] #[]] 117)).alloc (.cells #[.int .i64 V, .int .i64 W, .int .i64 H, .int .i64 K, .int .i64 L, .int .i64 D, .int .i64 N, .int .i64 M] 23)).cell? ⟨w.heap.size, 1, none⟩ = some (.func (.func 96) #[] #[]) by simp)
  have d2 := fresh_cell (fresh_alloc ((w.alloc (.cells #[.func (.func 95) #[] #[], .func (.func 96) #[] #[]] 117)).alloc (.cells #[.int .i64 V, .int .i64 W, .int .i64 H, .int .i64 K, .int .i64 L, .int .i64 D, .int .i64 N, .int .i64 M] 23)) (.cells #[.int .i64 m.R, .int .i64 m.C, .slice m.O m.n m.c] 29)) (show ((w.alloc (.cells #[.func (.func 95) #[] #[], .func (.func 96) #[] #[]] 117)).alloc (.cells #[.int .i64 V, .int .i64 W, .int .i64 H, .int .i64 K, .int .i64 L, .int .i64 D, .int .i64 N, .int .i64 M] 23)).cell? ⟨w.heap.size + 1, 0, none⟩ = some (.int .i64 V) by simp)
  have d3 := fresh_cell (fresh_alloc ((w.alloc (.cells #[.func (.func 95) #[] #[], .func (.func 96) #[] #[]] 117)).alloc (.cells #[.int .i64 V, .int .i64 W, .int .i64 H, .int .i64 K, .int .i64 L, .int .i64 D, .int .i64 N, .int .i64 M] 23)) (.cells #[.int .i64 m.R, .int .i64 m.C, .slice m.O m.n m.c] 29)) (show ((w.alloc (.cells #[.func (.func 95) #[] #[], .func (.func 96) #[] #[]] 117)).alloc (.cells #[.int .i64 V, .int .i64 W, .int .i64 H, .int .i64 K, .int .i64 L, .int .i64 D, .int .i64 N, .int .i64 M] 23)).cell? ⟨w.heap.size + 1, 1, none⟩ = some (.int .i64 W) by simp)
  have d4 := fresh_cell (fresh_alloc ((w.alloc (.cells #[.func (.func 95) #[] #[], .func (.func 96) #[] #[]] 117)).alloc (.cells #[.int .i64 V, .int .i64 W, .int .i64 H, .int .i64 K, .int .i64 L, .int .i64 D, .int .i64 N, .int .i64 M] 23)) (.cells #[.int .i64 m.R, .int .i64 m.C, .slice m.O m.n m.c] 29)) (show ((w.alloc (.cells #[.func (.func 95) #[] #[], .func (.func 96) #[] #[]] 117)).alloc (.cells #[.int .i64 V, .int .i64 W, .int .i64 H, .int .i64 K, .int .i64 L, .int .i64 D, .int .i64 N, .int .i64 M] 23)).cell? ⟨w.heap.size + 1, 2, none⟩ = some (.int .i64 H) by simp)
  have d5 := fresh_cell (fresh_alloc ((w.alloc (.cells #[.func (.func 95) #[] #[], .func (.func 96) #[] #[]] 117)).alloc (.cells #[.int .i64 V, .int .i64 W, .int .i64 H, .int .i64 K, .int .i64 L, .int .i64 D, .int .i64 N, .int .i64 M] 23)) (.cells #[.int .i64 m.R, .int .i64 m.C, .slice m.O m.n m.c] 29)) (show ((w.alloc (.cells #[.func (.func 95) #[] #[], .func (.func 96) #[] #[]] 117)).alloc (.cells #[.int .i64 V, .int .i64 W, .int .i64 H, .int .i64 K, .int .i64 L, .int .i64 D, .int .i64 N, .int .i64 M] 23)).cell? ⟨w.heap.size + 1, 3, none⟩ = some (.int .i64 K) by simp)
  have d6 := fresh_cell (fresh_alloc ((w.alloc (.cells #[.func (.func 95) #[] #[], .func (.func 96) #[] #[]] 117)).alloc (.cells #[.int .i64 V, .int .i64 W, .int .i64 H, .int .i64 K, .int .i64 L, .int .i64 D, .int .i64 N, .int .i64 M] 23)) (.cells #[.int .i64 m.R, .int .i64 m.C, .slice m.O m.n m.c] 29)) (show ((w.alloc (.cells #[.func (.func 95) #[] #[], .func (.func 96) #[] #[]] 117)).alloc (.cells #[.int .i64 V, .int .i64 W, .int .i64 H, .int .i64 K, .int .i64 L, .int .i64 D, .int .i64 N, .int .i64 M] 23)).cell? ⟨w.heap.size + 1, 4, none⟩ = some (.int .i64 L) by simp)
  have d7 := fresh_cell (fresh_alloc ((w.alloc (.cells #[.func (.func 95) #[] #[], .func (.func 96) #[] #[]] 117)).alloc (.cells #[.int .i64 V, .int .i64 W, .int .i64 H, .int .i64 K, .int .i64 L, .int .i64 D, .int .i64 N, .int .i64 M] 23)) (.cells #[.int .i64 m.R, .int .i64 m.C, .slice m.O m.n m.c] 29)) (show ((w.alloc (.cells #[.func (.func 95) #[] #[], .func (.func 96) #[] #[]] 117)).alloc (.cells #[.int .i64 V, .int .i64 W, .int .i64 H, .int .i64 K, .int .i64 L, .int .i64 D, .int .i64 N, .int .i64 M] 23)).cell? ⟨w.heap.size + 1, 5, none⟩ = some (.int .i64 D) by simp)
  have d8 := fresh_cell (fresh_alloc ((w.alloc (.cells #[.func (.func 95) #[] #[], .func (.func 96) #[] #[]] 117)).alloc (.cells #[.int .i64 V, .int .i64 W, .int .i64 H, .int .i64 K, .int .i64 L, .int .i64 D, .int .i64 N, .int .i64 M] 23)) (.cells #[.int .i64 m.R, .int .i64 m.C, .slice m.O m.n m.c] 29)) (show ((w.alloc (.cells #[.func (.func 95) #[] #[], .func (.func 96) #[] #[]] 117)).alloc (.cells #[.int .i64 V, .int .i64 W, .int .i64 H, .int .i64 K, .int .i64 L, .int .i64 D, .int .i64 N, .int .i64 M] 23)).cell? ⟨w.heap.size + 1, 6, none⟩ = some (.int .i64 N) by simp)
  have d9 := fresh_cell (fresh_alloc ((w.alloc (.cells #[.func (.func 95) #[] #[], .func (.func 96) #[] #[]] 117)).alloc (.cells #[.int .i64 V, .int .i64 W, .int .i64 H, .int .i64 K, .int .i64 L, .int .i64 D, .int .i64 N, .int .i64 M] 23)) (.cells #[.int .i64 m.R, .int .i64 m.C, .slice m.O m.n m.c] 29)) (show ((w.alloc (.cells #[.func (.func 95) #[] #[], .func (.func 96) #[] #[]] 117)).alloc (.cells #[.int .i64 V, .int .i64 W, .int .i64 H, .int .i64 K, .int .i64 L, .int .i64 D, .int .i64 N, .int .i64 M] 23)).cell? ⟨w.heap.size + 1, 7, none⟩ = some (.int .i64 M) by simp)
  have d10 : (((w.alloc (.cells #[.func (.func 95) #[] #[], .func (.func 96) #[] #[]] 117)).alloc (.cells #[.int .i64 V, .int .i64 W, .int .i64 H, .int .i64 K, .int .i64 L, .int .i64 D, .int .i64 N, .int .i64 M] 23)).alloc (.cells #[.int .i64 m.R, .int .i64 m.C, .slice m.O m.n m.c] 29)).cell? ⟨w.heap.size + 1 + 1, 0, none⟩ = some (.int .i64 m.R) := third_cell w _ _ #[.int .i64 m.R, .int .i64 m.C, .slice m.O m.n m.c] 29 0
  have d11 : (((w.alloc (.cells #[.func (.func 95) #[] #[], .func (.func 96) #[] #[]] 117)).alloc (.cells #[.int .i64 V, .int .i64 W, .int .i64 H, .int .i64 K, .int .i64 L, .int .i64 D, .int .i64 N, .int .i64 M] 23)).alloc (.cells #[.int .i64 m.R, .int .i64 m.C, .slice m.O m.n m.c] 29)).cell? ⟨w.heap.size + 1 + 1, 1, none⟩ = some (.int .i64 m.C) := third_cell w _ _ #[.int .i64 m.R, .int .i64 m.C, .slice m.O m.n m.c] 29 1
  have d12 : (((w.alloc (.cells #[.func (.func 95) #[] #[], .func (.func 96) #[] #[]] 117)).alloc (.cells #[.int .i64 V, .int .i64 W, .int .i64 H, .int .i64 K, .int .i64 L, .int .i64 D, .int .i64 N, .int .i64 M] 23)).alloc (.cells #[.int .i64 m.R, .int .i64 m.C, .slice m.O m.n m.c] 29)).cell? ⟨w.heap.size + 1 + 1, 2, none⟩ = some (.slice m.O m.n m.c) := third_cell w _ _ #[.int .i64 m.R, .int .i64 m.C, .slice m.O m.n m.c] 29 2
  generalize (((w.alloc (.cells #[.func (.func 95) #[] #[], .func (.func 96) #[] #[]] 117)).alloc (.cells #[.int .i64 V, .int .i64 W, .int .i64 H, .int .i64 K, .int .i64 L, .int .i64 D, .int .i64 N, .int .i64 M] 23)).alloc (.cells #[.int .i64 m.R, .int .i64 m.C, .slice m.O m.n m.c] 29)) = w1 at *
  have HM1 := hidd (HM.out.fresh hf0)
  replace d0 := later_cell d0
  replace d1 := later_cell d1
  replace d2 := later_cell d2
  replace d3 := later_cell d3
  replace d4 := later_cell d4
  replace d5 := later_cell d5
  replace d6 := later_cell d6
  replace d7 := later_cell d7
  replace d8 := later_cell d8
  replace d9 := later_cell d9
  replace d10 := later_cell d10
  replace d11 := later_cell d11
  replace d12 := later_cell d12
  have ne := later_some w1
  by_cases p1 : m.R = V
  · have e1 : (m.R == V) = true := by simp [p1]
    by_cases p2 : m.C = W
    · have e2 : (m.C == W) = true := by simp [p2]
      have qc : ∃ er : Int, (er = 0 ↔ (shp m.R m.C m.n = true ∧ ∀ i, i < m.n → -127 ≤ m.f i)) ∧ ∀ w', RdA w' m.O 1 m.n m.c (fun i => .int .i8 (m.f i)) → Calls Try.prog 99 #[.agg #[.int .i64 m.R, .int .i64 m.C, .slice m.O m.n m.c]] w' fun e w'' => e = .returned (.int .i64 er) ∧ Below w'.heap.size w' w'' := by
        by_cases h : shp m.R m.C m.n = true ∧ ∀ i, i < m.n → -127 ≤ m.f i
        · exact ⟨0, ⟨fun _ => h, fun _ => rfl⟩, fun w' hr => check_ok hr h.1 h.2⟩
        · refine ⟨30, ⟨fun e => by omega, fun e => absurd e h⟩, fun w' hr => check_bad hr ?_⟩
          cases hs : shp m.R m.C m.n with
          | false => exact .inl rfl
          | true => exact .inr (some_low (fun h2 => h ⟨hs, h2⟩))
      obtain ⟨er, her, hck⟩ := qc
      have HE : Hid ((er == 0) = b) := by
        show (er == 0) = b
        cases hbb : b with
        | true => simp only [beq_iff_eq]; exact her.2 (HB.out.1 hbb).1
        | false =>
          simp only [beq_eq_false_iff_ne]
          intro e
          have := HB.out.2 ⟨her.1 e, p1, p2⟩
          rw [hbb] at this
          cases this
      clear her p1 p2 HB HF
      refine wp_region_later (by kernel_rfl) (by kernel_rfl) ?_
      repeat (go_big_quiet_step (fail))
      go_big_quiet_step (exact later_of (shVocab _ _ _ _ _ _ _ _ _))
      repeat (go_big_quiet_step (fail))
      go_big_quiet_step (exact later_of (shWidth _ _ _ _ _ _ _ _ _))
      repeat (go_big_quiet_step (fail))
      go_big_quiet_step (exact later_of (hck _ (HM1.out.rd.fresh (Later.fresh _))))
      repeat (go_big_quiet_step (fail))
      refine wpQuiet_nil ?_
      rintro _ ⟨z, rfl⟩
      have hz := z.fresh
      go_wp2
      go_ret
      exact ⟨ret_bool HE.out, fresh_trans hf0 hz⟩
    · have e2 : (m.C == W) = false := by simp [p2]
      have HE := HF (m.C = W) (fun h => h.2.2) p2
      clear p1 p2 HB HF
      refine wp_region_later (by kernel_rfl) (by kernel_rfl) ?_
      repeat (go_big_quiet_step (fail))
      go_big_quiet_step (exact later_of (shVocab _ _ _ _ _ _ _ _ _))
      repeat (go_big_quiet_step (fail))
      go_big_quiet_step (exact later_of (shWidth _ _ _ _ _ _ _ _ _))
      repeat (go_big_quiet_step (fail))
      refine wpQuiet_nil ?_
      rintro _ ⟨z, rfl⟩
      have hz := z.fresh
      go_wp2
      go_ret
      exact ⟨ret_bool HE.out.symm, fresh_trans hf0 hz⟩
  · have e1 : (m.R == V) = false := by simp [p1]
    have HE := HF (m.R = V) (fun h => h.2.1) p1
    clear p1 HB HF
    refine wp_region_later (by kernel_rfl) (by kernel_rfl) ?_
    repeat (go_big_quiet_step (fail))
    go_big_quiet_step (exact later_of (shVocab _ _ _ _ _ _ _ _ _))
    repeat (go_big_quiet_step (fail))
    refine wpQuiet_nil ?_
    rintro _ ⟨z, rfl⟩
    have hz := z.fresh
    go_wp2
    go_ret
    exact ⟨ret_bool HE.out.symm, fresh_trans hf0 hz⟩
end Go.Proofs.Ytilghknalbhacaa
