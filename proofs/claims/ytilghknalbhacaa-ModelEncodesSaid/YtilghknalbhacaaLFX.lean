import Derived.ChangeKeysEq
import Derived.Laws.StructEq
import Derived.Test.YtilghknalbhacaaLfA
import Derived.BigQuiet
namespace Go.Proofs.Ytilghknalbhacaa
open Go.RowKit
/-! Two lists of shifts held against each other. -/
theorem sh7_part0 (s : Nat → Int) (w : World) : (part 3 (sh7 s) 0).run Try.prog w = .ok (.int .i64 (s 0)) w := by kernel_rfl
theorem sh7_part1 (s : Nat → Int) (w : World) : (part 3 (sh7 s) 1).run Try.prog w = .ok (.int .i64 (s 1)) w := by kernel_rfl
theorem sh7_part2 (s : Nat → Int) (w : World) : (part 3 (sh7 s) 2).run Try.prog w = .ok (.int .i64 (s 2)) w := by kernel_rfl
theorem sh7_part3 (s : Nat → Int) (w : World) : (part 3 (sh7 s) 3).run Try.prog w = .ok (.int .i64 (s 3)) w := by kernel_rfl
theorem sh7_part4 (s : Nat → Int) (w : World) : (part 3 (sh7 s) 4).run Try.prog w = .ok (.int .i64 (s 4)) w := by kernel_rfl
theorem sh7_part5 (s : Nat → Int) (w : World) : (part 3 (sh7 s) 5).run Try.prog w = .ok (.int .i64 (s 5)) w := by kernel_rfl
theorem sh7_part6 (s : Nat → Int) (w : World) : (part 3 (sh7 s) 6).run Try.prog w = .ok (.int .i64 (s 6)) w := by kernel_rfl
theorem sh7_part (s : Nat → Int) (w : World) : ∀ (i : Nat), i < 7 → (part 3 (sh7 s) (i * 1)).run Try.prog w = .ok (.int .i64 (s i)) w
  | 0, _ => sh7_part0 s w
  | 1, _ => sh7_part1 s w
  | 2, _ => sh7_part2 s w
  | 3, _ => sh7_part3 s w
  | 4, _ => sh7_part4 s w
  | 5, _ => sh7_part5 s w
  | 6, _ => sh7_part6 s w
theorem cellsInt : Try.prog.cellsOf 3 = 1 := by kernel_rfl
theorem items7 (a b : Nat → Int) (w : World) : ∀ (is : List Nat), (∀ i ∈ is, i < 7) → (Op.eqItems 9999 3 1 (sh7 a) (sh7 b) is).run Try.prog w = .ok (decide (∀ i ∈ is, a i = b i)) w
  | [], _ => by simp [Op.eqItems]
  | i :: is, h => by
    have h1 := sh7_part a w i (h i (by simp))
    have h2 := sh7_part b w i (h i (by simp))
    have h3 := run_equalIn_int w 9998 3 .i64 .i64 (a i) (b i) Try.underlying3
    simp only [Op.eqItems, Sem.run_bind, h1, h2, h3, Result.andThen_ok]
    by_cases e : a i = b i
    · have e1 : (a i == b i) = true := by simp [e]
      rw [e1]
      simp only [Bool.not_true, Bool.false_eq_true, if_false]
      rw [items7 a b w is (fun j hj => h j (by simp [hj]))]
      simp [e]
    · have e1 : (a i == b i) = false := by simp [e]
      rw [e1]
      simp [e]
theorem eql7 (a b : Nat → Int) (r : Bool) (hr : r = true ↔ ∀ i, i < 7 → a i = b i) (w : World) : (Op.equalIn 10000 65 (.agg (sh7 a)) (.agg (sh7 b))).run Try.prog w = .ok r w := by
  obtain ⟨inf, hinf⟩ : ∃ inf, Try.prog.info? 3 = some inf := by
    have := infoI
    cases h : Try.prog.info? 3 with
    | none => rw [h] at this; cases this
    | some x => exact ⟨x, rfl⟩
  have h1 := run_equalIn_array w 9999 (sh7 a) (sh7 b) Try.underlying65 hinf
  have h2 := items7 a b w (List.range 7) (fun i hi => List.mem_range.1 hi)
  rw [cellsInt, h2] at h1
  have h3 : decide (∀ i ∈ List.range 7, a i = b i) = r := by
    cases hh : r with
    | true => simp only [decide_eq_true_eq]; intro i hi; exact hr.1 hh i (List.mem_range.1 hi)
    | false =>
      simp only [decide_eq_false_iff_not]
      intro h
      have := hr.2 (fun i hi => h i (List.mem_range.2 hi))
      rw [hh] at this
      cases this
  rw [h3] at h1
  exact h1
end Go.Proofs.Ytilghknalbhacaa
namespace Go.Proofs.Ytilghknalbhacaa
open Go.RowKit
/-! layerFits. -/
theorem isI_all {l : LyD} {W kv D : Int} (h : LyP l W kv D) : ∀ i, i < 7 → isI l W kv D i
  | 0, _ => h.q
  | 1, _ => h.k
  | 2, _ => h.v
  | 3, _ => h.o
  | 4, _ => h.g
  | 5, _ => h.u
  | 6, _ => h.d
theorem isI_mk {l : LyD} {W kv D : Int} (h : ∀ i, i < 7 → isI l W kv D i) (h1 : l.n1.gains W) (h2 : l.n2.gains W) (h3 : ∀ i, i < 7 → 0 ≤ l.sh i ∧ l.sh i ≤ 24) : LyP l W kv D :=
  ⟨h1, h2, h 0 (by decide), h 3 (by decide), h 1 (by decide), h 2 (by decide), h 4 (by decide), h 5 (by decide), h 6 (by decide), h3⟩
set_option maxRecDepth 20000 in
set_option maxHeartbeats 4000000 in
theorem layerFits_any {w : World} {l : LyD} (hl : LyR w l) (V W H K L D N M : Int) (kv : Int) (hH : 1 ≤ H) (hH4 : H ≤ 4) (hW : 2 ≤ W) (hW2 : W ≤ 32) (hkv : K * (W / H) = kv) (kv0 : 0 ≤ kv) (kv1 : kv ≤ 128) (b : Bool) (hb : b = true ↔ LyP l W kv D) :
    Calls Try.prog 86 #[.agg #[.int .i64 V, .int .i64 W, .int .i64 H, .int .i64 K, .int .i64 L, .int .i64 D, .int .i64 N, .int .i64 M], .agg (lyL l).toArray] w fun e w' => e = .returned (.bool b) ∧ Below w.heap.size w w' := by
  have HL := hidd hl
  have HB := hidd hb
  have HF : ∀ P : Prop, (LyP l W kv D → P) → ¬ P → Hid (b = false) := fun P h1 h2 => by
    show b = false
    cases hbb : b with
    | false => rfl
    | true => exact absurd (h1 (HB.out.1 hbb)) h2
  clear hl hb
  obtain ⟨tl, htl⟩ : ∃ tl, tl = (lyL l).toArray := ⟨_, rfl⟩
  rw [← htl]
  have HTL := hidd htl
  clear htl
  go_enter Try.func86, Try.ntmps86
  go_wp2_with fail
  have HF1 := hidd (fresh_trans (fresh_alloc w (.cells #[.int .i64 V, .int .i64 W, .int .i64 H, .int .i64 K, .int .i64 L, .int .i64 D, .int .i64 N, .int .i64 M] 23)) (fresh_alloc _ (.cells tl 67)))
  have HG0 := hidd (heap_old w (.cells #[.int .i64 V, .int .i64 W, .int .i64 H, .int .i64 K, .int .i64 L, .int .i64 D, .int .i64 N, .int .i64 M] 23) (.cells tl 67))
  have HG1 := hidd (heap_new2 w (.cells #[.int .i64 V, .int .i64 W, .int .i64 H, .int .i64 K, .int .i64 L, .int .i64 D, .int .i64 N, .int .i64 M] 23) (.cells tl 67))
  have hs1 : ((w.alloc (.cells #[.int .i64 V, .int .i64 W, .int .i64 H, .int .i64 K, .int .i64 L, .int .i64 D, .int .i64 N, .int .i64 M] 23)).alloc (.cells tl 67)).heap.size = w.heap.size + 1 + 1 := by simp
  have HS1 := hidd hs1
  clear hs1
  generalize (w.alloc (.cells #[.int .i64 V, .int .i64 W, .int .i64 H, .int .i64 K, .int .i64 L, .int .i64 D, .int .i64 N, .int .i64 M] 23)).alloc (.cells tl 67) = w1 at *
  refine (shapes_any w1).mono ?_
  rintro e w2 ⟨rfl, h2⟩
  have H2 := hidd h2
  clear h2
  go_wp2_with (first | refine wpList_store_row rfl 118 _ _ rfl w2.heap.size tab8 rfl rfl 118 _ (heap_new _ _) size8 rfl (by kernel_rfl) ?_ | fail)
  rw [World.setRow_alloc_new]
  have HF3 := hidd (fresh_trans (fresh_trans HF1.out H2.out) (fresh_alloc w2 (.cells tab8 118)))
  have H23 := hidd (fresh_trans H2.out (fresh_alloc w2 (.cells tab8 118)))
  have HT3 := hidd (heap_new w2 (.cells tab8 118))
  have HS3 : Hid ((w2.alloc (.cells tab8 118)).heap.size = w2.heap.size + 1) := by show (w2.alloc (.cells tab8 118)).heap.size = w2.heap.size + 1; simp
  have HS2 : Hid (w.heap.size + 2 ≤ w2.heap.size) := by show w.heap.size + 2 ≤ w2.heap.size; have := HS1.out; have := H2.out.size; omega
  generalize w2.alloc (.cells tab8 118) = w3 at *
  refine (matsOf_any w3 (w.heap.size + 1) 0).mono ?_
  rintro e w4 ⟨rfl, h4⟩
  have H14 := hidd (fresh_trans H23.out h4)
  have HF4 := hidd (fresh_trans HF3.out h4)
  have HL4 := hidd (HL.out.fresh HF4.out)
  have HT4 : Hid (w4.heap[w2.heap.size]? = some (.cells tab8 118)) := by show w4.heap[w2.heap.size]? = _; rw [h4.block _ (by have := HS3.out; omega)]; exact HT3.out
  have HC4 : Hid (LyC w4 (w.heap.size + 1) 0 l) := by
    refine lyC_heap (t := 67) (fr := (0, 0)) ?_
    rw [H14.out.block _ (by have := HS1.out; omega), HG1.out, HTL.out]
  have HG4 : Hid (w4.heap[w.heap.size]? = some (.cells #[.int .i64 V, .int .i64 W, .int .i64 H, .int .i64 K, .int .i64 L, .int .i64 D, .int .i64 N, .int .i64 M] 23)) := by show w4.heap[w.heap.size]? = _; rw [H14.out.block _ (by have := HS1.out; omega)]; exact HG0.out
  have CL := hidd (fun j => cell_heap HG4.out j)
  have S4 : Hid (w.heap.size ≤ w4.heap.size) := HF4.out.size
  clear h4 HF3 H23 HT3 HF1 HG0 HG1 H2 HL H14 HG4 HS1
  generalize w2.heap.size = g2 at *
  have hC : Below w4.heap.size w4 w4 := Below.refl _ _
  have AT := hidd (pm7_at (w.heap.size + 1) 0)
  generalize pm7 (w.heap.size + 1) 0 = pm at *
  have TA := hidd (tab8_at HT4.out)
  clear HT4
  generalize tab8 = t8 at *
  go_wp2_with fail
  go_loopw [10] (fun i wr => ∃ k : Nat, k ≤ 7 ∧ i = .int .i64 k ∧ Hid (∀ j, j < k → isI l W kv D j) ∧ Below w4.heap.size w4 wr) (fun i _ => 7 - (intOf i).toNat)
  case atStart => exact ⟨0, by omega, rfl, fun j hj => absurd hj (by omega), hC⟩
  case round =>
    clear hC
    obtain ⟨k, hk, rfl, HK, hC⟩ := hrel
    by_cases hlt : k < 7
    · have hi := AT.out k hlt
      obtain ⟨a0, a1⟩ := TA.out k hlt
      obtain ⟨m0, m1, m2⟩ := HC4.out.mat k hlt
      replace a0 := fresh_cell hC a0; replace a1 := fresh_cell hC a1; replace m0 := fresh_cell hC m0; replace m1 := fresh_cell hC m1; replace m2 := fresh_cell hC m2
      have d0 := fresh_cell hC (CL.out 0)
      have d1 := fresh_cell hC (CL.out 1)
      have d2 := fresh_cell hC (CL.out 2)
      have d3 := fresh_cell hC (CL.out 3)
      have d4 := fresh_cell hC (CL.out 4)
      have d5 := fresh_cell hC (CL.out 5)
      have d6 := fresh_cell hC (CL.out 6)
      have d7 := fresh_cell hC (CL.out 7)
      have i1 : (0 : Int) ≤ (k : Int) := Int.natCast_nonneg _
      have i2 : (k : Int) < 7 := by omega
      have i3 : (k : Int) < 8 := by omega
      by_cases p : isI l W kv D k
      · have HK' : Hid (∀ j, j < k + 1 → isI l W kv D j) := fun j hj => by
          by_cases e : j = k
          · rw [e]; exact p
          · exact HK.out j (by omega)
        go_wp2_with fail
        replace a0 := later_cell a0; replace a1 := later_cell a1; replace m0 := later_cell m0; replace m1 := later_cell m1; replace m2 := later_cell m2; replace d0 := later_cell d0; replace d1 := later_cell d1; replace d2 := later_cell d2; replace d3 := later_cell d3; replace d4 := later_cell d4; replace d5 := later_cell d5; replace d6 := later_cell d6; replace d7 := later_cell d7
        have ne := later_some wr
        refine wp_region_later (by kernel_rfl) (by kernel_rfl) ?_
        repeat (go_big_quiet_step (fail))
        go_big_quiet_step (exact later_of (fits_at (HL4.out.fresh (fresh_trans hC (Later.fresh _))) V W H K L D N M kv hH hH4 hW hW2 hkv kv0 kv1 k hlt true ⟨fun _ => p, fun _ => rfl⟩))
        repeat (go_big_quiet_step (fail))
        refine wpQuiet_nil ?_
        rintro _ ⟨z, rfl⟩
        have hz := z.fresh
        clear ne a0 a1 m0 m1 m2 d0 d1 d2 d3 d4 d5 d6 d7 hi
        generalize z.val = wz at *
        clear z
        go_wp2_with fail
        go_roundw
        case rel => exact ⟨k + 1, by omega, by go_num, HK', fresh_trans hC hz⟩
        case measure => simp [intOf]; omega
      · have HY := HF _ (fun h => isI_all h k hlt) p
        go_wp2_with fail
        replace a0 := later_cell a0; replace a1 := later_cell a1; replace m0 := later_cell m0; replace m1 := later_cell m1; replace m2 := later_cell m2; replace d0 := later_cell d0; replace d1 := later_cell d1; replace d2 := later_cell d2; replace d3 := later_cell d3; replace d4 := later_cell d4; replace d5 := later_cell d5; replace d6 := later_cell d6; replace d7 := later_cell d7
        have ne := later_some wr
        refine wp_region_later (by kernel_rfl) (by kernel_rfl) ?_
        repeat (go_big_quiet_step (fail))
        go_big_quiet_step (exact later_of (fits_at (HL4.out.fresh (fresh_trans hC (Later.fresh _))) V W H K L D N M kv hH hH4 hW hW2 hkv kv0 kv1 k hlt false ⟨fun h => (by cases h), fun h => absurd h p⟩))
        repeat (go_big_quiet_step (fail))
        refine wpQuiet_nil ?_
        rintro _ ⟨z, rfl⟩
        have hz := z.fresh
        go_wp2
        go_ret
        exact ⟨ret_bool HY.out.symm, fresh_trans HF4.out (fresh_trans hC hz)⟩
    · have e7 : k = 7 := by omega
      subst e7
      obtain ⟨y0, y1, y2, y3, y4, y5, y6, y7, y8, y9, y10, y11, y12, y13, y14, y15, y16, y17, y18, y19, y20, y21, y22, y23, y24, y25, y26, y27, y28, y29⟩ := HC4.out
      clear y2 y3 y4 y5 y6 y7 y8 y9 y10 y11 y12 y13 y14 y15 y16 y17 y18 y19 y20 y21 y22
      replace y0 := fresh_cell hC y0; replace y1 := fresh_cell hC y1; replace y23 := fresh_cell hC y23; replace y24 := fresh_cell hC y24; replace y25 := fresh_cell hC y25; replace y26 := fresh_cell hC y26; replace y27 := fresh_cell hC y27; replace y28 := fresh_cell hC y28; replace y29 := fresh_cell hC y29
      have d0 := fresh_cell hC (CL.out 0)
      have d1 := fresh_cell hC (CL.out 1)
      have d2 := fresh_cell hC (CL.out 2)
      have d3 := fresh_cell hC (CL.out 3)
      have d4 := fresh_cell hC (CL.out 4)
      have d5 := fresh_cell hC (CL.out 5)
      have d6 := fresh_cell hC (CL.out 6)
      have d7 := fresh_cell hC (CL.out 7)
      have lat := HL4.out.fresh hC
      have HLT := hidd lat
      clear lat
      by_cases p1 : ¬ l.n1.gains W
      · have HY := HF _ (fun h => h.n1) p1
        go_wp2_with fail
        replace y0 := later_cell y0; replace y1 := later_cell y1; replace y23 := later_cell y23; replace y24 := later_cell y24; replace y25 := later_cell y25; replace y26 := later_cell y26; replace y27 := later_cell y27; replace y28 := later_cell y28; replace y29 := later_cell y29; replace d0 := later_cell d0; replace d1 := later_cell d1; replace d2 := later_cell d2; replace d3 := later_cell d3; replace d4 := later_cell d4; replace d5 := later_cell d5; replace d6 := later_cell d6; replace d7 := later_cell d7
        have ne := later_some wr
        refine wp_region_later (by kernel_rfl) (by kernel_rfl) ?_
        repeat (go_big_quiet_step (fail))
        go_big_quiet_step (exact later_of (gainsFit_any V W H K L D N M (HLT.out.fresh (Later.fresh _)).n1.rd hW false ⟨fun h => (by cases h), fun h => absurd h p1⟩))
        repeat (go_big_quiet_step (fail))
        refine wpQuiet_nil ?_
        rintro _ ⟨z, rfl⟩
        have hz := z.fresh
        go_wp2
        go_ret
        exact ⟨ret_bool HY.out.symm, fresh_trans HF4.out (fresh_trans hC hz)⟩
      replace p1 := Classical.not_not.1 p1
      by_cases p2 : ¬ l.n2.gains W
      · have HY := HF _ (fun h => h.n2) p2
        go_wp2_with fail
        replace y0 := later_cell y0; replace y1 := later_cell y1; replace y23 := later_cell y23; replace y24 := later_cell y24; replace y25 := later_cell y25; replace y26 := later_cell y26; replace y27 := later_cell y27; replace y28 := later_cell y28; replace y29 := later_cell y29; replace d0 := later_cell d0; replace d1 := later_cell d1; replace d2 := later_cell d2; replace d3 := later_cell d3; replace d4 := later_cell d4; replace d5 := later_cell d5; replace d6 := later_cell d6; replace d7 := later_cell d7
        have ne := later_some wr
        refine wp_region_later (by kernel_rfl) (by kernel_rfl) ?_
        repeat (go_big_quiet_step (fail))
        go_big_quiet_step (exact later_of (gainsFit_any V W H K L D N M (HLT.out.fresh (Later.fresh _)).n1.rd hW true ⟨fun _ => p1, fun _ => rfl⟩))
        repeat (go_big_quiet_step (fail))
        go_big_quiet_step (exact later_of (gainsFit_any V W H K L D N M (HLT.out.fresh (Later.fresh _)).n2.rd hW false ⟨fun h => (by cases h), fun h => absurd h p2⟩))
        repeat (go_big_quiet_step (fail))
        refine wpQuiet_nil ?_
        rintro _ ⟨z, rfl⟩
        have hz := z.fresh
        go_wp2
        go_ret
        exact ⟨ret_bool HY.out.symm, fresh_trans HF4.out (fresh_trans hC hz)⟩
      replace p2 := Classical.not_not.1 p2
      by_cases p3 : ∀ i, i < 7 → 0 ≤ l.sh i ∧ l.sh i ≤ 24
      · have eq := eql7 (fun j => ct (l.sh j)) l.sh true ⟨fun _ i hi => (ct_same _).2 (p3 i hi), fun _ => rfl⟩
        have HY : Hid (b = true) := HB.out.2 (isI_mk (fun i hi => HK.out i hi) p1 p2 p3)
        conv at eq => intro w; lhs; rw [show sh7 l.sh = #[.int .i64 (l.sh 0), .int .i64 (l.sh 1), .int .i64 (l.sh 2), .int .i64 (l.sh 3), .int .i64 (l.sh 4), .int .i64 (l.sh 5), .int .i64 (l.sh 6)] from rfl]
        go_wp2_with fail
        replace y0 := later_cell y0; replace y1 := later_cell y1; replace y23 := later_cell y23; replace y24 := later_cell y24; replace y25 := later_cell y25; replace y26 := later_cell y26; replace y27 := later_cell y27; replace y28 := later_cell y28; replace y29 := later_cell y29; replace d0 := later_cell d0; replace d1 := later_cell d1; replace d2 := later_cell d2; replace d3 := later_cell d3; replace d4 := later_cell d4; replace d5 := later_cell d5; replace d6 := later_cell d6; replace d7 := later_cell d7
        have ne := later_some wr
        refine wp_region_later (by kernel_rfl) (by kernel_rfl) ?_
        repeat (go_big_quiet_step (fail))
        go_big_quiet_step (exact later_of (gainsFit_any V W H K L D N M (HLT.out.fresh (Later.fresh _)).n1.rd hW true ⟨fun _ => p1, fun _ => rfl⟩))
        repeat (go_big_quiet_step (fail))
        go_big_quiet_step (exact later_of (gainsFit_any V W H K L D N M (HLT.out.fresh (Later.fresh _)).n2.rd hW true ⟨fun _ => p2, fun _ => rfl⟩))
        repeat (go_big_quiet_step (fail))
        go_big_quiet_step (exact later_of (cutShifts_any l.sh _))
        repeat (go_big_quiet_step (fail))
        refine wpQuiet_nil ?_
        rintro _ ⟨z, rfl⟩
        have hz := z.fresh
        go_wp2
        go_ret
        exact ⟨ret_bool HY.out.symm, fresh_trans HF4.out (fresh_trans hC hz)⟩
      · have eq := eql7 (fun j => ct (l.sh j)) l.sh false ⟨fun h => (by cases h), fun h => absurd (fun i hi => (ct_same _).1 (h i hi)) p3⟩
        have HY := HF _ (fun h => h.sh) p3
        conv at eq => intro w; lhs; rw [show sh7 l.sh = #[.int .i64 (l.sh 0), .int .i64 (l.sh 1), .int .i64 (l.sh 2), .int .i64 (l.sh 3), .int .i64 (l.sh 4), .int .i64 (l.sh 5), .int .i64 (l.sh 6)] from rfl]
        go_wp2_with fail
        replace y0 := later_cell y0; replace y1 := later_cell y1; replace y23 := later_cell y23; replace y24 := later_cell y24; replace y25 := later_cell y25; replace y26 := later_cell y26; replace y27 := later_cell y27; replace y28 := later_cell y28; replace y29 := later_cell y29; replace d0 := later_cell d0; replace d1 := later_cell d1; replace d2 := later_cell d2; replace d3 := later_cell d3; replace d4 := later_cell d4; replace d5 := later_cell d5; replace d6 := later_cell d6; replace d7 := later_cell d7
        have ne := later_some wr
        refine wp_region_later (by kernel_rfl) (by kernel_rfl) ?_
        repeat (go_big_quiet_step (fail))
        go_big_quiet_step (exact later_of (gainsFit_any V W H K L D N M (HLT.out.fresh (Later.fresh _)).n1.rd hW true ⟨fun _ => p1, fun _ => rfl⟩))
        repeat (go_big_quiet_step (fail))
        go_big_quiet_step (exact later_of (gainsFit_any V W H K L D N M (HLT.out.fresh (Later.fresh _)).n2.rd hW true ⟨fun _ => p2, fun _ => rfl⟩))
        repeat (go_big_quiet_step (fail))
        go_big_quiet_step (exact later_of (cutShifts_any l.sh _))
        repeat (go_big_quiet_step (fail))
        refine wpQuiet_nil ?_
        rintro _ ⟨z, rfl⟩
        have hz := z.fresh
        go_wp2
        go_ret
        exact ⟨ret_bool HY.out.symm, fresh_trans HF4.out (fresh_trans hC hz)⟩
end Go.Proofs.Ytilghknalbhacaa
namespace Go.Proofs.Ytilghknalbhacaa
open Go.RowKit
/-! fit. -/
theorem tab_7 (w : World) : (Instr.index 118 (.agg tab8) (.int .i64 7)).run Try.prog w = .ok (.agg #[.func (.func 95) #[] #[], .func (.func 96) #[] #[]]) w := by kernel_rfl
theorem fresh_cells {w w' : World} (h : Below w.heap.size w w') {g : Nat} {cs : Array Value} {t : TypeId} {fr : Nat × Nat} (hg : w.heap[g]? = some (.cells cs t fr)) (j : Nat) : w'.cell? ⟨g, j, none⟩ = cs[j]? := by
  refine cell_heap (t := t) (fr := fr) ?_ j
  rw [h.block _ (Array.getElem?_eq_some_iff.1 hg).1, hg]
theorem lyL_one (l : LyD) : (lyL l).toArray.all (·.oneCell') = true := by kernel_rfl
theorem size2 : (Try.prog.info? 117).map (·.size) = some 2 := by kernel_rfl
set_option maxRecDepth 20000 in
set_option maxHeartbeats 8000000 in
theorem fit_any {w : World} {x : WtD} (hx : WtR w x) (hmay : x.may) (b : Bool) (hb : b = true ↔ WtP x) :
    Calls Try.prog 50 #[.agg #[.int .i64 x.V, .int .i64 x.W, .int .i64 x.H, .int .i64 x.K, .int .i64 x.L, .int .i64 x.D, .int .i64 x.N, .int .i64 x.M, .int .i64 x.E.R, .int .i64 x.E.C, .slice x.E.O x.E.n x.E.c, .slice x.tO x.tn x.tc, .slice x.yO x.yn x.yc, .slice x.F.O x.F.n x.F.c, .int .i64 x.Q.R, .int .i64 x.Q.C, .slice x.Q.O x.Q.n x.Q.c, .slice x.mO x.mn x.mc]] w fun e w' => e = .returned (.bool b) ∧ Below w.heap.size w w' := by
  have HX := hidd hx
  have HB := hidd hb
  have HF : ∀ P : Prop, (WtP x → P) → ¬ P → Hid (b = false) := fun P h1 h2 => by
    show b = false
    cases hbb : b with
    | false => rfl
    | true => exact absurd (h1 (HB.out.1 hbb)) h2
  obtain ⟨mV, mW, mH, _, mK, _, mL, mD, mN, mM⟩ := hmay
  have hkv := kv_bd (W := x.W) (H := x.H) (K := x.K) (by omega) (by omega) (by omega) (by omega) (by omega)
  have hF := fresh_trans (fresh_alloc w (.cells #[.int .i64 x.V, .int .i64 x.W, .int .i64 x.H, .int .i64 x.K, .int .i64 x.L, .int .i64 x.D, .int .i64 x.N, .int .i64 x.M, .int .i64 x.E.R, .int .i64 x.E.C, .slice x.E.O x.E.n x.E.c, .slice x.tO x.tn x.tc, .slice x.yO x.yn x.yc, .slice x.F.O x.F.n x.F.c, .int .i64 x.Q.R, .int .i64 x.Q.C, .slice x.Q.O x.Q.n x.Q.c, .slice x.mO x.mn x.mc] 34)) (fresh_alloc _ (.cells #[.int .i64 x.V, .int .i64 x.W, .int .i64 x.H, .int .i64 x.K, .int .i64 x.L, .int .i64 x.D, .int .i64 x.N, .int .i64 x.M] 23))
  clear hx hb
  by_cases hy : ¬ (x.yn : Int) = x.L
  · have ey : ((x.yn : Int) != x.L) = true := by simp [hy]
    have HY := HF _ (fun h => h.yn) hy
    clear hy
    go_enter Try.func50, Try.ntmps50
    go_wp2
    go_ret
    exact ⟨ret_bool HY.out.symm, hF⟩
  replace hy := Classical.not_not.1 hy
  have ey : ((x.yn : Int) != x.L) = false := by simp [hy]
  by_cases hm : ¬ (x.mn : Int) = x.M
  · have em : ((x.mn : Int) != x.M) = true := by simp [hm]
    have HY := HF _ (fun h => h.mn) hm
    clear hy hm
    go_enter Try.func50, Try.ntmps50
    go_wp2
    go_ret
    exact ⟨ret_bool HY.out.symm, hF⟩
  replace hm := Classical.not_not.1 hm
  have em : ((x.mn : Int) != x.M) = false := by simp [hm]
  have HYN := hidd hy
  have HMN := hidd hm
  clear hy hm
  go_enter Try.func50, Try.ntmps50
  go_wp2_with fail
  have G18 := heap_old w (.cells #[.int .i64 x.V, .int .i64 x.W, .int .i64 x.H, .int .i64 x.K, .int .i64 x.L, .int .i64 x.D, .int .i64 x.N, .int .i64 x.M, .int .i64 x.E.R, .int .i64 x.E.C, .slice x.E.O x.E.n x.E.c, .slice x.tO x.tn x.tc, .slice x.yO x.yn x.yc, .slice x.F.O x.F.n x.F.c, .int .i64 x.Q.R, .int .i64 x.Q.C, .slice x.Q.O x.Q.n x.Q.c, .slice x.mO x.mn x.mc] 34) (.cells #[.int .i64 x.V, .int .i64 x.W, .int .i64 x.H, .int .i64 x.K, .int .i64 x.L, .int .i64 x.D, .int .i64 x.N, .int .i64 x.M] 23)
  have G8 := heap_new2 w (.cells #[.int .i64 x.V, .int .i64 x.W, .int .i64 x.H, .int .i64 x.K, .int .i64 x.L, .int .i64 x.D, .int .i64 x.N, .int .i64 x.M, .int .i64 x.E.R, .int .i64 x.E.C, .slice x.E.O x.E.n x.E.c, .slice x.tO x.tn x.tc, .slice x.yO x.yn x.yc, .slice x.F.O x.F.n x.F.c, .int .i64 x.Q.R, .int .i64 x.Q.C, .slice x.Q.O x.Q.n x.Q.c, .slice x.mO x.mn x.mc] 34) (.cells #[.int .i64 x.V, .int .i64 x.W, .int .i64 x.H, .int .i64 x.K, .int .i64 x.L, .int .i64 x.D, .int .i64 x.N, .int .i64 x.M] 23)
  have HS1 : Hid (((w.alloc (.cells #[.int .i64 x.V, .int .i64 x.W, .int .i64 x.H, .int .i64 x.K, .int .i64 x.L, .int .i64 x.D, .int .i64 x.N, .int .i64 x.M, .int .i64 x.E.R, .int .i64 x.E.C, .slice x.E.O x.E.n x.E.c, .slice x.tO x.tn x.tc, .slice x.yO x.yn x.yc, .slice x.F.O x.F.n x.F.c, .int .i64 x.Q.R, .int .i64 x.Q.C, .slice x.Q.O x.Q.n x.Q.c, .slice x.mO x.mn x.mc] 34)).alloc (.cells #[.int .i64 x.V, .int .i64 x.W, .int .i64 x.H, .int .i64 x.K, .int .i64 x.L, .int .i64 x.D, .int .i64 x.N, .int .i64 x.M] 23)).heap.size = w.heap.size + 1 + 1) := by show _ = _; simp
  have HF1 := hidd hF
  have H18 := hidd G18
  have H8 := hidd G8
  clear G18 G8 hF ey em
  generalize ((w.alloc (.cells #[.int .i64 x.V, .int .i64 x.W, .int .i64 x.H, .int .i64 x.K, .int .i64 x.L, .int .i64 x.D, .int .i64 x.N, .int .i64 x.M, .int .i64 x.E.R, .int .i64 x.E.C, .slice x.E.O x.E.n x.E.c, .slice x.tO x.tn x.tc, .slice x.yO x.yn x.yc, .slice x.F.O x.F.n x.F.c, .int .i64 x.Q.R, .int .i64 x.Q.C, .slice x.Q.O x.Q.n x.Q.c, .slice x.mO x.mn x.mc] 34)).alloc (.cells #[.int .i64 x.V, .int .i64 x.W, .int .i64 x.H, .int .i64 x.K, .int .i64 x.L, .int .i64 x.D, .int .i64 x.N, .int .i64 x.M] 23)) = w1 at *
  refine (shapes_any w1).mono ?_
  rintro e w2 ⟨rfl, h2⟩
  have H2 := hidd h2
  have t7 := tab_7
  clear h2
  have H3 : Hid (Below w1.heap.size w1 ((w2.alloc (.cells #[.nilFunc, .nilFunc] 117)).setRow w2.heap.size #[.func (.func 95) #[] #[], .func (.func 96) #[] #[]])) := by show Below _ _ _; rw [World.setRow_alloc_new]; exact fresh_trans H2.out (fresh_alloc _ _)
  have c17 : ((w2.alloc (.cells #[.nilFunc, .nilFunc] 117)).setRow w2.heap.size #[.func (.func 95) #[] #[], .func (.func 96) #[] #[]]).cell? ⟨w.heap.size, 17, none⟩ = some (.slice x.mO x.mn x.mc) := fresh_cell H3.out (cell_heap H18.out 17)
  go_wp2_with (first | refine wpList_store_row rfl 117 _ _ rfl w2.heap.size #[.func (.func 95) #[] #[], .func (.func 96) #[] #[]] rfl rfl 117 _ (heap_new _ _) size2 rfl (by kernel_rfl) ?_ | fail)
  have T3 : Hid (((w2.alloc (.cells #[.nilFunc, .nilFunc] 117)).setRow w2.heap.size #[.func (.func 95) #[] #[], .func (.func 96) #[] #[]]).heap[w2.heap.size]? = some (.cells #[.func (.func 95) #[] #[], .func (.func 96) #[] #[]] 117)) := by show _ = _; rw [World.setRow_alloc_new]; exact heap_new _ _
  have HF3 := hidd (fresh_trans HF1.out H3.out)
  have HX3 := hidd (HX.out.fresh HF3.out)
  have WL := hidd (fun j => (fresh_cells H3.out H18.out j))
  have DL := hidd (fun j => (fresh_cells H3.out H8.out j))
  have TL := hidd (fun j => cell_heap T3.out j)
  clear c17 H3 H2 HF1 H18 H8 T3 t7 HX
  generalize ((w2.alloc (.cells #[.nilFunc, .nilFunc] 117)).setRow w2.heap.size #[.func (.func 95) #[] #[], .func (.func 96) #[] #[]]) = w3 at *
  generalize w2.heap.size = g2 at *
  have hC : Below w3.heap.size w3 w3 := Below.refl _ _
  go_loopw [30] (fun i wr => ∃ k : Nat, k ≤ x.mn ∧ i = .int .i64 k ∧ Hid (∀ j, j < k → (x.md j).isa x.V x.W) ∧ Below w3.heap.size w3 wr) (fun i _ => x.mn - (intOf i).toNat)
  case atStart => exact ⟨0, by omega, rfl, fun j hj => absurd hj (by omega), hC⟩
  case round =>
    clear hC
    obtain ⟨k, hk, rfl, HK, hC⟩ := hrel
    by_cases hlt : k < x.mn
    · obtain ⟨mb, mf, hmO, hmc⟩ := HX3.out.mat (by omega)
      obtain ⟨m0, m1, m2⟩ := hmc k hlt
      replace m0 := fresh_cell hC m0; replace m1 := fresh_cell hC m1; replace m2 := fresh_cell hC m2
      have e1 := hC
      have s0 := fresh_cell (fresh_trans hC (fresh_alloc wr (.cells #[.int .i64 (x.md k).R, .int .i64 (x.md k).C, .slice (x.md k).O (x.md k).n (x.md k).c] 29))) (TL.out 0)
      have s1 := fresh_cell (fresh_trans hC (fresh_alloc wr (.cells #[.int .i64 (x.md k).R, .int .i64 (x.md k).C, .slice (x.md k).O (x.md k).n (x.md k).c] 29))) (TL.out 1)
      have d0 := fresh_cell (fresh_trans hC (fresh_alloc wr (.cells #[.int .i64 (x.md k).R, .int .i64 (x.md k).C, .slice (x.md k).O (x.md k).n (x.md k).c] 29))) (DL.out 0)
      have d1 := fresh_cell (fresh_trans hC (fresh_alloc wr (.cells #[.int .i64 (x.md k).R, .int .i64 (x.md k).C, .slice (x.md k).O (x.md k).n (x.md k).c] 29))) (DL.out 1)
      have d2 := fresh_cell (fresh_trans hC (fresh_alloc wr (.cells #[.int .i64 (x.md k).R, .int .i64 (x.md k).C, .slice (x.md k).O (x.md k).n (x.md k).c] 29))) (DL.out 2)
      have d3 := fresh_cell (fresh_trans hC (fresh_alloc wr (.cells #[.int .i64 (x.md k).R, .int .i64 (x.md k).C, .slice (x.md k).O (x.md k).n (x.md k).c] 29))) (DL.out 3)
      have d4 := fresh_cell (fresh_trans hC (fresh_alloc wr (.cells #[.int .i64 (x.md k).R, .int .i64 (x.md k).C, .slice (x.md k).O (x.md k).n (x.md k).c] 29))) (DL.out 4)
      have d5 := fresh_cell (fresh_trans hC (fresh_alloc wr (.cells #[.int .i64 (x.md k).R, .int .i64 (x.md k).C, .slice (x.md k).O (x.md k).n (x.md k).c] 29))) (DL.out 5)
      have d6 := fresh_cell (fresh_trans hC (fresh_alloc wr (.cells #[.int .i64 (x.md k).R, .int .i64 (x.md k).C, .slice (x.md k).O (x.md k).n (x.md k).c] 29))) (DL.out 6)
      have d7 := fresh_cell (fresh_trans hC (fresh_alloc wr (.cells #[.int .i64 (x.md k).R, .int .i64 (x.md k).C, .slice (x.md k).O (x.md k).n (x.md k).c] 29))) (DL.out 7)
      have i1 : (0 : Int) ≤ (k : Int) := Int.natCast_nonneg _
      have i2 : (k : Int) < (x.mn : Int) := by omega
      have i5 : (k : Int) < 4 := by have := HMN.out; omega
      clear hmc e1
      by_cases p : (x.md k).isa x.V x.W
      · have HK' : Hid (∀ j, j < k + 1 → (x.md j).isa x.V x.W) := fun j hj => by
          by_cases e : j = k
          · rw [e]; exact p
          · exact HK.out j (by omega)
        go_wp2_with fail
        refine (fitsT ((HX3.out.mr k hlt).fresh (fresh_trans hC (fresh_alloc _ _))) x.V x.W x.H x.K x.L x.D x.N x.M true ⟨fun _ => p, fun _ => rfl⟩).mono ?_
        rintro e w5 ⟨rfl, h5⟩
        clear m0 m1 m2 s0 s1 d0 d1 d2 d3 d4 d5 d6 d7
        go_wp2_with fail
        rw [← hmO]
        go_roundw
        case rel => exact ⟨k + 1, by omega, by go_num, HK', fresh_trans (fresh_trans hC (fresh_alloc _ _)) h5⟩
        case measure => simp [intOf]; omega
      · have HY := HF _ (fun h => h.m k hlt) p
        go_wp2_with fail
        refine (fitsT ((HX3.out.mr k hlt).fresh (fresh_trans hC (fresh_alloc _ _))) x.V x.W x.H x.K x.L x.D x.N x.M false ⟨fun h => (by cases h), fun h => absurd h p⟩).mono ?_
        rintro e w5 ⟨rfl, h5⟩
        go_wp2
        go_ret
        exact ⟨ret_bool HY.out.symm, fresh_trans HF3.out (fresh_trans (fresh_trans hC (fresh_alloc _ _)) h5)⟩
    · have HM1 : Hid (∀ j, j < x.mn → (x.md j).isa x.V x.W) := fun j hj => HK.out j (by omega)
      have i3 : ¬ (k : Int) < (x.mn : Int) := by omega
      have c12 := fresh_cell hC (WL.out 12)
      go_wp2_with fail
      clear c12 i3 HK
      go_loopw [43] (fun i wr => ∃ k : Nat, k ≤ x.yn ∧ i = .int .i64 k ∧ Hid (∀ j, j < k → LyP (x.ly j) x.W (x.K * (x.W / x.H)) x.D) ∧ Below w3.heap.size w3 wr) (fun i _ => x.yn - (intOf i).toNat)
      case atStart => exact ⟨0, by omega, rfl, fun j hj => absurd hj (by omega), hC⟩
      case round =>
        clear hC
        obtain ⟨m, hm, rfl, HK, hC⟩ := hrel
        by_cases hlt : m < x.yn
        · obtain ⟨yb, yf, hyO, hyc⟩ := HX3.out.yat (by omega)
          have rg := ((hyc m hlt).fresh hC).range
          obtain ⟨tl, htl⟩ : ∃ tl, tl = (lyL (x.ly m)).toArray := ⟨_, rfl⟩
          have htl2 : lyL (x.ly m) = tl.toList := by rw [htl]
          rw [htl2] at rg
          have RG := hidd rg
          have SZ : Hid ((Try.prog.info? 67).map (·.size) = some tl.size) := by show _ = _; rw [sizeLy (x.ly m), htl]; rfl
          have SL : Hid ((Try.prog.info? 67).map (·.size) = some tl.toList.length) := by show _ = _; rw [SZ.out, Array.length_toList]
          have S30 : Hid (30 = tl.size) := by show _ = _; rw [htl]; rfl
          have ONE : Hid (tl.all (·.oneCell') = true) := by show _ = _; rw [htl]; exact lyL_one _
          have HW5 : Hid (((wr.alloc (.cells #[.slice none 0 0, .slice none 0 0, .int .i64 0, .int .i64 0, .slice none 0 0, .int .i64 0, .int .i64 0, .slice none 0 0, .int .i64 0, .int .i64 0, .slice none 0 0, .int .i64 0, .int .i64 0, .slice none 0 0, .int .i64 0, .int .i64 0, .slice none 0 0, .int .i64 0, .int .i64 0, .slice none 0 0, .int .i64 0, .int .i64 0, .slice none 0 0, .int .i64 0, .int .i64 0, .int .i64 0, .int .i64 0, .int .i64 0, .int .i64 0, .int .i64 0] 67)).setRow wr.heap.size tl).heap[wr.heap.size]? = some (.cells tl 67)) := by show _ = _; rw [World.setRow_alloc_new]; exact heap_new _ _
          have h5 : Below wr.heap.size wr ((wr.alloc (.cells #[.slice none 0 0, .slice none 0 0, .int .i64 0, .int .i64 0, .slice none 0 0, .int .i64 0, .int .i64 0, .slice none 0 0, .int .i64 0, .int .i64 0, .slice none 0 0, .int .i64 0, .int .i64 0, .slice none 0 0, .int .i64 0, .int .i64 0, .slice none 0 0, .int .i64 0, .int .i64 0, .slice none 0 0, .int .i64 0, .int .i64 0, .slice none 0 0, .int .i64 0, .int .i64 0, .int .i64 0, .int .i64 0, .int .i64 0, .int .i64 0, .int .i64 0] 67)).setRow wr.heap.size tl) := by rw [World.setRow_alloc_new]; exact fresh_alloc _ _
          have H5 := hidd (fresh_trans hC h5)
          clear rg hyc h5
          have d0 := fresh_cell H5.out (DL.out 0)
          have d1 := fresh_cell H5.out (DL.out 1)
          have d2 := fresh_cell H5.out (DL.out 2)
          have d3 := fresh_cell H5.out (DL.out 3)
          have d4 := fresh_cell H5.out (DL.out 4)
          have d5 := fresh_cell H5.out (DL.out 5)
          have d6 := fresh_cell H5.out (DL.out 6)
          have d7 := fresh_cell H5.out (DL.out 7)
          have i1 : (0 : Int) ≤ (m : Int) := Int.natCast_nonneg _
          have i2 : (m : Int) < (x.yn : Int) := by omega
          have i5 : (m : Int) < 4 := by have := HYN.out; omega
          have CT := hidd (layerFits_any ((HX3.out.yr m hlt).fresh H5.out) x.V x.W x.H x.K x.L x.D x.N x.M _ mH.1 mH.2 mW.1 mW.2 rfl hkv.1 hkv.2)
          rw [← htl] at CT
          clear htl htl2
          by_cases p : LyP (x.ly m) x.W (x.K * (x.W / x.H)) x.D
          · have HK' : Hid (∀ j, j < m + 1 → LyP (x.ly j) x.W (x.K * (x.W / x.H)) x.D) := fun j hj => by
              by_cases e : j = m
              · rw [e]; exact p
              · exact HK.out j (by omega)
            go_wp2_with (first
              | refine wpList_load_mid rfl 67 _ rfl yb (yf + m * 30) rfl tl.toList _ RG.out Try.underlying67 rfl SL.out ?_
              | refine wpList_store_row rfl 67 _ _ rfl wr.heap.size tl rfl rfl 67 _ (heap_new _ _) SZ.out S30.out ONE.out ?_
              | refine wpList_load_row rfl 67 _ rfl wr.heap.size rfl 67 _ (0, 0) _ HW5.out Try.underlying67 rfl SZ.out ?_
              | fail)
            refine (CT.out true ⟨fun _ => p, fun _ => rfl⟩).mono ?_
            rintro e w6 ⟨rfl, h6⟩
            clear d0 d1 d2 d3 d4 d5 d6 d7 CT RG SZ SL S30 ONE HW5
            go_wp2_with fail
            rw [← hyO]
            go_roundw
            case rel => exact ⟨m + 1, by omega, by go_num, HK', fresh_trans H5.out h6⟩
            case measure => simp [intOf]; omega
          · have HY := HF _ (fun h => h.y m hlt) p
            go_wp2_with (first
              | refine wpList_load_mid rfl 67 _ rfl yb (yf + m * 30) rfl tl.toList _ RG.out Try.underlying67 rfl SL.out ?_
              | refine wpList_store_row rfl 67 _ _ rfl wr.heap.size tl rfl rfl 67 _ (heap_new _ _) SZ.out S30.out ONE.out ?_
              | refine wpList_load_row rfl 67 _ rfl wr.heap.size rfl 67 _ (0, 0) _ HW5.out Try.underlying67 rfl SZ.out ?_
              | fail)
            refine (CT.out false ⟨fun h => (by cases h), fun h => absurd h p⟩).mono ?_
            rintro e w6 ⟨rfl, h6⟩
            go_wp2
            go_ret
            exact ⟨ret_bool HY.out.symm, fresh_trans HF3.out (fresh_trans H5.out h6)⟩
        · have HY1 : Hid (∀ j, j < x.yn → LyP (x.ly j) x.W (x.K * (x.W / x.H)) x.D) := fun j hj => HK.out j (by omega)
          have i3 : ¬ (m : Int) < (x.yn : Int) := by omega
          have s0 := fresh_cell hC (TL.out 0)
          have s1 := fresh_cell hC (TL.out 1)
          have d0 := fresh_cell hC (DL.out 0)
          have d1 := fresh_cell hC (DL.out 1)
          have d2 := fresh_cell hC (DL.out 2)
          have d3 := fresh_cell hC (DL.out 3)
          have d4 := fresh_cell hC (DL.out 4)
          have d5 := fresh_cell hC (DL.out 5)
          have d6 := fresh_cell hC (DL.out 6)
          have d7 := fresh_cell hC (DL.out 7)
          have c8 := fresh_cell hC (WL.out 8)
          have c9 := fresh_cell hC (WL.out 9)
          have c10 := fresh_cell hC (WL.out 10)
          have c11 := fresh_cell hC (WL.out 11)
          have c13 := fresh_cell hC (WL.out 13)
          have c14 := fresh_cell hC (WL.out 14)
          have c15 := fresh_cell hC (WL.out 15)
          have c16 := fresh_cell hC (WL.out 16)
          by_cases pE : ¬ x.E.isa x.V x.W
          · have HY := HF _ (fun h => h.E) pE
            go_wp2_with fail
            refine (fitsT (HX3.out.E.fresh hC) x.V x.W x.H x.K x.L x.D x.N x.M false ⟨fun h => (by cases h), fun h => absurd h pE⟩).mono ?_
            rintro e z0 ⟨rfl, f0⟩
            replace s0 := fresh_cell f0 s0; replace s1 := fresh_cell f0 s1; replace d0 := fresh_cell f0 d0; replace d1 := fresh_cell f0 d1; replace d2 := fresh_cell f0 d2; replace d3 := fresh_cell f0 d3; replace d4 := fresh_cell f0 d4; replace d5 := fresh_cell f0 d5; replace d6 := fresh_cell f0 d6; replace d7 := fresh_cell f0 d7; replace c14 := fresh_cell f0 c14; replace c15 := fresh_cell f0 c15; replace c16 := fresh_cell f0 c16; replace c13 := fresh_cell f0 c13; replace c11 := fresh_cell f0 c11
            go_wp2
            go_ret
            exact ⟨ret_bool HY.out.symm, fresh_trans HF3.out (fresh_trans (hC) f0)⟩
          replace pE := Classical.not_not.1 pE
          by_cases pQ : ¬ x.Q.isa x.V x.W
          · have HY := HF _ (fun h => h.Q) pQ
            go_wp2_with fail
            refine (fitsT (HX3.out.E.fresh hC) x.V x.W x.H x.K x.L x.D x.N x.M true ⟨fun _ => pE, fun _ => rfl⟩).mono ?_
            rintro e z0 ⟨rfl, f0⟩
            replace s0 := fresh_cell f0 s0; replace s1 := fresh_cell f0 s1; replace d0 := fresh_cell f0 d0; replace d1 := fresh_cell f0 d1; replace d2 := fresh_cell f0 d2; replace d3 := fresh_cell f0 d3; replace d4 := fresh_cell f0 d4; replace d5 := fresh_cell f0 d5; replace d6 := fresh_cell f0 d6; replace d7 := fresh_cell f0 d7; replace c14 := fresh_cell f0 c14; replace c15 := fresh_cell f0 c15; replace c16 := fresh_cell f0 c16; replace c13 := fresh_cell f0 c13; replace c11 := fresh_cell f0 c11
            go_wp2_with fail
            refine (fitsT (HX3.out.Q.fresh (fresh_trans hC f0)) x.V x.W x.H x.K x.L x.D x.N x.M false ⟨fun h => (by cases h), fun h => absurd h pQ⟩).mono ?_
            rintro e z1 ⟨rfl, f1⟩
            replace d0 := fresh_cell f1 d0; replace d1 := fresh_cell f1 d1; replace d2 := fresh_cell f1 d2; replace d3 := fresh_cell f1 d3; replace d4 := fresh_cell f1 d4; replace d5 := fresh_cell f1 d5; replace d6 := fresh_cell f1 d6; replace d7 := fresh_cell f1 d7; replace c13 := fresh_cell f1 c13; replace c11 := fresh_cell f1 c11
            go_wp2
            go_ret
            exact ⟨ret_bool HY.out.symm, fresh_trans HF3.out (fresh_trans (fresh_trans (hC) f0) f1)⟩
          replace pQ := Classical.not_not.1 pQ
          by_cases pF : ¬ x.F.gains x.W
          · have HY := HF _ (fun h => h.F) pF
            go_wp2_with fail
            refine (fitsT (HX3.out.E.fresh hC) x.V x.W x.H x.K x.L x.D x.N x.M true ⟨fun _ => pE, fun _ => rfl⟩).mono ?_
            rintro e z0 ⟨rfl, f0⟩
            replace s0 := fresh_cell f0 s0; replace s1 := fresh_cell f0 s1; replace d0 := fresh_cell f0 d0; replace d1 := fresh_cell f0 d1; replace d2 := fresh_cell f0 d2; replace d3 := fresh_cell f0 d3; replace d4 := fresh_cell f0 d4; replace d5 := fresh_cell f0 d5; replace d6 := fresh_cell f0 d6; replace d7 := fresh_cell f0 d7; replace c14 := fresh_cell f0 c14; replace c15 := fresh_cell f0 c15; replace c16 := fresh_cell f0 c16; replace c13 := fresh_cell f0 c13; replace c11 := fresh_cell f0 c11
            go_wp2_with fail
            refine (fitsT (HX3.out.Q.fresh (fresh_trans hC f0)) x.V x.W x.H x.K x.L x.D x.N x.M true ⟨fun _ => pQ, fun _ => rfl⟩).mono ?_
            rintro e z1 ⟨rfl, f1⟩
            replace d0 := fresh_cell f1 d0; replace d1 := fresh_cell f1 d1; replace d2 := fresh_cell f1 d2; replace d3 := fresh_cell f1 d3; replace d4 := fresh_cell f1 d4; replace d5 := fresh_cell f1 d5; replace d6 := fresh_cell f1 d6; replace d7 := fresh_cell f1 d7; replace c13 := fresh_cell f1 c13; replace c11 := fresh_cell f1 c11
            go_wp2_with fail
            refine (gainsFit_any x.V x.W x.H x.K x.L x.D x.N x.M (HX3.out.F.fresh (fresh_trans (fresh_trans hC f0) f1)).rd mW.1 false ⟨fun h => (by cases h), fun h => absurd h pF⟩).mono ?_
            rintro e z2 ⟨rfl, f2⟩
            replace d0 := fresh_cell f2 d0; replace d1 := fresh_cell f2 d1; replace d2 := fresh_cell f2 d2; replace d3 := fresh_cell f2 d3; replace d4 := fresh_cell f2 d4; replace d5 := fresh_cell f2 d5; replace d6 := fresh_cell f2 d6; replace d7 := fresh_cell f2 d7; replace c11 := fresh_cell f2 c11
            go_wp2
            go_ret
            exact ⟨ret_bool HY.out.symm, fresh_trans HF3.out (fresh_trans (fresh_trans (fresh_trans (hC) f0) f1) f2)⟩
          replace pF := Classical.not_not.1 pF
          by_cases pT : ¬ TnP x.tn x.tC x.tS (x.W / x.H / 2)
          · have HY := HF _ (fun h => h.T) pT
            go_wp2_with fail
            refine (fitsT (HX3.out.E.fresh hC) x.V x.W x.H x.K x.L x.D x.N x.M true ⟨fun _ => pE, fun _ => rfl⟩).mono ?_
            rintro e z0 ⟨rfl, f0⟩
            replace s0 := fresh_cell f0 s0; replace s1 := fresh_cell f0 s1; replace d0 := fresh_cell f0 d0; replace d1 := fresh_cell f0 d1; replace d2 := fresh_cell f0 d2; replace d3 := fresh_cell f0 d3; replace d4 := fresh_cell f0 d4; replace d5 := fresh_cell f0 d5; replace d6 := fresh_cell f0 d6; replace d7 := fresh_cell f0 d7; replace c14 := fresh_cell f0 c14; replace c15 := fresh_cell f0 c15; replace c16 := fresh_cell f0 c16; replace c13 := fresh_cell f0 c13; replace c11 := fresh_cell f0 c11
            go_wp2_with fail
            refine (fitsT (HX3.out.Q.fresh (fresh_trans hC f0)) x.V x.W x.H x.K x.L x.D x.N x.M true ⟨fun _ => pQ, fun _ => rfl⟩).mono ?_
            rintro e z1 ⟨rfl, f1⟩
            replace d0 := fresh_cell f1 d0; replace d1 := fresh_cell f1 d1; replace d2 := fresh_cell f1 d2; replace d3 := fresh_cell f1 d3; replace d4 := fresh_cell f1 d4; replace d5 := fresh_cell f1 d5; replace d6 := fresh_cell f1 d6; replace d7 := fresh_cell f1 d7; replace c13 := fresh_cell f1 c13; replace c11 := fresh_cell f1 c11
            go_wp2_with fail
            refine (gainsFit_any x.V x.W x.H x.K x.L x.D x.N x.M (HX3.out.F.fresh (fresh_trans (fresh_trans hC f0) f1)).rd mW.1 true ⟨fun _ => pF, fun _ => rfl⟩).mono ?_
            rintro e z2 ⟨rfl, f2⟩
            replace d0 := fresh_cell f2 d0; replace d1 := fresh_cell f2 d1; replace d2 := fresh_cell f2 d2; replace d3 := fresh_cell f2 d3; replace d4 := fresh_cell f2 d4; replace d5 := fresh_cell f2 d5; replace d6 := fresh_cell f2 d6; replace d7 := fresh_cell f2 d7; replace c11 := fresh_cell f2 c11
            go_wp2_with fail
            refine (turnsFit_any x.V x.W x.H x.K x.L x.D x.N x.M mH.1 mH.2 mW.1 mW.2 (HX3.out.T.fresh (fresh_trans (fresh_trans (fresh_trans hC f0) f1) f2)) false ⟨fun h => (by cases h), fun h => absurd h pT⟩).mono ?_
            rintro e z3 ⟨rfl, f3⟩
            go_wp2
            go_ret
            exact ⟨ret_bool HY.out.symm, fresh_trans HF3.out (fresh_trans (fresh_trans (fresh_trans (fresh_trans (hC) f0) f1) f2) f3)⟩
          replace pT := Classical.not_not.1 pT
          have HY : Hid (b = true) := HB.out.2 ⟨pE, pQ, pF, pT, HYN.out, HMN.out, HY1.out, HM1.out⟩
          go_wp2_with fail
          refine (fitsT (HX3.out.E.fresh hC) x.V x.W x.H x.K x.L x.D x.N x.M true ⟨fun _ => pE, fun _ => rfl⟩).mono ?_
          rintro e z0 ⟨rfl, f0⟩
          replace s0 := fresh_cell f0 s0; replace s1 := fresh_cell f0 s1; replace d0 := fresh_cell f0 d0; replace d1 := fresh_cell f0 d1; replace d2 := fresh_cell f0 d2; replace d3 := fresh_cell f0 d3; replace d4 := fresh_cell f0 d4; replace d5 := fresh_cell f0 d5; replace d6 := fresh_cell f0 d6; replace d7 := fresh_cell f0 d7; replace c14 := fresh_cell f0 c14; replace c15 := fresh_cell f0 c15; replace c16 := fresh_cell f0 c16; replace c13 := fresh_cell f0 c13; replace c11 := fresh_cell f0 c11
          go_wp2_with fail
          refine (fitsT (HX3.out.Q.fresh (fresh_trans hC f0)) x.V x.W x.H x.K x.L x.D x.N x.M true ⟨fun _ => pQ, fun _ => rfl⟩).mono ?_
          rintro e z1 ⟨rfl, f1⟩
          replace d0 := fresh_cell f1 d0; replace d1 := fresh_cell f1 d1; replace d2 := fresh_cell f1 d2; replace d3 := fresh_cell f1 d3; replace d4 := fresh_cell f1 d4; replace d5 := fresh_cell f1 d5; replace d6 := fresh_cell f1 d6; replace d7 := fresh_cell f1 d7; replace c13 := fresh_cell f1 c13; replace c11 := fresh_cell f1 c11
          go_wp2_with fail
          refine (gainsFit_any x.V x.W x.H x.K x.L x.D x.N x.M (HX3.out.F.fresh (fresh_trans (fresh_trans hC f0) f1)).rd mW.1 true ⟨fun _ => pF, fun _ => rfl⟩).mono ?_
          rintro e z2 ⟨rfl, f2⟩
          replace d0 := fresh_cell f2 d0; replace d1 := fresh_cell f2 d1; replace d2 := fresh_cell f2 d2; replace d3 := fresh_cell f2 d3; replace d4 := fresh_cell f2 d4; replace d5 := fresh_cell f2 d5; replace d6 := fresh_cell f2 d6; replace d7 := fresh_cell f2 d7; replace c11 := fresh_cell f2 c11
          go_wp2_with fail
          refine (turnsFit_any x.V x.W x.H x.K x.L x.D x.N x.M mH.1 mH.2 mW.1 mW.2 (HX3.out.T.fresh (fresh_trans (fresh_trans (fresh_trans hC f0) f1) f2)) true ⟨fun _ => pT, fun _ => rfl⟩).mono ?_
          rintro e z3 ⟨rfl, f3⟩
          go_wp2
          go_ret
          exact ⟨ret_bool HY.out.symm, fresh_trans HF3.out (fresh_trans (fresh_trans (fresh_trans (fresh_trans (hC) f0) f1) f2) f3)⟩
end Go.Proofs.Ytilghknalbhacaa
namespace Go.Proofs.Ytilghknalbhacaa
open Go.RowKit
/-! Check. -/
set_option maxRecDepth 20000 in
set_option maxHeartbeats 4000000 in
theorem check_any {w : World} {x : WtD} (hx : WtR w x) (er : Int) (he : IsE x er) :
    Calls Try.prog 22 #[.agg #[.int .i64 x.V, .int .i64 x.W, .int .i64 x.H, .int .i64 x.K, .int .i64 x.L, .int .i64 x.D, .int .i64 x.N, .int .i64 x.M, .int .i64 x.E.R, .int .i64 x.E.C, .slice x.E.O x.E.n x.E.c, .slice x.tO x.tn x.tc, .slice x.yO x.yn x.yc, .slice x.F.O x.F.n x.F.c, .int .i64 x.Q.R, .int .i64 x.Q.C, .slice x.Q.O x.Q.n x.Q.c, .slice x.mO x.mn x.mc]] w fun e w' => e = .returned (.int .i64 er) ∧ Below w.heap.size w w' := by
  have HX := hidd hx
  have HE := hidd he
  have hF := fresh_alloc w (.cells #[.int .i64 x.V, .int .i64 x.W, .int .i64 x.H, .int .i64 x.K, .int .i64 x.L, .int .i64 x.D, .int .i64 x.N, .int .i64 x.M, .int .i64 x.E.R, .int .i64 x.E.C, .slice x.E.O x.E.n x.E.c, .slice x.tO x.tn x.tc, .slice x.yO x.yn x.yc, .slice x.F.O x.F.n x.F.c, .int .i64 x.Q.R, .int .i64 x.Q.C, .slice x.Q.O x.Q.n x.Q.c, .slice x.mO x.mn x.mc] 34)
  have hG := heap_new w (.cells #[.int .i64 x.V, .int .i64 x.W, .int .i64 x.H, .int .i64 x.K, .int .i64 x.L, .int .i64 x.D, .int .i64 x.N, .int .i64 x.M, .int .i64 x.E.R, .int .i64 x.E.C, .slice x.E.O x.E.n x.E.c, .slice x.tO x.tn x.tc, .slice x.yO x.yn x.yc, .slice x.F.O x.F.n x.F.c, .int .i64 x.Q.R, .int .i64 x.Q.C, .slice x.Q.O x.Q.n x.Q.c, .slice x.mO x.mn x.mc] 34)
  clear hx he
  go_enter Try.func22, Try.ntmps22
  go_wp2_with fail
  have HF := hidd hF
  have HG := hidd hG
  clear hF hG
  generalize w.alloc (.cells #[.int .i64 x.V, .int .i64 x.W, .int .i64 x.H, .int .i64 x.K, .int .i64 x.L, .int .i64 x.D, .int .i64 x.N, .int .i64 x.M, .int .i64 x.E.R, .int .i64 x.E.C, .slice x.E.O x.E.n x.E.c, .slice x.tO x.tn x.tc, .slice x.yO x.yn x.yc, .slice x.F.O x.F.n x.F.c, .int .i64 x.Q.R, .int .i64 x.Q.C, .slice x.Q.O x.Q.n x.Q.c, .slice x.mO x.mn x.mc] 34) = w1 at *
  refine (config_any x.V x.W x.H x.K x.L x.D x.N x.M w1).mono ?_
  rintro e w2 ⟨rfl, h2⟩
  have CL := hidd (fun j => fresh_cells h2 HG.out j)
  have HF2 := hidd (fresh_trans HF.out h2)
  have HX2 := hidd (HX.out.fresh HF2.out)
  clear h2 HF HG HX
  rcases HE.out with ⟨hn, rfl⟩ | ⟨hm, hp, rfl⟩ | ⟨hm, hp, rfl⟩
  · rw [mayE_no hn]
    clear hn HE
    go_wp2
    go_ret
    exact ⟨rfl, HF2.out⟩
  · rw [mayE_ok hm]
    have c0 := CL.out 0
    have c1 := CL.out 1
    have c2 := CL.out 2
    have c3 := CL.out 3
    have c4 := CL.out 4
    have c5 := CL.out 5
    have c6 := CL.out 6
    have c7 := CL.out 7
    have c8 := CL.out 8
    have c9 := CL.out 9
    have c10 := CL.out 10
    have c11 := CL.out 11
    have c12 := CL.out 12
    have c13 := CL.out 13
    have c14 := CL.out 14
    have c15 := CL.out 15
    have c16 := CL.out 16
    have c17 := CL.out 17
    go_wp2_with fail
    refine (fit_any HX2.out hm false ⟨fun h => (by cases h), fun h => absurd h hp⟩).mono ?_
    rintro e w3 ⟨rfl, h3⟩
    clear c0 c1 c2 c3 c4 c5 c6 c7 c8 c9 c10 c11 c12 c13 c14 c15 c16 c17 hm hp HE
    go_wp2
    go_ret
    exact ⟨rfl, fresh_trans HF2.out h3⟩
  · rw [mayE_ok hm]
    have c0 := CL.out 0
    have c1 := CL.out 1
    have c2 := CL.out 2
    have c3 := CL.out 3
    have c4 := CL.out 4
    have c5 := CL.out 5
    have c6 := CL.out 6
    have c7 := CL.out 7
    have c8 := CL.out 8
    have c9 := CL.out 9
    have c10 := CL.out 10
    have c11 := CL.out 11
    have c12 := CL.out 12
    have c13 := CL.out 13
    have c14 := CL.out 14
    have c15 := CL.out 15
    have c16 := CL.out 16
    have c17 := CL.out 17
    go_wp2_with fail
    refine (fit_any HX2.out hm true ⟨fun _ => hp, fun _ => rfl⟩).mono ?_
    rintro e w3 ⟨rfl, h3⟩
    clear c0 c1 c2 c3 c4 c5 c6 c7 c8 c9 c10 c11 c12 c13 c14 c15 c16 c17 hm hp HE
    go_wp2
    go_ret
    exact ⟨rfl, fresh_trans HF2.out h3⟩
end Go.Proofs.Ytilghknalbhacaa
