import Derived.ChangeKeysEq
import Derived.Laws.StructEq
import Derived.Test.YtmhjpfjhppcfoaaGreatDoorLfA
import Derived.BigQuiet
namespace Go.Proofs.YtmhjpfjhppcfoaaGreatDoor
open Go.RowKit
/-! Two lists of shifts held against each other. -/
theorem sh7_part0 (s : Nat → Int) (w : World) : (part 3 (sh7 s) 0).run Tryz.prog w = .ok (.int .i64 (s 0)) w := by kernel_rfl
theorem sh7_part1 (s : Nat → Int) (w : World) : (part 3 (sh7 s) 1).run Tryz.prog w = .ok (.int .i64 (s 1)) w := by kernel_rfl
theorem sh7_part2 (s : Nat → Int) (w : World) : (part 3 (sh7 s) 2).run Tryz.prog w = .ok (.int .i64 (s 2)) w := by kernel_rfl
theorem sh7_part3 (s : Nat → Int) (w : World) : (part 3 (sh7 s) 3).run Tryz.prog w = .ok (.int .i64 (s 3)) w := by kernel_rfl
theorem sh7_part4 (s : Nat → Int) (w : World) : (part 3 (sh7 s) 4).run Tryz.prog w = .ok (.int .i64 (s 4)) w := by kernel_rfl
theorem sh7_part5 (s : Nat → Int) (w : World) : (part 3 (sh7 s) 5).run Tryz.prog w = .ok (.int .i64 (s 5)) w := by kernel_rfl
theorem sh7_part6 (s : Nat → Int) (w : World) : (part 3 (sh7 s) 6).run Tryz.prog w = .ok (.int .i64 (s 6)) w := by kernel_rfl
theorem sh7_part (s : Nat → Int) (w : World) : ∀ (i : Nat), i < 7 → (part 3 (sh7 s) (i * 1)).run Tryz.prog w = .ok (.int .i64 (s i)) w
  | 0, _ => sh7_part0 s w
  | 1, _ => sh7_part1 s w
  | 2, _ => sh7_part2 s w
  | 3, _ => sh7_part3 s w
  | 4, _ => sh7_part4 s w
  | 5, _ => sh7_part5 s w
  | 6, _ => sh7_part6 s w
theorem cellsInt : Tryz.prog.cellsOf 3 = 1 := by kernel_rfl
theorem items7 (a b : Nat → Int) (w : World) : ∀ (is : List Nat), (∀ i ∈ is, i < 7) → (Op.eqItems 9999 3 1 (sh7 a) (sh7 b) is).run Tryz.prog w = .ok (decide (∀ i ∈ is, a i = b i)) w
  | [], _ => by simp [Op.eqItems]
  | i :: is, h => by
    have h1 := sh7_part a w i (h i (by simp))
    have h2 := sh7_part b w i (h i (by simp))
    have h3 := run_equalIn_int w 9998 3 .i64 .i64 (a i) (b i) Tryz.underlying3
    simp only [Op.eqItems, Sem.run_bind, h1, h2, h3, Result.andThen_ok]
    by_cases e : a i = b i
    · have e1 : (a i == b i) = true := by simp [e]
      rw [e1]
      simp only [Bool.not_true, Bool.false_eq_true, if_false]
      rw [items7 a b w is (fun j hj => h j (by simp [hj]))]
      simp [e]
    · have e1 : (a i == b i) = false := by simp [e]
      rw [e1]
      simp [e]
theorem eql7 (a b : Nat → Int) (r : Bool) (hr : r = true ↔ ∀ i, i < 7 → a i = b i) (w : World) : (Op.equalIn 10000 203 (.agg (sh7 a)) (.agg (sh7 b))).run Tryz.prog w = .ok r w := by
  obtain ⟨inf, hinf⟩ : ∃ inf, Tryz.prog.info? 3 = some inf := by
    have := infoI
    cases h : Tryz.prog.info? 3 with
    | none => rw [h] at this; cases this
    | some x => exact ⟨x, rfl⟩
  have h1 := run_equalIn_array w 9999 (sh7 a) (sh7 b) Tryz.underlying203 hinf
  have h2 := items7 a b w (List.range 7) (fun i hi => List.mem_range.1 hi)
  rw [cellsInt, h2] at h1
  have h3 : decide (∀ i ∈ List.range 7, a i = b i) = r := by
    cases hh : r with
    | true => simp only [decide_eq_true_eq]; intro i hi; exact hr.1 hh i (List.mem_range.1 hi)
    | false =>
      simp only [decide_eq_false_iff_not]
      intro h
      have := hr.2 (fun i hi => h i (List.mem_range.2 hi))
      rw [hh] at this
      cases this
  rw [h3] at h1
  exact h1
end Go.Proofs.YtmhjpfjhppcfoaaGreatDoor
namespace Go.Proofs.YtmhjpfjhppcfoaaGreatDoor
open Go.RowKit
/-! layerFits. -/
theorem isI_all {l : LyD} {W kv D : Int} (h : LyP l W kv D) : ∀ i, i < 7 → isI l W kv D i
  | 0, _ => h.q
  | 1, _ => h.k
  | 2, _ => h.v
  | 3, _ => h.o
  | 4, _ => h.g
  | 5, _ => h.u
  | 6, _ => h.d
theorem isI_mk {l : LyD} {W kv D : Int} (h : ∀ i, i < 7 → isI l W kv D i) (h1 : l.n1.gains W) (h2 : l.n2.gains W) (h3 : ∀ i, i < 7 → 0 ≤ l.sh i ∧ l.sh i ≤ 24) : LyP l W kv D :=
  ⟨h1, h2, h 0 (by decide), h 3 (by decide), h 1 (by decide), h 2 (by decide), h 4 (by decide), h 5 (by decide), h 6 (by decide), h3⟩
set_option maxRecDepth 20000 in
set_option maxHeartbeats 4000000 in
theorem layerFits_any {w : World} {l : LyD} (hl : LyR w l) (V W H K L D N M : Int) (kv : Int) (hH : 1 ≤ H) (hH4 : H ≤ 4) (hW : 2 ≤ W) (hW2 : W ≤ 32) (hkv : K * (W / H) = kv) (kv0 : 0 ≤ kv) (kv1 : kv ≤ 128) (b : Bool) (hb : b = true ↔ LyP l W kv D) :
    Calls Tryz.prog 235 #[.agg #[.int .i64 V, .int .i64 W, .int .i64 H, .int .i64 K, .int .i64 L, .int .i64 D, .int .i64 N, .int .i64 M], .agg (lyL l).toArray] w fun e w' => e = .returned (.bool b) ∧ Below w.heap.size w w' := by
  have HL := hidd hl
  have HB := hidd hb
  have HF : ∀ P : Prop, (LyP l W kv D → P) → ¬ P → Hid (b = false) := fun P h1 h2 => by
    show b = false
    cases hbb : b with
    | false => rfl
    | true => exact absurd (h1 (HB.out.1 hbb)) h2
  clear hl hb
  obtain ⟨tl, htl⟩ : ∃ tl, tl = (lyL l).toArray := ⟨_, rfl⟩
  rw [← htl]
  have HTL := hidd htl
  clear htl
  go_enter Tryz.func235, Tryz.ntmps235
  go_wp2_with fail
  have HF1 := hidd (fresh_trans (fresh_alloc w (.cells #[.int .i64 V, .int .i64 W, .int .i64 H, .int .i64 K, .int .i64 L, .int .i64 D, .int .i64 N, .int .i64 M] 23)) (fresh_alloc _ (.cells tl 205)))
  have HG0 := hidd (heap_old w (.cells #[.int .i64 V, .int .i64 W, .int .i64 H, .int .i64 K, .int .i64 L, .int .i64 D, .int .i64 N, .int .i64 M] 23) (.cells tl 205))
  have HG1 := hidd (heap_new2 w (.cells #[.int .i64 V, .int .i64 W, .int .i64 H, .int .i64 K, .int .i64 L, .int .i64 D, .int .i64 N, .int .i64 M] 23) (.cells tl 205))
  have hs1 : ((w.alloc (.cells #[.int .i64 V, .int .i64 W, .int .i64 H, .int .i64 K, .int .i64 L, .int .i64 D, .int .i64 N, .int .i64 M] 23)).alloc (.cells tl 205)).heap.size = w.heap.size + 1 + 1 := by simp
  have HS1 := hidd hs1
  clear hs1
  generalize (w.alloc (.cells #[.int .i64 V, .int .i64 W, .int .i64 H, .int .i64 K, .int .i64 L, .int .i64 D, .int .i64 N, .int .i64 M] 23)).alloc (.cells tl 205) = w1 at *
  refine (shapes_any w1).mono ?_
  rintro e w2 ⟨rfl, h2⟩
  have H2 := hidd h2
  clear h2
  go_wp2_with (first | refine wpList_store_row rfl 372 _ _ rfl w2.heap.size tab8 rfl rfl 372 _ (heap_new _ _) size8 rfl (by kernel_rfl) ?_ | fail)
  rw [World.setRow_alloc_new]
  have HF3 := hidd (fresh_trans (fresh_trans HF1.out H2.out) (fresh_alloc w2 (.cells tab8 372)))
  have H23 := hidd (fresh_trans H2.out (fresh_alloc w2 (.cells tab8 372)))
  have HT3 := hidd (heap_new w2 (.cells tab8 372))
  have HS3 : Hid ((w2.alloc (.cells tab8 372)).heap.size = w2.heap.size + 1) := by show (w2.alloc (.cells tab8 372)).heap.size = w2.heap.size + 1; simp
  have HS2 : Hid (w.heap.size + 2 ≤ w2.heap.size) := by show w.heap.size + 2 ≤ w2.heap.size; have := HS1.out; have := H2.out.size; omega
  generalize w2.alloc (.cells tab8 372) = w3 at *
  refine (matsOf_any w3 (w.heap.size + 1) 0).mono ?_
  rintro e w4 ⟨rfl, h4⟩
  have H14 := hidd (fresh_trans H23.out h4)
  have HF4 := hidd (fresh_trans HF3.out h4)
  have HL4 := hidd (HL.out.fresh HF4.out)
  have HT4 : Hid (w4.heap[w2.heap.size]? = some (.cells tab8 372)) := by show w4.heap[w2.heap.size]? = _; rw [h4.block _ (by have := HS3.out; omega)]; exact HT3.out
  have HC4 : Hid (LyC w4 (w.heap.size + 1) 0 l) := by
    refine lyC_heap (t := 205) (fr := (0, 0)) ?_
    rw [H14.out.block _ (by have := HS1.out; omega), HG1.out, HTL.out]
  have HG4 : Hid (w4.heap[w.heap.size]? = some (.cells #[.int .i64 V, .int .i64 W, .int .i64 H, .int .i64 K, .int .i64 L, .int .i64 D, .int .i64 N, .int .i64 M] 23)) := by show w4.heap[w.heap.size]? = _; rw [H14.out.block _ (by have := HS1.out; omega)]; exact HG0.out
  have CL := hidd (fun j => cell_heap HG4.out j)
  have S4 : Hid (w.heap.size ≤ w4.heap.size) := HF4.out.size
  clear h4 HF3 H23 HT3 HF1 HG0 HG1 H2 HL H14 HG4 HS1
  generalize w2.heap.size = g2 at *
  have hC : Below w4.heap.size w4 w4 := Below.refl _ _
  have AT := hidd (pm7_at (w.heap.size + 1) 0)
  generalize pm7 (w.heap.size + 1) 0 = pm at *
  have TA := hidd (tab8_at HT4.out)
  clear HT4
  generalize tab8 = t8 at *
  go_wp2_with fail
  go_loopw [10] (fun i wr => ∃ k : Nat, k ≤ 7 ∧ i = .int .i64 k ∧ Hid (∀ j, j < k → isI l W kv D j) ∧ Below w4.heap.size w4 wr) (fun i _ => 7 - (intOf i).toNat)
  case atStart => exact ⟨0, by omega, rfl, fun j hj => absurd hj (by omega), hC⟩
  case round =>
    clear hC
    obtain ⟨k, hk, rfl, HK, hC⟩ := hrel
    by_cases hlt : k < 7
    · have hi := AT.out k hlt
      obtain ⟨a0, a1⟩ := TA.out k hlt
      obtain ⟨m0, m1, m2⟩ := HC4.out.mat k hlt
      replace a0 := fresh_cell hC a0; replace a1 := fresh_cell hC a1; replace m0 := fresh_cell hC m0; replace m1 := fresh_cell hC m1; replace m2 := fresh_cell hC m2
      have d0 := fresh_cell hC (CL.out 0)
      have d1 := fresh_cell hC (CL.out 1)
      have d2 := fresh_cell hC (CL.out 2)
      have d3 := fresh_cell hC (CL.out 3)
      have d4 := fresh_cell hC (CL.out 4)
      have d5 := fresh_cell hC (CL.out 5)
      have d6 := fresh_cell hC (CL.out 6)
      have d7 := fresh_cell hC (CL.out 7)
      have i1 : (0 : Int) ≤ (k : Int) := Int.natCast_nonneg _
      have i2 : (k : Int) < 7 := by omega
      have i3 : (k : Int) < 8 := by omega
      by_cases p : isI l W kv D k
      · have HK' : Hid (∀ j, j < k + 1 → isI l W kv D j) := fun j hj => by
          by_cases e : j = k
          · rw [e]; exact p
          · exact HK.out j (by omega)
        go_wp2_with fail
        replace a0 := later_cell a0; replace a1 := later_cell a1; replace m0 := later_cell m0; replace m1 := later_cell m1; replace m2 := later_cell m2; replace d0 := later_cell d0; replace d1 := later_cell d1; replace d2 := later_cell d2; replace d3 := later_cell d3; replace d4 := later_cell d4; replace d5 := later_cell d5; replace d6 := later_cell d6; replace d7 := later_cell d7
        have ne := later_some wr
        refine wp_region_later (by kernel_rfl) (by kernel_rfl) ?_
        repeat (go_big_quiet_step (fail))
        go_big_quiet_step (exact later_of (fits_at (HL4.out.fresh (fresh_trans hC (Later.fresh _))) V W H K L D N M kv hH hH4 hW hW2 hkv kv0 kv1 k hlt true ⟨fun _ => p, fun _ => rfl⟩))
        repeat (go_big_quiet_step (fail))
        refine wpQuiet_nil ?_
        rintro _ ⟨z, rfl⟩
        have hz := z.fresh
        clear ne a0 a1 m0 m1 m2 d0 d1 d2 d3 d4 d5 d6 d7 hi
        generalize z.val = wz at *
        clear z
        go_wp2_with fail
        go_roundw
        case rel => exact ⟨k + 1, by omega, by go_num, HK', fresh_trans hC hz⟩
        case measure => simp [intOf]; omega
      · have HY := HF _ (fun h => isI_all h k hlt) p
        go_wp2_with fail
        replace a0 := later_cell a0; replace a1 := later_cell a1; replace m0 := later_cell m0; replace m1 := later_cell m1; replace m2 := later_cell m2; replace d0 := later_cell d0; replace d1 := later_cell d1; replace d2 := later_cell d2; replace d3 := later_cell d3; replace d4 := later_cell d4; replace d5 := later_cell d5; replace d6 := later_cell d6; replace d7 := later_cell d7
        have ne := later_some wr
        refine wp_region_later (by kernel_rfl) (by kernel_rfl) ?_
        repeat (go_big_quiet_step (fail))
        go_big_quiet_step (exact later_of (fits_at (HL4.out.fresh (fresh_trans hC (Later.fresh _))) V W H K L D N M kv hH hH4 hW hW2 hkv kv0 kv1 k hlt false ⟨fun h => (by cases h), fun h => absurd h p⟩))
        repeat (go_big_quiet_step (fail))
        refine wpQuiet_nil ?_
        rintro _ ⟨z, rfl⟩
        have hz := z.fresh
        go_wp2
        go_ret
        exact ⟨ret_bool HY.out.symm, fresh_trans HF4.out (fresh_trans hC hz)⟩
    · have e7 : k = 7 := by omega
      subst e7
      obtain ⟨y0, y1, y2, y3, y4, y5, y6, y7, y8, y9, y10, y11, y12, y13, y14, y15, y16, y17, y18, y19, y20, y21, y22, y23, y24, y25, y26, y27, y28, y29⟩ := HC4.out
      clear y2 y3 y4 y5 y6 y7 y8 y9 y10 y11 y12 y13 y14 y15 y16 y17 y18 y19 y20 y21 y22
      replace y0 := fresh_cell hC y0; replace y1 := fresh_cell hC y1; replace y23 := fresh_cell hC y23; replace y24 := fresh_cell hC y24; replace y25 := fresh_cell hC y25; replace y26 := fresh_cell hC y26; replace y27 := fresh_cell hC y27; replace y28 := fresh_cell hC y28; replace y29 := fresh_cell hC y29
      have d0 := fresh_cell hC (CL.out 0)
      have d1 := fresh_cell hC (CL.out 1)
      have d2 := fresh_cell hC (CL.out 2)
      have d3 := fresh_cell hC (CL.out 3)
      have d4 := fresh_cell hC (CL.out 4)
      have d5 := fresh_cell hC (CL.out 5)
      have d6 := fresh_cell hC (CL.out 6)
      have d7 := fresh_cell hC (CL.out 7)
      have lat := HL4.out.fresh hC
      have HLT := hidd lat
      clear lat
      by_cases p1 : ¬ l.n1.gains W
      · have HY := HF _ (fun h => h.n1) p1
        go_wp2_with fail
        replace y0 := later_cell y0; replace y1 := later_cell y1; replace y23 := later_cell y23; replace y24 := later_cell y24; replace y25 := later_cell y25; replace y26 := later_cell y26; replace y27 := later_cell y27; replace y28 := later_cell y28; replace y29 := later_cell y29; replace d0 := later_cell d0; replace d1 := later_cell d1; replace d2 := later_cell d2; replace d3 := later_cell d3; replace d4 := later_cell d4; replace d5 := later_cell d5; replace d6 := later_cell d6; replace d7 := later_cell d7
        have ne := later_some wr
        refine wp_region_later (by kernel_rfl) (by kernel_rfl) ?_
        repeat (go_big_quiet_step (fail))
        go_big_quiet_step (exact later_of (gainsFit_any V W H K L D N M (HLT.out.fresh (Later.fresh _)).n1.rd hW false ⟨fun h => (by cases h), fun h => absurd h p1⟩))
        repeat (go_big_quiet_step (fail))
        refine wpQuiet_nil ?_
        rintro _ ⟨z, rfl⟩
        have hz := z.fresh
        go_wp2
        go_ret
        exact ⟨ret_bool HY.out.symm, fresh_trans HF4.out (fresh_trans hC hz)⟩
      replace p1 := Classical.not_not.1 p1
      by_cases p2 : ¬ l.n2.gains W
      · have HY := HF _ (fun h => h.n2) p2
        go_wp2_with fail
        replace y0 := later_cell y0; replace y1 := later_cell y1; replace y23 := later_cell y23; replace y24 := later_cell y24; replace y25 := later_cell y25; replace y26 := later_cell y26; replace y27 := later_cell y27; replace y28 := later_cell y28; replace y29 := later_cell y29; replace d0 := later_cell d0; replace d1 := later_cell d1; replace d2 := later_cell d2; replace d3 := later_cell d3; replace d4 := later_cell d4; replace d5 := later_cell d5; replace d6 := later_cell d6; replace d7 := later_cell d7
        have ne := later_some wr
        refine wp_region_later (by kernel_rfl) (by kernel_rfl) ?_
        repeat (go_big_quiet_step (fail))
        go_big_quiet_step (exact later_of (gainsFit_any V W H K L D N M (HLT.out.fresh (Later.fresh _)).n1.rd hW true ⟨fun _ => p1, fun _ => rfl⟩))
        repeat (go_big_quiet_step (fail))
        go_big_quiet_step (exact later_of (gainsFit_any V W H K L D N M (HLT.out.fresh (Later.fresh _)).n2.rd hW false ⟨fun h => (by cases h), fun h => absurd h p2⟩))
        repeat (go_big_quiet_step (fail))
        refine wpQuiet_nil ?_
        rintro _ ⟨z, rfl⟩
        have hz := z.fresh
        go_wp2
        go_ret
        exact ⟨ret_bool HY.out.symm, fresh_trans HF4.out (fresh_trans hC hz)⟩
      replace p2 := Classical.not_not.1 p2
      by_cases p3 : ∀ i, i < 7 → 0 ≤ l.sh i ∧ l.sh i ≤ 24
      · have eq := eql7 (fun j => ct (l.sh j)) l.sh true ⟨fun _ i hi => (ct_same _).2 (p3 i hi), fun _ => rfl⟩
        have HY : Hid (b = true) := HB.out.2 (isI_mk (fun i hi => HK.out i hi) p1 p2 p3)
        conv at eq => intro w; lhs; rw [show sh7 l.sh = #[.int .i64 (l.sh 0), .int .i64 (l.sh 1), .int .i64 (l.sh 2), .int .i64 (l.sh 3), .int .i64 (l.sh 4), .int .i64 (l.sh 5), .int .i64 (l.sh 6)] from rfl]
        go_wp2_with fail
        replace y0 := later_cell y0; replace y1 := later_cell y1; replace y23 := later_cell y23; replace y24 := later_cell y24; replace y25 := later_cell y25; replace y26 := later_cell y26; replace y27 := later_cell y27; replace y28 := later_cell y28; replace y29 := later_cell y29; replace d0 := later_cell d0; replace d1 := later_cell d1; replace d2 := later_cell d2; replace d3 := later_cell d3; replace d4 := later_cell d4; replace d5 := later_cell d5; replace d6 := later_cell d6; replace d7 := later_cell d7
        have ne := later_some wr
        refine wp_region_later (by kernel_rfl) (by kernel_rfl) ?_
        repeat (go_big_quiet_step (fail))
        go_big_quiet_step (exact later_of (gainsFit_any V W H K L D N M (HLT.out.fresh (Later.fresh _)).n1.rd hW true ⟨fun _ => p1, fun _ => rfl⟩))
        repeat (go_big_quiet_step (fail))
        go_big_quiet_step (exact later_of (gainsFit_any V W H K L D N M (HLT.out.fresh (Later.fresh _)).n2.rd hW true ⟨fun _ => p2, fun _ => rfl⟩))
        repeat (go_big_quiet_step (fail))
        go_big_quiet_step (exact later_of (cutShifts_any l.sh _))
        repeat (go_big_quiet_step (fail))
        refine wpQuiet_nil ?_
        rintro _ ⟨z, rfl⟩
        have hz := z.fresh
        go_wp2
        go_ret
        exact ⟨ret_bool HY.out.symm, fresh_trans HF4.out (fresh_trans hC hz)⟩
      · have eq := eql7 (fun j => ct (l.sh j)) l.sh false ⟨fun h => (by cases h), fun h => absurd (fun i hi => (ct_same _).1 (h i hi)) p3⟩
        have HY := HF _ (fun h => h.sh) p3
        conv at eq => intro w; lhs; rw [show sh7 l.sh = #[.int .i64 (l.sh 0), .int .i64 (l.sh 1), .int .i64 (l.sh 2), .int .i64 (l.sh 3), .int .i64 (l.sh 4), .int .i64 (l.sh 5), .int .i64 (l.sh 6)] from rfl]
        go_wp2_with fail
        replace y0 := later_cell y0; replace y1 := later_cell y1; replace y23 := later_cell y23; replace y24 := later_cell y24; replace y25 := later_cell y25; replace y26 := later_cell y26; replace y27 := later_cell y27; replace y28 := later_cell y28; replace y29 := later_cell y29; replace d0 := later_cell d0; replace d1 := later_cell d1; replace d2 := later_cell d2; replace d3 := later_cell d3; replace d4 := later_cell d4; replace d5 := later_cell d5; replace d6 := later_cell d6; replace d7 := later_cell d7
        have ne := later_some wr
        refine wp_region_later (by kernel_rfl) (by kernel_rfl) ?_
        repeat (go_big_quiet_step (fail))
        go_big_quiet_step (exact later_of (gainsFit_any V W H K L D N M (HLT.out.fresh (Later.fresh _)).n1.rd hW true ⟨fun _ => p1, fun _ => rfl⟩))
        repeat (go_big_quiet_step (fail))
        go_big_quiet_step (exact later_of (gainsFit_any V W H K L D N M (HLT.out.fresh (Later.fresh _)).n2.rd hW true ⟨fun _ => p2, fun _ => rfl⟩))
        repeat (go_big_quiet_step (fail))
        go_big_quiet_step (exact later_of (cutShifts_any l.sh _))
        repeat (go_big_quiet_step (fail))
        refine wpQuiet_nil ?_
        rintro _ ⟨z, rfl⟩
        have hz := z.fresh
        go_wp2
        go_ret
        exact ⟨ret_bool HY.out.symm, fresh_trans HF4.out (fresh_trans hC hz)⟩
end Go.Proofs.YtmhjpfjhppcfoaaGreatDoor
