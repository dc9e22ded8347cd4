import Derived.Test.YtmhjpfjhppcfoaaGreatDoorMK
namespace Go.Proofs.YtmhjpfjhppcfoaaGreatDoor
open Go.RowKit
/-! fit. -/
theorem tab_7 (w : World) : (Instr.index 372 (.agg tab8) (.int .i64 7)).run Tryz.prog w = .ok (.agg #[.func (.func 289) #[] #[], .func (.func 290) #[] #[]]) w := by kernel_rfl
theorem fresh_cells {w w' : World} (h : Below w.heap.size w w') {g : Nat} {cs : Array Value} {t : TypeId} {fr : Nat × Nat} (hg : w.heap[g]? = some (.cells cs t fr)) (j : Nat) : w'.cell? ⟨g, j, none⟩ = cs[j]? := by
  refine cell_heap (t := t) (fr := fr) ?_ j
  rw [h.block _ (Array.getElem?_eq_some_iff.1 hg).1, hg]
theorem lyL_one (l : LyD) : (lyL l).toArray.all (·.oneCell') = true := by kernel_rfl
theorem size2 : (Tryz.prog.info? 371).map (·.size) = some 2 := by kernel_rfl
set_option maxRecDepth 20000 in
set_option maxHeartbeats 8000000 in
theorem fit_any {w : World} {x : WtD} (hx : WtR w x) (hmay : x.may) (b : Bool) (hb : b = true ↔ WtP x) :
    Calls Tryz.prog 170 #[.agg #[.int .i64 x.V, .int .i64 x.W, .int .i64 x.H, .int .i64 x.K, .int .i64 x.L, .int .i64 x.D, .int .i64 x.N, .int .i64 x.M, .int .i64 x.E.R, .int .i64 x.E.C, .slice x.E.O x.E.n x.E.c, .slice x.tO x.tn x.tc, .slice x.yO x.yn x.yc, .slice x.F.O x.F.n x.F.c, .int .i64 x.Q.R, .int .i64 x.Q.C, .slice x.Q.O x.Q.n x.Q.c, .slice x.mO x.mn x.mc]] w fun e w' => e = .returned (.bool b) ∧ Below w.heap.size w w' := by
  have HX := hidd hx
  have HB := hidd hb
  have HF : ∀ P : Prop, (WtP x → P) → ¬ P → Hid (b = false) := fun P h1 h2 => by
    show b = false
    cases hbb : b with
    | false => rfl
    | true => exact absurd (h1 (HB.out.1 hbb)) h2
  obtain ⟨mV, mW, mH, _, mK, _, mL, mD, mN, mM⟩ := hmay
  have hkv := kv_bd (W := x.W) (H := x.H) (K := x.K) (by omega) (by omega) (by omega) (by omega) (by omega)
  have hF := fresh_trans (fresh_alloc w (.cells #[.int .i64 x.V, .int .i64 x.W, .int .i64 x.H, .int .i64 x.K, .int .i64 x.L, .int .i64 x.D, .int .i64 x.N, .int .i64 x.M, .int .i64 x.E.R, .int .i64 x.E.C, .slice x.E.O x.E.n x.E.c, .slice x.tO x.tn x.tc, .slice x.yO x.yn x.yc, .slice x.F.O x.F.n x.F.c, .int .i64 x.Q.R, .int .i64 x.Q.C, .slice x.Q.O x.Q.n x.Q.c, .slice x.mO x.mn x.mc] 31)) (fresh_alloc _ (.cells #[.int .i64 x.V, .int .i64 x.W, .int .i64 x.H, .int .i64 x.K, .int .i64 x.L, .int .i64 x.D, .int .i64 x.N, .int .i64 x.M] 23))
  clear hx hb
  by_cases hy : ¬ (x.yn : Int) = x.L
  · have ey : ((x.yn : Int) != x.L) = true := by simp [hy]
    have HY := HF _ (fun h => h.yn) hy
    clear hy
    go_enter Tryz.func170, Tryz.ntmps170
    go_wp2
    go_ret
    exact ⟨ret_bool HY.out.symm, hF⟩
  replace hy := Classical.not_not.1 hy
  have ey : ((x.yn : Int) != x.L) = false := by simp [hy]
  by_cases hm : ¬ (x.mn : Int) = x.M
  · have em : ((x.mn : Int) != x.M) = true := by simp [hm]
    have HY := HF _ (fun h => h.mn) hm
    clear hy hm
    go_enter Tryz.func170, Tryz.ntmps170
    go_wp2
    go_ret
    exact ⟨ret_bool HY.out.symm, hF⟩
  replace hm := Classical.not_not.1 hm
  have em : ((x.mn : Int) != x.M) = false := by simp [hm]
  have HYN := hidd hy
  have HMN := hidd hm
  clear hy hm
  go_enter Tryz.func170, Tryz.ntmps170
  go_wp2_with fail
  have G18 := heap_old w (.cells #[.int .i64 x.V, .int .i64 x.W, .int .i64 x.H, .int .i64 x.K, .int .i64 x.L, .int .i64 x.D, .int .i64 x.N, .int .i64 x.M, .int .i64 x.E.R, .int .i64 x.E.C, .slice x.E.O x.E.n x.E.c, .slice x.tO x.tn x.tc, .slice x.yO x.yn x.yc, .slice x.F.O x.F.n x.F.c, .int .i64 x.Q.R, .int .i64 x.Q.C, .slice x.Q.O x.Q.n x.Q.c, .slice x.mO x.mn x.mc] 31) (.cells #[.int .i64 x.V, .int .i64 x.W, .int .i64 x.H, .int .i64 x.K, .int .i64 x.L, .int .i64 x.D, .int .i64 x.N, .int .i64 x.M] 23)
  have G8 := heap_new2 w (.cells #[.int .i64 x.V, .int .i64 x.W, .int .i64 x.H, .int .i64 x.K, .int .i64 x.L, .int .i64 x.D, .int .i64 x.N, .int .i64 x.M, .int .i64 x.E.R, .int .i64 x.E.C, .slice x.E.O x.E.n x.E.c, .slice x.tO x.tn x.tc, .slice x.yO x.yn x.yc, .slice x.F.O x.F.n x.F.c, .int .i64 x.Q.R, .int .i64 x.Q.C, .slice x.Q.O x.Q.n x.Q.c, .slice x.mO x.mn x.mc] 31) (.cells #[.int .i64 x.V, .int .i64 x.W, .int .i64 x.H, .int .i64 x.K, .int .i64 x.L, .int .i64 x.D, .int .i64 x.N, .int .i64 x.M] 23)
  have HS1 : Hid (((w.alloc (.cells #[.int .i64 x.V, .int .i64 x.W, .int .i64 x.H, .int .i64 x.K, .int .i64 x.L, .int .i64 x.D, .int .i64 x.N, .int .i64 x.M, .int .i64 x.E.R, .int .i64 x.E.C, .slice x.E.O x.E.n x.E.c, .slice x.tO x.tn x.tc, .slice x.yO x.yn x.yc, .slice x.F.O x.F.n x.F.c, .int .i64 x.Q.R, .int .i64 x.Q.C, .slice x.Q.O x.Q.n x.Q.c, .slice x.mO x.mn x.mc] 31)).alloc (.cells #[.int .i64 x.V, .int .i64 x.W, .int .i64 x.H, .int .i64 x.K, .int .i64 x.L, .int .i64 x.D, .int .i64 x.N, .int .i64 x.M] 23)).heap.size = w.heap.size + 1 + 1) := by show _ = _; simp
  have HF1 := hidd hF
  have H18 := hidd G18
  have H8 := hidd G8
  clear G18 G8 hF ey em
  generalize ((w.alloc (.cells #[.int .i64 x.V, .int .i64 x.W, .int .i64 x.H, .int .i64 x.K, .int .i64 x.L, .int .i64 x.D, .int .i64 x.N, .int .i64 x.M, .int .i64 x.E.R, .int .i64 x.E.C, .slice x.E.O x.E.n x.E.c, .slice x.tO x.tn x.tc, .slice x.yO x.yn x.yc, .slice x.F.O x.F.n x.F.c, .int .i64 x.Q.R, .int .i64 x.Q.C, .slice x.Q.O x.Q.n x.Q.c, .slice x.mO x.mn x.mc] 31)).alloc (.cells #[.int .i64 x.V, .int .i64 x.W, .int .i64 x.H, .int .i64 x.K, .int .i64 x.L, .int .i64 x.D, .int .i64 x.N, .int .i64 x.M] 23)) = w1 at *
  refine (shapes_any w1).mono ?_
  rintro e w2 ⟨rfl, h2⟩
  have H2 := hidd h2
  have t7 := tab_7
  clear h2
  have H3 : Hid (Below w1.heap.size w1 ((w2.alloc (.cells #[.nilFunc, .nilFunc] 371)).setRow w2.heap.size #[.func (.func 289) #[] #[], .func (.func 290) #[] #[]])) := by show Below _ _ _; rw [World.setRow_alloc_new]; exact fresh_trans H2.out (fresh_alloc _ _)
  have c17 : ((w2.alloc (.cells #[.nilFunc, .nilFunc] 371)).setRow w2.heap.size #[.func (.func 289) #[] #[], .func (.func 290) #[] #[]]).cell? ⟨w.heap.size, 17, none⟩ = some (.slice x.mO x.mn x.mc) := fresh_cell H3.out (cell_heap H18.out 17)
  go_wp2_with (first | refine wpList_store_row rfl 371 _ _ rfl w2.heap.size #[.func (.func 289) #[] #[], .func (.func 290) #[] #[]] rfl rfl 371 _ (heap_new _ _) size2 rfl (by kernel_rfl) ?_ | fail)
  have T3 : Hid (((w2.alloc (.cells #[.nilFunc, .nilFunc] 371)).setRow w2.heap.size #[.func (.func 289) #[] #[], .func (.func 290) #[] #[]]).heap[w2.heap.size]? = some (.cells #[.func (.func 289) #[] #[], .func (.func 290) #[] #[]] 371)) := by show _ = _; rw [World.setRow_alloc_new]; exact heap_new _ _
  have HF3 := hidd (fresh_trans HF1.out H3.out)
  have HX3 := hidd (HX.out.fresh HF3.out)
  have WL := hidd (fun j => (fresh_cells H3.out H18.out j))
  have DL := hidd (fun j => (fresh_cells H3.out H8.out j))
  have TL := hidd (fun j => cell_heap T3.out j)
  clear c17 H3 H2 HF1 H18 H8 T3 t7 HX
  generalize ((w2.alloc (.cells #[.nilFunc, .nilFunc] 371)).setRow w2.heap.size #[.func (.func 289) #[] #[], .func (.func 290) #[] #[]]) = w3 at *
  generalize w2.heap.size = g2 at *
  have hC : Below w3.heap.size w3 w3 := Below.refl _ _
  go_loopw [30] (fun i wr => ∃ k : Nat, k ≤ x.mn ∧ i = .int .i64 k ∧ Hid (∀ j, j < k → (x.md j).isa x.V x.W) ∧ Below w3.heap.size w3 wr) (fun i _ => x.mn - (intOf i).toNat)
  case atStart => exact ⟨0, by omega, rfl, fun j hj => absurd hj (by omega), hC⟩
  case round =>
    clear hC
    obtain ⟨k, hk, rfl, HK, hC⟩ := hrel
    by_cases hlt : k < x.mn
    · obtain ⟨mb, mf, hmO, hmc⟩ := HX3.out.mat (by omega)
      obtain ⟨m0, m1, m2⟩ := hmc k hlt
      replace m0 := fresh_cell hC m0; replace m1 := fresh_cell hC m1; replace m2 := fresh_cell hC m2
      have e1 := hC
      have s0 := fresh_cell (fresh_trans hC (fresh_alloc wr (.cells #[.int .i64 (x.md k).R, .int .i64 (x.md k).C, .slice (x.md k).O (x.md k).n (x.md k).c] 26))) (TL.out 0)
      have s1 := fresh_cell (fresh_trans hC (fresh_alloc wr (.cells #[.int .i64 (x.md k).R, .int .i64 (x.md k).C, .slice (x.md k).O (x.md k).n (x.md k).c] 26))) (TL.out 1)
      have d0 := fresh_cell (fresh_trans hC (fresh_alloc wr (.cells #[.int .i64 (x.md k).R, .int .i64 (x.md k).C, .slice (x.md k).O (x.md k).n (x.md k).c] 26))) (DL.out 0)
      have d1 := fresh_cell (fresh_trans hC (fresh_alloc wr (.cells #[.int .i64 (x.md k).R, .int .i64 (x.md k).C, .slice (x.md k).O (x.md k).n (x.md k).c] 26))) (DL.out 1)
      have d2 := fresh_cell (fresh_trans hC (fresh_alloc wr (.cells #[.int .i64 (x.md k).R, .int .i64 (x.md k).C, .slice (x.md k).O (x.md k).n (x.md k).c] 26))) (DL.out 2)
      have d3 := fresh_cell (fresh_trans hC (fresh_alloc wr (.cells #[.int .i64 (x.md k).R, .int .i64 (x.md k).C, .slice (x.md k).O (x.md k).n (x.md k).c] 26))) (DL.out 3)
      have d4 := fresh_cell (fresh_trans hC (fresh_alloc wr (.cells #[.int .i64 (x.md k).R, .int .i64 (x.md k).C, .slice (x.md k).O (x.md k).n (x.md k).c] 26))) (DL.out 4)
      have d5 := fresh_cell (fresh_trans hC (fresh_alloc wr (.cells #[.int .i64 (x.md k).R, .int .i64 (x.md k).C, .slice (x.md k).O (x.md k).n (x.md k).c] 26))) (DL.out 5)
      have d6 := fresh_cell (fresh_trans hC (fresh_alloc wr (.cells #[.int .i64 (x.md k).R, .int .i64 (x.md k).C, .slice (x.md k).O (x.md k).n (x.md k).c] 26))) (DL.out 6)
      have d7 := fresh_cell (fresh_trans hC (fresh_alloc wr (.cells #[.int .i64 (x.md k).R, .int .i64 (x.md k).C, .slice (x.md k).O (x.md k).n (x.md k).c] 26))) (DL.out 7)
      have i1 : (0 : Int) ≤ (k : Int) := Int.natCast_nonneg _
      have i2 : (k : Int) < (x.mn : Int) := by omega
      have i5 : (k : Int) < 4 := by have := HMN.out; omega
      clear hmc e1
      by_cases p : (x.md k).isa x.V x.W
      · have HK' : Hid (∀ j, j < k + 1 → (x.md j).isa x.V x.W) := fun j hj => by
          by_cases e : j = k
          · rw [e]; exact p
          · exact HK.out j (by omega)
        go_wp2_with fail
        refine (fitsT ((HX3.out.mr k hlt).fresh (fresh_trans hC (fresh_alloc _ _))) x.V x.W x.H x.K x.L x.D x.N x.M true ⟨fun _ => p, fun _ => rfl⟩).mono ?_
        rintro e w5 ⟨rfl, h5⟩
        clear m0 m1 m2 s0 s1 d0 d1 d2 d3 d4 d5 d6 d7
        go_wp2_with fail
        rw [← hmO]
        go_roundw
        case rel => exact ⟨k + 1, by omega, by go_num, HK', fresh_trans (fresh_trans hC (fresh_alloc _ _)) h5⟩
        case measure => simp [intOf]; omega
      · have HY := HF _ (fun h => h.m k hlt) p
        go_wp2_with fail
        refine (fitsT ((HX3.out.mr k hlt).fresh (fresh_trans hC (fresh_alloc _ _))) x.V x.W x.H x.K x.L x.D x.N x.M false ⟨fun h => (by cases h), fun h => absurd h p⟩).mono ?_
        rintro e w5 ⟨rfl, h5⟩
        go_wp2
        go_ret
        exact ⟨ret_bool HY.out.symm, fresh_trans HF3.out (fresh_trans (fresh_trans hC (fresh_alloc _ _)) h5)⟩
    · have HM1 : Hid (∀ j, j < x.mn → (x.md j).isa x.V x.W) := fun j hj => HK.out j (by omega)
      have i3 : ¬ (k : Int) < (x.mn : Int) := by omega
      have c12 := fresh_cell hC (WL.out 12)
      go_wp2_with fail
      clear c12 i3 HK
      go_loopw [43] (fun i wr => ∃ k : Nat, k ≤ x.yn ∧ i = .int .i64 k ∧ Hid (∀ j, j < k → LyP (x.ly j) x.W (x.K * (x.W / x.H)) x.D) ∧ Below w3.heap.size w3 wr) (fun i _ => x.yn - (intOf i).toNat)
      case atStart => exact ⟨0, by omega, rfl, fun j hj => absurd hj (by omega), hC⟩
      case round =>
        clear hC
        obtain ⟨m, hm, rfl, HK, hC⟩ := hrel
        by_cases hlt : m < x.yn
        · obtain ⟨yb, yf, hyO, hyc⟩ := HX3.out.yat (by omega)
          have rg := ((hyc m hlt).fresh hC).range
          obtain ⟨tl, htl⟩ : ∃ tl, tl = (lyL (x.ly m)).toArray := ⟨_, rfl⟩
          have htl2 : lyL (x.ly m) = tl.toList := by rw [htl]
          rw [htl2] at rg
          have RG := hidd rg
          have SZ : Hid ((Tryz.prog.info? 205).map (·.size) = some tl.size) := by show _ = _; rw [sizeLy (x.ly m), htl]; rfl
          have SL : Hid ((Tryz.prog.info? 205).map (·.size) = some tl.toList.length) := by show _ = _; rw [SZ.out, Array.length_toList]
          have S30 : Hid (30 = tl.size) := by show _ = _; rw [htl]; rfl
          have ONE : Hid (tl.all (·.oneCell') = true) := by show _ = _; rw [htl]; exact lyL_one _
          have HW5 : Hid (((wr.alloc (.cells #[.slice none 0 0, .slice none 0 0, .int .i64 0, .int .i64 0, .slice none 0 0, .int .i64 0, .int .i64 0, .slice none 0 0, .int .i64 0, .int .i64 0, .slice none 0 0, .int .i64 0, .int .i64 0, .slice none 0 0, .int .i64 0, .int .i64 0, .slice none 0 0, .int .i64 0, .int .i64 0, .slice none 0 0, .int .i64 0, .int .i64 0, .slice none 0 0, .int .i64 0, .int .i64 0, .int .i64 0, .int .i64 0, .int .i64 0, .int .i64 0, .int .i64 0] 205)).setRow wr.heap.size tl).heap[wr.heap.size]? = some (.cells tl 205)) := by show _ = _; rw [World.setRow_alloc_new]; exact heap_new _ _
          have h5 : Below wr.heap.size wr ((wr.alloc (.cells #[.slice none 0 0, .slice none 0 0, .int .i64 0, .int .i64 0, .slice none 0 0, .int .i64 0, .int .i64 0, .slice none 0 0, .int .i64 0, .int .i64 0, .slice none 0 0, .int .i64 0, .int .i64 0, .slice none 0 0, .int .i64 0, .int .i64 0, .slice none 0 0, .int .i64 0, .int .i64 0, .slice none 0 0, .int .i64 0, .int .i64 0, .slice none 0 0, .int .i64 0, .int .i64 0, .int .i64 0, .int .i64 0, .int .i64 0, .int .i64 0, .int .i64 0] 205)).setRow wr.heap.size tl) := by rw [World.setRow_alloc_new]; exact fresh_alloc _ _
          have H5 := hidd (fresh_trans hC h5)
          clear rg hyc h5
          have d0 := fresh_cell H5.out (DL.out 0)
          have d1 := fresh_cell H5.out (DL.out 1)
          have d2 := fresh_cell H5.out (DL.out 2)
          have d3 := fresh_cell H5.out (DL.out 3)
          have d4 := fresh_cell H5.out (DL.out 4)
          have d5 := fresh_cell H5.out (DL.out 5)
          have d6 := fresh_cell H5.out (DL.out 6)
          have d7 := fresh_cell H5.out (DL.out 7)
          have i1 : (0 : Int) ≤ (m : Int) := Int.natCast_nonneg _
          have i2 : (m : Int) < (x.yn : Int) := by omega
          have i5 : (m : Int) < 4 := by have := HYN.out; omega
          have CT := hidd (layerFits_any ((HX3.out.yr m hlt).fresh H5.out) x.V x.W x.H x.K x.L x.D x.N x.M _ mH.1 mH.2 mW.1 mW.2 rfl hkv.1 hkv.2)
          rw [← htl] at CT
          clear htl htl2
          by_cases p : LyP (x.ly m) x.W (x.K * (x.W / x.H)) x.D
          · have HK' : Hid (∀ j, j < m + 1 → LyP (x.ly j) x.W (x.K * (x.W / x.H)) x.D) := fun j hj => by
              by_cases e : j = m
              · rw [e]; exact p
              · exact HK.out j (by omega)
            go_wp2_with (first
              | refine wpList_load_mid rfl 205 _ rfl yb (yf + m * 30) rfl tl.toList _ RG.out Tryz.underlying205 rfl SL.out ?_
              | refine wpList_store_row rfl 205 _ _ rfl wr.heap.size tl rfl rfl 205 _ (heap_new _ _) SZ.out S30.out ONE.out ?_
              | refine wpList_load_row rfl 205 _ rfl wr.heap.size rfl 205 _ (0, 0) _ HW5.out Tryz.underlying205 rfl SZ.out ?_
              | fail)
            refine (CT.out true ⟨fun _ => p, fun _ => rfl⟩).mono ?_
            rintro e w6 ⟨rfl, h6⟩
            clear d0 d1 d2 d3 d4 d5 d6 d7 CT RG SZ SL S30 ONE HW5
            go_wp2_with fail
            rw [← hyO]
            go_roundw
            case rel => exact ⟨m + 1, by omega, by go_num, HK', fresh_trans H5.out h6⟩
            case measure => simp [intOf]; omega
          · have HY := HF _ (fun h => h.y m hlt) p
            go_wp2_with (first
              | refine wpList_load_mid rfl 205 _ rfl yb (yf + m * 30) rfl tl.toList _ RG.out Tryz.underlying205 rfl SL.out ?_
              | refine wpList_store_row rfl 205 _ _ rfl wr.heap.size tl rfl rfl 205 _ (heap_new _ _) SZ.out S30.out ONE.out ?_
              | refine wpList_load_row rfl 205 _ rfl wr.heap.size rfl 205 _ (0, 0) _ HW5.out Tryz.underlying205 rfl SZ.out ?_
              | fail)
            refine (CT.out false ⟨fun h => (by cases h), fun h => absurd h p⟩).mono ?_
            rintro e w6 ⟨rfl, h6⟩
            go_wp2
            go_ret
            exact ⟨ret_bool HY.out.symm, fresh_trans HF3.out (fresh_trans H5.out h6)⟩
        · have HY1 : Hid (∀ j, j < x.yn → LyP (x.ly j) x.W (x.K * (x.W / x.H)) x.D) := fun j hj => HK.out j (by omega)
          have i3 : ¬ (m : Int) < (x.yn : Int) := by omega
          have s0 := fresh_cell hC (TL.out 0)
          have s1 := fresh_cell hC (TL.out 1)
          have d0 := fresh_cell hC (DL.out 0)
          have d1 := fresh_cell hC (DL.out 1)
          have d2 := fresh_cell hC (DL.out 2)
          have d3 := fresh_cell hC (DL.out 3)
          have d4 := fresh_cell hC (DL.out 4)
          have d5 := fresh_cell hC (DL.out 5)
          have d6 := fresh_cell hC (DL.out 6)
          have d7 := fresh_cell hC (DL.out 7)
          have c8 := fresh_cell hC (WL.out 8)
          have c9 := fresh_cell hC (WL.out 9)
          have c10 := fresh_cell hC (WL.out 10)
          have c11 := fresh_cell hC (WL.out 11)
          have c13 := fresh_cell hC (WL.out 13)
          have c14 := fresh_cell hC (WL.out 14)
          have c15 := fresh_cell hC (WL.out 15)
          have c16 := fresh_cell hC (WL.out 16)
          by_cases pE : ¬ x.E.isa x.V x.W
          · have HY := HF _ (fun h => h.E) pE
            go_wp2_with fail
            refine (fitsT (HX3.out.E.fresh hC) x.V x.W x.H x.K x.L x.D x.N x.M false ⟨fun h => (by cases h), fun h => absurd h pE⟩).mono ?_
            rintro e z0 ⟨rfl, f0⟩
            replace s0 := fresh_cell f0 s0; replace s1 := fresh_cell f0 s1; replace d0 := fresh_cell f0 d0; replace d1 := fresh_cell f0 d1; replace d2 := fresh_cell f0 d2; replace d3 := fresh_cell f0 d3; replace d4 := fresh_cell f0 d4; replace d5 := fresh_cell f0 d5; replace d6 := fresh_cell f0 d6; replace d7 := fresh_cell f0 d7; replace c14 := fresh_cell f0 c14; replace c15 := fresh_cell f0 c15; replace c16 := fresh_cell f0 c16; replace c13 := fresh_cell f0 c13; replace c11 := fresh_cell f0 c11
            go_wp2
            go_ret
            exact ⟨ret_bool HY.out.symm, fresh_trans HF3.out (fresh_trans (hC) f0)⟩
          replace pE := Classical.not_not.1 pE
          by_cases pQ : ¬ x.Q.isa x.V x.W
          · have HY := HF _ (fun h => h.Q) pQ
            go_wp2_with fail
            refine (fitsT (HX3.out.E.fresh hC) x.V x.W x.H x.K x.L x.D x.N x.M true ⟨fun _ => pE, fun _ => rfl⟩).mono ?_
            rintro e z0 ⟨rfl, f0⟩
            replace s0 := fresh_cell f0 s0; replace s1 := fresh_cell f0 s1; replace d0 := fresh_cell f0 d0; replace d1 := fresh_cell f0 d1; replace d2 := fresh_cell f0 d2; replace d3 := fresh_cell f0 d3; replace d4 := fresh_cell f0 d4; replace d5 := fresh_cell f0 d5; replace d6 := fresh_cell f0 d6; replace d7 := fresh_cell f0 d7; replace c14 := fresh_cell f0 c14; replace c15 := fresh_cell f0 c15; replace c16 := fresh_cell f0 c16; replace c13 := fresh_cell f0 c13; replace c11 := fresh_cell f0 c11
            go_wp2_with fail
            refine (fitsT (HX3.out.Q.fresh (fresh_trans hC f0)) x.V x.W x.H x.K x.L x.D x.N x.M false ⟨fun h => (by cases h), fun h => absurd h pQ⟩).mono ?_
            rintro e z1 ⟨rfl, f1⟩
            replace d0 := fresh_cell f1 d0; replace d1 := fresh_cell f1 d1; replace d2 := fresh_cell f1 d2; replace d3 := fresh_cell f1 d3; replace d4 := fresh_cell f1 d4; replace d5 := fresh_cell f1 d5; replace d6 := fresh_cell f1 d6; replace d7 := fresh_cell f1 d7; replace c13 := fresh_cell f1 c13; replace c11 := fresh_cell f1 c11
            go_wp2
            go_ret
            exact ⟨ret_bool HY.out.symm, fresh_trans HF3.out (fresh_trans (fresh_trans (hC) f0) f1)⟩
          replace pQ := Classical.not_not.1 pQ
          by_cases pF : ¬ x.F.gains x.W
          · have HY := HF _ (fun h => h.F) pF
            go_wp2_with fail
            refine (fitsT (HX3.out.E.fresh hC) x.V x.W x.H x.K x.L x.D x.N x.M true ⟨fun _ => pE, fun _ => rfl⟩).mono ?_
            rintro e z0 ⟨rfl, f0⟩
            replace s0 := fresh_cell f0 s0; replace s1 := fresh_cell f0 s1; replace d0 := fresh_cell f0 d0; replace d1 := fresh_cell f0 d1; replace d2 := fresh_cell f0 d2; replace d3 := fresh_cell f0 d3; replace d4 := fresh_cell f0 d4; replace d5 := fresh_cell f0 d5; replace d6 := fresh_cell f0 d6; replace d7 := fresh_cell f0 d7; replace c14 := fresh_cell f0 c14; replace c15 := fresh_cell f0 c15; replace c16 := fresh_cell f0 c16; replace c13 := fresh_cell f0 c13; replace c11 := fresh_cell f0 c11
            go_wp2_with fail
            refine (fitsT (HX3.out.Q.fresh (fresh_trans hC f0)) x.V x.W x.H x.K x.L x.D x.N x.M true ⟨fun _ => pQ, fun _ => rfl⟩).mono ?_
            rintro e z1 ⟨rfl, f1⟩
            replace d0 := fresh_cell f1 d0; replace d1 := fresh_cell f1 d1; replace d2 := fresh_cell f1 d2; replace d3 := fresh_cell f1 d3; replace d4 := fresh_cell f1 d4; replace d5 := fresh_cell f1 d5; replace d6 := fresh_cell f1 d6; replace d7 := fresh_cell f1 d7; replace c13 := fresh_cell f1 c13; replace c11 := fresh_cell f1 c11
            go_wp2_with fail
            refine (gainsFit_any x.V x.W x.H x.K x.L x.D x.N x.M (HX3.out.F.fresh (fresh_trans (fresh_trans hC f0) f1)).rd mW.1 false ⟨fun h => (by cases h), fun h => absurd h pF⟩).mono ?_
            rintro e z2 ⟨rfl, f2⟩
            replace d0 := fresh_cell f2 d0; replace d1 := fresh_cell f2 d1; replace d2 := fresh_cell f2 d2; replace d3 := fresh_cell f2 d3; replace d4 := fresh_cell f2 d4; replace d5 := fresh_cell f2 d5; replace d6 := fresh_cell f2 d6; replace d7 := fresh_cell f2 d7; replace c11 := fresh_cell f2 c11
            go_wp2
            go_ret
            exact ⟨ret_bool HY.out.symm, fresh_trans HF3.out (fresh_trans (fresh_trans (fresh_trans (hC) f0) f1) f2)⟩
          replace pF := Classical.not_not.1 pF
          by_cases pT : ¬ TnP x.tn x.tC x.tS (x.W / x.H / 2)
          · have HY := HF _ (fun h => h.T) pT
            go_wp2_with fail
            refine (fitsT (HX3.out.E.fresh hC) x.V x.W x.H x.K x.L x.D x.N x.M true ⟨fun _ => pE, fun _ => rfl⟩).mono ?_
            rintro e z0 ⟨rfl, f0⟩
            replace s0 := fresh_cell f0 s0; replace s1 := fresh_cell f0 s1; replace d0 := fresh_cell f0 d0; replace d1 := fresh_cell f0 d1; replace d2 := fresh_cell f0 d2; replace d3 := fresh_cell f0 d3; replace d4 := fresh_cell f0 d4; replace d5 := fresh_cell f0 d5; replace d6 := fresh_cell f0 d6; replace d7 := fresh_cell f0 d7; replace c14 := fresh_cell f0 c14; replace c15 := fresh_cell f0 c15; replace c16 := fresh_cell f0 c16; replace c13 := fresh_cell f0 c13; replace c11 := fresh_cell f0 c11
            go_wp2_with fail
            refine (fitsT (HX3.out.Q.fresh (fresh_trans hC f0)) x.V x.W x.H x.K x.L x.D x.N x.M true ⟨fun _ => pQ, fun _ => rfl⟩).mono ?_
            rintro e z1 ⟨rfl, f1⟩
            replace d0 := fresh_cell f1 d0; replace d1 := fresh_cell f1 d1; replace d2 := fresh_cell f1 d2; replace d3 := fresh_cell f1 d3; replace d4 := fresh_cell f1 d4; replace d5 := fresh_cell f1 d5; replace d6 := fresh_cell f1 d6; replace d7 := fresh_cell f1 d7; replace c13 := fresh_cell f1 c13; replace c11 := fresh_cell f1 c11
            go_wp2_with fail
            refine (gainsFit_any x.V x.W x.H x.K x.L x.D x.N x.M (HX3.out.F.fresh (fresh_trans (fresh_trans hC f0) f1)).rd mW.1 true ⟨fun _ => pF, fun _ => rfl⟩).mono ?_
            rintro e z2 ⟨rfl, f2⟩
            replace d0 := fresh_cell f2 d0; replace d1 := fresh_cell f2 d1; replace d2 := fresh_cell f2 d2; replace d3 := fresh_cell f2 d3; replace d4 := fresh_cell f2 d4; replace d5 := fresh_cell f2 d5; replace d6 := fresh_cell f2 d6; replace d7 := fresh_cell f2 d7; replace c11 := fresh_cell f2 c11
            go_wp2_with fail
            refine (turnsFit_any x.V x.W x.H x.K x.L x.D x.N x.M mH.1 mH.2 mW.1 mW.2 (HX3.out.T.fresh (fresh_trans (fresh_trans (fresh_trans hC f0) f1) f2)) false ⟨fun h => (by cases h), fun h => absurd h pT⟩).mono ?_
            rintro e z3 ⟨rfl, f3⟩
            go_wp2
            go_ret
            exact ⟨ret_bool HY.out.symm, fresh_trans HF3.out (fresh_trans (fresh_trans (fresh_trans (fresh_trans (hC) f0) f1) f2) f3)⟩
          replace pT := Classical.not_not.1 pT
          have HY : Hid (b = true) := HB.out.2 ⟨pE, pQ, pF, pT, HYN.out, HMN.out, HY1.out, HM1.out⟩
          go_wp2_with fail
          refine (fitsT (HX3.out.E.fresh hC) x.V x.W x.H x.K x.L x.D x.N x.M true ⟨fun _ => pE, fun _ => rfl⟩).mono ?_
          rintro e z0 ⟨rfl, f0⟩
          replace s0 := fresh_cell f0 s0; replace s1 := fresh_cell f0 s1; replace d0 := fresh_cell f0 d0; replace d1 := fresh_cell f0 d1; replace d2 := fresh_cell f0 d2; replace d3 := fresh_cell f0 d3; replace d4 := fresh_cell f0 d4; replace d5 := fresh_cell f0 d5; replace d6 := fresh_cell f0 d6; replace d7 := fresh_cell f0 d7; replace c14 := fresh_cell f0 c14; replace c15 := fresh_cell f0 c15; replace c16 := fresh_cell f0 c16; replace c13 := fresh_cell f0 c13; replace c11 := fresh_cell f0 c11
          go_wp2_with fail
          refine (fitsT (HX3.out.Q.fresh (fresh_trans hC f0)) x.V x.W x.H x.K x.L x.D x.N x.M true ⟨fun _ => pQ, fun _ => rfl⟩).mono ?_
          rintro e z1 ⟨rfl, f1⟩
          replace d0 := fresh_cell f1 d0; replace d1 := fresh_cell f1 d1; replace d2 := fresh_cell f1 d2; replace d3 := fresh_cell f1 d3; replace d4 := fresh_cell f1 d4; replace d5 := fresh_cell f1 d5; replace d6 := fresh_cell f1 d6; replace d7 := fresh_cell f1 d7; replace c13 := fresh_cell f1 c13; replace c11 := fresh_cell f1 c11
          go_wp2_with fail
          refine (gainsFit_any x.V x.W x.H x.K x.L x.D x.N x.M (HX3.out.F.fresh (fresh_trans (fresh_trans hC f0) f1)).rd mW.1 true ⟨fun _ => pF, fun _ => rfl⟩).mono ?_
          rintro e z2 ⟨rfl, f2⟩
          replace d0 := fresh_cell f2 d0; replace d1 := fresh_cell f2 d1; replace d2 := fresh_cell f2 d2; replace d3 := fresh_cell f2 d3; replace d4 := fresh_cell f2 d4; replace d5 := fresh_cell f2 d5; replace d6 := fresh_cell f2 d6; replace d7 := fresh_cell f2 d7; replace c11 := fresh_cell f2 c11
          go_wp2_with fail
          refine (turnsFit_any x.V x.W x.H x.K x.L x.D x.N x.M mH.1 mH.2 mW.1 mW.2 (HX3.out.T.fresh (fresh_trans (fresh_trans (fresh_trans hC f0) f1) f2)) true ⟨fun _ => pT, fun _ => rfl⟩).mono ?_
          rintro e z3 ⟨rfl, f3⟩
          go_wp2
          go_ret
          exact ⟨ret_bool HY.out.symm, fresh_trans HF3.out (fresh_trans (fresh_trans (fresh_trans (fresh_trans (hC) f0) f1) f2) f3)⟩
end Go.Proofs.YtmhjpfjhppcfoaaGreatDoor
