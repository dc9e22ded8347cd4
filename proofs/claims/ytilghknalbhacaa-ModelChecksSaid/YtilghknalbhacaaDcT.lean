import Derived.Test.YtilghknalbhacaaJAR
namespace Go.Proofs.Ytilghknalbhacaa
open Go.RowKit
/-- the measures and what hangs on them -/
structure Dm (V H K L D N M kv : Int) (nW nL nM tn P a b c : Nat) : Prop where
  H1 : 1 ≤ H
  H4 : H ≤ 4
  W2 : 2 ≤ (nW : Int)
  W3 : (nW : Int) ≤ 32
  kve : K * ((nW : Int) / H) = kv
  kv0 : 0 ≤ kv
  kv1 : kv ≤ 128
  pa : (nW : Int) * (nW : Int) = (a : Int)
  pb : kv * (nW : Int) = (b : Int)
  pc : D * (nW : Int) = (c : Int)
  pd : (nW : Int) * D = (c : Int)
  a0 : 0 < a
  b0 : 0 < b
  c0 : 0 < c
  a1 : a ≤ 1048576
  b1 : b ≤ 1048576
  c1 : c ≤ 1048576
  L1 : L = (nL : Int)
  L4 : 1 ≤ nL ∧ nL ≤ 4
  M1 : M = (nM : Int)
  M4 : nM ≤ 4
  t1 : (nW : Int) / H / 2 = (tn : Int)
  t0 : 0 < tn
  t2 : tn ≤ 16
  P1 : V * (nW : Int) = (P : Int)
  P0 : 0 < P
  P2 : P ≤ 1048576
theorem res_rowW (w : World) (o : Obj) : ((w.alloc o).alloc (.cells #[.int .i64 0, .int .i64 0, .int .i64 0, .int .i64 0, .int .i64 0, .int .i64 0, .int .i64 0, .int .i64 0, .int .i64 0, .int .i64 0, .slice none 0 0, .slice none 0 0, .slice none 0 0, .slice none 0 0, .int .i64 0, .int .i64 0, .slice none 0 0, .slice none 0 0] 34)).rowIs (w.heap.size + 1) 34 18 (fun i => wtZ.getD i undef) := by
  have := World.rowIs_list (w.alloc o) wtZ 34
  rw [World.size_alloc] at this
  exact this
theorem chgR {w wx wy : World} {r bb wl : Nat} {B : List Int} {q : Nat} {bd : Bool} (h : Rdr wx r bb B q bd) (hr : r < w.heap.size) (hb : bb < w.heap.size) (hl : w.heap.size + 2 ≤ wl) (c : Chg wx wy (fun b => b = wl)) : Rdr wy r bb B q bd := h.chg c (by omega) (by omega)
theorem step_store_row {P : Program} {ops : Array Oper} {o : Oper} {a : Act} {w : World} {K : Act → World → Prop} {Q : Exit → Act → World → Prop} {E : Prop} (hgd : o.guard = none) (ty : TypeId) (x y : Operand) (ho : o.op = .store ty x y)
    (g : Nat) (cells : Array Value) (hx : a.eval x = .pointer (some ⟨g, 0, none⟩)) (hy : a.eval y = .agg cells) (t : TypeId) (old : Array Value) (hg : w.heap[g]? = some (.cells old t (0, 0))) (hi : (P.info? ty).map (·.size) = some cells.size)
    (hold : old.size = cells.size) (h1 : cells.all (·.oneCell') = true) (h : K (a.put o.dst undef) (w.setRow g cells)) : if Region.wanted o (yielded ops a.tmps) = true then Oper.wp P o a w K Q else E := by
  have hw : Region.wanted o (yielded ops a.tmps) = true := by simp [Region.wanted, hgd]
  rw [if_pos hw]
  exact wp_store_row ty x y ho g cells hx hy t old hg hi hold h1 h
theorem step_store_mid {P : Program} {ops : Array Oper} {o : Oper} {a : Act} {w : World} {K : Act → World → Prop} {Q : Exit → Act → World → Prop} {E : Prop} (hgd : o.guard = none) (ty : TypeId) (x y : Operand) (ho : o.op = .store ty x y)
    (b o9 : Nat) (cells : Array Value) (hx : a.eval x = .pointer (some ⟨b, o9, none⟩)) (hy : a.eval y = .agg cells) (ht : w.there b o9 cells.size) (hi : (P.info? ty).map (·.size) = some cells.size)
    (h1 : cells.all (·.oneCell') = true) (h : K (a.put o.dst undef) (w.setCells b o9 cells.toList)) : if Region.wanted o (yielded ops a.tmps) = true then Oper.wp P o a w K Q else E := by
  have hw : Region.wanted o (yielded ops a.tmps) = true := by simp [Region.wanted, hgd]
  rw [if_pos hw]
  exact wp_store_mid ty x y ho b o9 cells hx hy ht hi h1 h
theorem ws_fin {w w1 z : World} {r gy gm wl nL nM : Nat} {cf : List Int} {V W H K L D N M : Int} (b1 : w1.rowIs w.heap.size 23 8 (fun i => .int .i64 (cf.getD i 0))) (r1 : w1.rowIs (w.heap.size + 1) 34 18 (fun i => wtZ.getD i undef)) (f1 : Below w.heap.size w w1) (h1 : w1.heap.size = w.heap.size + 2) (f : Below w1.heap.size w1 z)
    {old : Array Value} (hl : z.heap[wl]? = some (.cells old 34 (0, 0))) (hy : z.rowIs gy 67 (nL * 30) (lyc (fun _ => lyO0))) (hm : z.rowIs gm 29 (nM * 3) (mtc (fun _ => mtO0))) (ly : w1.heap.size ≤ gy) (lm : w1.heap.size ≤ gm) (ll : w1.heap.size ≤ wl) (ny : gy ≠ wl) (nm' : gm ≠ wl) (nl : nL ≤ 1048576) (nm : nM ≤ 1048576) :
    Ws w (z.setRow wl (wtA (wtS V W H K L D N M gy gm nL nM))) r wl cf (wtS V W H K L D N M gy gm nL nM) ∧ Below w1.heap.size w1 (z.setRow wl (wtA (wtS V W H K L D N M gy gm nL nM))) := by
  have f2 := below_setRow f ll (wtA (wtS V W H K L D N M gy gm nL nM))
  refine ⟨ws_start b1 r1 f1 f2 ⟨_, setRow_heap _ _ _ _ _ _ hl, rfl, fun i hi => ?_⟩ (hy.of_block (setRow_other _ _ _ _ ny)) (hm.of_block (setRow_other _ _ _ _ nm')) (by omega) (by omega) (by omega) nl nm, f2⟩
  show (wtL _).toArray[i]? = some ((wtL _).getD i undef)
  rw [List.getElem?_toArray, List.getD_eq_getElem?_getD, List.getElem?_eq_getElem (show i < (wtL _).length from hi)]
  rfl
set_option maxRecDepth 20000 in
set_option maxHeartbeats 4000000 in
theorem weights_any {w : World} {r bb : Nat} {B : List Int} {p : Nat} {bad : Bool} (h : Rdr w r bb B p bad) (hbb : bb < w.heap.size) (V H K L D N M kv : Int) (nW nL nM tn P a b c : Nat) (hd : Dm V H K L D N M kv nW nL nM tn P a b c) :
    Calls Try.prog 38 #[.pointer (some ⟨r, 0, none⟩), .agg #[.int .i64 V, .int .i64 (nW : Int), .int .i64 H, .int .i64 K, .int .i64 L, .int .i64 D, .int .i64 N, .int .i64 M]] w fun e w' => ∃ x, e = .returned (.agg (wtA x)) ∧ WtW w w' r bb B p bad V H K L D N M kv nW nL nM tn P a b c x := by
  have hrl := h.lt
  have HD := hidd hd
  have hf0 := fresh_trans (fresh_alloc w (.cells #[.int .i64 V, .int .i64 (nW : Int), .int .i64 H, .int .i64 K, .int .i64 L, .int .i64 D, .int .i64 N, .int .i64 M] 23)) (fresh_alloc _ (.cells #[.int .i64 0, .int .i64 0, .int .i64 0, .int .i64 0, .int .i64 0, .int .i64 0, .int .i64 0, .int .i64 0, .int .i64 0, .int .i64 0, .slice none 0 0, .slice none 0 0, .slice none 0 0, .slice none 0 0, .int .i64 0, .int .i64 0, .slice none 0 0, .slice none 0 0] 34))
  have HBX := hidd (cfg_row w V H K L D N M nW (.cells #[.int .i64 0, .int .i64 0, .int .i64 0, .int .i64 0, .int .i64 0, .int .i64 0, .int .i64 0, .int .i64 0, .int .i64 0, .int .i64 0, .slice none 0 0, .slice none 0 0, .slice none 0 0, .slice none 0 0, .int .i64 0, .int .i64 0, .slice none 0 0, .slice none 0 0] 34))
  have HRS := hidd (res_rowW w (.cells #[.int .i64 V, .int .i64 (nW : Int), .int .i64 H, .int .i64 K, .int .i64 L, .int .i64 D, .int .i64 N, .int .i64 M] 23))
  have HR0 := hidd (h.fresh hf0)
  have HSZ0 : Hid (((w.alloc (.cells #[.int .i64 V, .int .i64 (nW : Int), .int .i64 H, .int .i64 K, .int .i64 L, .int .i64 D, .int .i64 N, .int .i64 M] 23)).alloc (.cells #[.int .i64 0, .int .i64 0, .int .i64 0, .int .i64 0, .int .i64 0, .int .i64 0, .int .i64 0, .int .i64 0, .int .i64 0, .int .i64 0, .slice none 0 0, .slice none 0 0, .slice none 0 0, .slice none 0 0, .int .i64 0, .int .i64 0, .slice none 0 0, .slice none 0 0] 34)).heap.size = w.heap.size + 2) := by simp [Hid]
  have HF0 := hidd hf0
  have hmy := run_make_ly nL (by have := hd.L4; omega)
  have hmm := run_make_mt nM (by have := hd.M4; omega)
  rw [← hd.L1] at hmy
  rw [← hd.M1] at hmm
  have HNL : Hid (nL ≤ 1048576) := by have := hd.L4; show nL ≤ 1048576; omega
  have HNM : Hid (nM ≤ 1048576) := by have := hd.M4; show nM ≤ 1048576; omega
  have HBY := hidd h.byt
  clear h hf0 hd
  go_enter Try.func38, Try.ntmps38
  go_upto_region 1 with fail
  generalize ((w.alloc (.cells #[.int .i64 V, .int .i64 (nW : Int), .int .i64 H, .int .i64 K, .int .i64 L, .int .i64 D, .int .i64 N, .int .i64 M] 23)).alloc (.cells #[.int .i64 0, .int .i64 0, .int .i64 0, .int .i64 0, .int .i64 0, .int .i64 0, .int .i64 0, .int .i64 0, .int .i64 0, .int .i64 0, .slice none 0 0, .slice none 0 0, .slice none 0 0, .slice none 0 0, .int .i64 0, .int .i64 0, .slice none 0 0, .slice none 0 0] 34)) = w1 at *
  have d0 : w1.cell? ⟨w.heap.size, 0, none⟩ = some (.int .i64 V) := HBX.out.cell (i := 0) (by decide)
  have d1 : w1.cell? ⟨w.heap.size, 1, none⟩ = some (.int .i64 (nW : Int)) := HBX.out.cell (i := 1) (by decide)
  have d2 : w1.cell? ⟨w.heap.size, 2, none⟩ = some (.int .i64 H) := HBX.out.cell (i := 2) (by decide)
  have d3 : w1.cell? ⟨w.heap.size, 3, none⟩ = some (.int .i64 K) := HBX.out.cell (i := 3) (by decide)
  have d4 : w1.cell? ⟨w.heap.size, 4, none⟩ = some (.int .i64 L) := HBX.out.cell (i := 4) (by decide)
  have d5 : w1.cell? ⟨w.heap.size, 5, none⟩ = some (.int .i64 D) := HBX.out.cell (i := 5) (by decide)
  have d6 : w1.cell? ⟨w.heap.size, 6, none⟩ = some (.int .i64 N) := HBX.out.cell (i := 6) (by decide)
  have d7 : w1.cell? ⟨w.heap.size, 7, none⟩ = some (.int .i64 M) := HBX.out.cell (i := 7) (by decide)
  go_cut [5] (fun v5 wx => ∃ gy gm wl, v5 = .pointer (some ⟨wl, 0, none⟩) ∧ Hid (Ws w wx r wl [V, (nW : Int), H, K, L, D, N, M] (wtS V (nW : Int) H K L D N M gy gm nL nM)) ∧ Hid (Below w1.heap.size w1 wx))
  case first =>
    have s0 : Below w1.heap.size w1 w1.drew := (Below.refl _ _).drew
    refine wp_region_held_drew (S := fun z => Below w1.heap.size w1 z) (by kernel_rfl) s0 (fun _ => ?_)
    refine wpAnyH_take (i := 0) (v := ?vk1) rfl (by kernel_rfl) (by kernel_rfl) (by kernel_rfl) (fun _ _ _ h => h) (Or.inl ⟨by rfl, ?yk1⟩) s0 ?rk1
    case yk1 =>
      intro z hz
      have z0 := fresh_cell hz d0
      have z1 := fresh_cell hz d1
      have z2 := fresh_cell hz d2
      have z3 := fresh_cell hz d3
      have z4 := fresh_cell hz d4
      have z5 := fresh_cell hz d5
      have z6 := fresh_cell hz d6
      have z7 := fresh_cell hz d7
      go_simp
      try with_reducible rfl
    refine wpAnyH_take (i := 1) (v := ?vk2) rfl (by kernel_rfl) (by kernel_rfl) (by kernel_rfl) (fun _ _ _ h => h) (Or.inl ⟨by rfl, ?yk2⟩) s0 ?rk2
    case yk2 =>
      intro z hz
      have z0 := fresh_cell hz d0
      have z1 := fresh_cell hz d1
      have z2 := fresh_cell hz d2
      have z3 := fresh_cell hz d3
      have z4 := fresh_cell hz d4
      have z5 := fresh_cell hz d5
      have z6 := fresh_cell hz d6
      have z7 := fresh_cell hz d7
      go_simp
      try with_reducible rfl
    refine wpAnyH_take (i := 2) (v := ?vk3) rfl (by kernel_rfl) (by kernel_rfl) (by kernel_rfl) (fun _ _ _ h => h) (Or.inl ⟨by rfl, ?yk3⟩) s0 ?rk3
    case yk3 =>
      intro z hz
      have z0 := fresh_cell hz d0
      have z1 := fresh_cell hz d1
      have z2 := fresh_cell hz d2
      have z3 := fresh_cell hz d3
      have z4 := fresh_cell hz d4
      have z5 := fresh_cell hz d5
      have z6 := fresh_cell hz d6
      have z7 := fresh_cell hz d7
      go_simp
      try with_reducible rfl
    refine wpAnyH_take (i := 4) (v := ?vk4) rfl (by kernel_rfl) (by kernel_rfl) (by kernel_rfl) (fun _ _ _ h => h) (Or.inl ⟨by rfl, ?yk4⟩) s0 ?rk4
    case yk4 =>
      intro z hz
      have z0 := fresh_cell hz d0
      have z1 := fresh_cell hz d1
      have z2 := fresh_cell hz d2
      have z3 := fresh_cell hz d3
      have z4 := fresh_cell hz d4
      have z5 := fresh_cell hz d5
      have z6 := fresh_cell hz d6
      have z7 := fresh_cell hz d7
      go_simp
      try with_reducible rfl
    refine wpAnyH_take (i := 5) (v := ?vk5) rfl (by kernel_rfl) (by kernel_rfl) (by kernel_rfl) (fun _ _ _ h => h) (Or.inl ⟨by rfl, ?yk5⟩) s0 ?rk5
    case yk5 =>
      intro z hz
      have z0 := fresh_cell hz d0
      have z1 := fresh_cell hz d1
      have z2 := fresh_cell hz d2
      have z3 := fresh_cell hz d3
      have z4 := fresh_cell hz d4
      have z5 := fresh_cell hz d5
      have z6 := fresh_cell hz d6
      have z7 := fresh_cell hz d7
      go_simp
      try with_reducible rfl
    refine wpAnyH_ready (rs := [3, 6, 8]) (by kernel_rfl) (by simp) (AllReadyH.cons rfl (fun KK hK => ?b30) (AllReadyH.cons rfl (fun KK hK => ?b60) (AllReadyH.cons rfl (fun KK hK => ?b80) AllReadyH.nil)))
    case b30 =>
      go_simp
      have s1 : Below w1.heap.size w1 (w1.drew.alloc (.cells (madeCells lyZ.toArray (nL * 30)) 67)) := s0.trans ((fresh_alloc _ _).mono s0.size)
      have hy := made_ly w1.drew nL
      have hz9 : w1.drew.heap.size = w1.heap.size := by simp
      rw [hz9] at hy
      have ly : w1.heap.size ≤ w1.heap.size := by omega
      clear hz9
      refine hK.out _ _ s1 (fun _ => ?_)
      clear hK KK
      refine wpAnyH_ready (rs := [6, 8]) (by kernel_rfl) (by simp) (AllReadyH.cons rfl (fun KK hK => ?b61) (AllReadyH.cons rfl (fun KK hK => ?b81) AllReadyH.nil))
      case b61 =>
        go_simp
        have s2 : Below w1.heap.size w1 ((w1.drew.alloc (.cells (madeCells lyZ.toArray (nL * 30)) 67)).alloc (.cells (madeCells (mtL mtO0).toArray (nM * 3)) 29)) := s1.trans ((fresh_alloc _ _).mono s1.size)
        replace hy := hy.alloc (.cells (madeCells (mtL mtO0).toArray (nM * 3)) 29)
        have hm := made_mt (w1.drew.alloc (.cells (madeCells lyZ.toArray (nL * 30)) 67)) nM
        have hz9 : (w1.drew.alloc (.cells (madeCells lyZ.toArray (nL * 30)) 67)).heap.size = w1.heap.size + 1 := by simp
        rw [hz9] at hm
        have lm : w1.heap.size ≤ w1.heap.size + 1 := by omega
        clear hz9
        refine hK.out _ _ s2 (fun _ => ?_)
        clear hK KK
        refine wpAnyH_take (i := 7) (v := ?vk6) rfl (by kernel_rfl) (by kernel_rfl) (by kernel_rfl) (fun _ _ _ h => h) (Or.inl ⟨by rfl, ?yk6⟩) s2 ?rk6
        case yk6 =>
          intro z hz
          have z0 := fresh_cell hz d0
          have z1 := fresh_cell hz d1
          have z2 := fresh_cell hz d2
          have z3 := fresh_cell hz d3
          have z4 := fresh_cell hz d4
          have z5 := fresh_cell hz d5
          have z6 := fresh_cell hz d6
          have z7 := fresh_cell hz d7
          go_simp
          try with_reducible rfl
        refine wpAnyH_ready (rs := [8]) (by kernel_rfl) (by simp) (AllReadyH.cons rfl (fun KK hK => ?b82) AllReadyH.nil)
        case b82 =>
          go_simp
          have s3 : Below w1.heap.size w1 (((w1.drew.alloc (.cells (madeCells lyZ.toArray (nL * 30)) 67)).alloc (.cells (madeCells (mtL mtO0).toArray (nM * 3)) 29)).alloc (.cells #[.int .i64 0, .int .i64 0, .int .i64 0, .int .i64 0, .int .i64 0, .int .i64 0, .int .i64 0, .int .i64 0, .int .i64 0, .int .i64 0, .slice none 0 0, .slice none 0 0, .slice none 0 0, .slice none 0 0, .int .i64 0, .int .i64 0, .slice none 0 0, .slice none 0 0] 34)) := s2.trans ((fresh_alloc _ _).mono s2.size)
          replace hy := hy.alloc (.cells #[.int .i64 0, .int .i64 0, .int .i64 0, .int .i64 0, .int .i64 0, .int .i64 0, .int .i64 0, .int .i64 0, .int .i64 0, .int .i64 0, .slice none 0 0, .slice none 0 0, .slice none 0 0, .slice none 0 0, .int .i64 0, .int .i64 0, .slice none 0 0, .slice none 0 0] 34)
          replace hm := hm.alloc (.cells #[.int .i64 0, .int .i64 0, .int .i64 0, .int .i64 0, .int .i64 0, .int .i64 0, .int .i64 0, .int .i64 0, .int .i64 0, .int .i64 0, .slice none 0 0, .slice none 0 0, .slice none 0 0, .slice none 0 0, .int .i64 0, .int .i64 0, .slice none 0 0, .slice none 0 0] 34)
          have hl := heap_new ((w1.drew.alloc (.cells (madeCells lyZ.toArray (nL * 30)) 67)).alloc (.cells (madeCells (mtL mtO0).toArray (nM * 3)) 29)) (.cells #[.int .i64 0, .int .i64 0, .int .i64 0, .int .i64 0, .int .i64 0, .int .i64 0, .int .i64 0, .int .i64 0, .int .i64 0, .int .i64 0, .slice none 0 0, .slice none 0 0, .slice none 0 0, .slice none 0 0, .int .i64 0, .int .i64 0, .slice none 0 0, .slice none 0 0] 34)
          have hz9 : ((w1.drew.alloc (.cells (madeCells lyZ.toArray (nL * 30)) 67)).alloc (.cells (madeCells (mtL mtO0).toArray (nM * 3)) 29)).heap.size = w1.heap.size + 1 + 1 := by simp
          rw [hz9] at hl
          have ll : w1.heap.size ≤ w1.heap.size + 1 + 1 := by omega
          clear hz9
          refine hK.out _ _ s3 (fun _ => ?_)
          clear hK KK
          refine wpAnyH_ready (rs := [9]) (by kernel_rfl) (by simp) (AllReadyH.cons rfl (fun KK hK => ?_) AllReadyH.nil)
          refine step_store_row rfl 34 (.tmp 5) (.tmp 15) rfl (w1.heap.size + 1 + 1) (wtA (wtS V (nW : Int) H K L D N M (w1.heap.size) (w1.heap.size + 1) nL nM)) rfl rfl 34 _ hl sizeW rfl (wtA_one _) ?_
          have hfin := hidd (ws_fin (r := r) (V := V) (W := (nW : Int)) (H := H) (K := K) (L := L) (D := D) (N := N) (M := M) HBX.out HRS.out HF0.out HSZ0.out s3 hl hy hm ly lm ll (by omega) (by omega) HNL.out HNM.out)
          refine hK.out _ _ hfin.out.2 (fun _ => ?_)
          clear hK KK
          refine wpAnyH_done (by kernel_rfl) ?_ _
          go_wp2_with fail
          go_meet
          case rel => exact ⟨_, _, _, rfl, hfin.out.1, hfin.out.2⟩
      case b81 =>
        go_simp
        have s2 : Below w1.heap.size w1 ((w1.drew.alloc (.cells (madeCells lyZ.toArray (nL * 30)) 67)).alloc (.cells #[.int .i64 0, .int .i64 0, .int .i64 0, .int .i64 0, .int .i64 0, .int .i64 0, .int .i64 0, .int .i64 0, .int .i64 0, .int .i64 0, .slice none 0 0, .slice none 0 0, .slice none 0 0, .slice none 0 0, .int .i64 0, .int .i64 0, .slice none 0 0, .slice none 0 0] 34)) := s1.trans ((fresh_alloc _ _).mono s1.size)
        replace hy := hy.alloc (.cells #[.int .i64 0, .int .i64 0, .int .i64 0, .int .i64 0, .int .i64 0, .int .i64 0, .int .i64 0, .int .i64 0, .int .i64 0, .int .i64 0, .slice none 0 0, .slice none 0 0, .slice none 0 0, .slice none 0 0, .int .i64 0, .int .i64 0, .slice none 0 0, .slice none 0 0] 34)
        have hl := heap_new (w1.drew.alloc (.cells (madeCells lyZ.toArray (nL * 30)) 67)) (.cells #[.int .i64 0, .int .i64 0, .int .i64 0, .int .i64 0, .int .i64 0, .int .i64 0, .int .i64 0, .int .i64 0, .int .i64 0, .int .i64 0, .slice none 0 0, .slice none 0 0, .slice none 0 0, .slice none 0 0, .int .i64 0, .int .i64 0, .slice none 0 0, .slice none 0 0] 34)
        have hz9 : (w1.drew.alloc (.cells (madeCells lyZ.toArray (nL * 30)) 67)).heap.size = w1.heap.size + 1 := by simp
        rw [hz9] at hl
        have ll : w1.heap.size ≤ w1.heap.size + 1 := by omega
        clear hz9
        refine hK.out _ _ s2 (fun _ => ?_)
        clear hK KK
        refine wpAnyH_ready (rs := [6]) (by kernel_rfl) (by simp) (AllReadyH.cons rfl (fun KK hK => ?b62) AllReadyH.nil)
        case b62 =>
          go_simp
          have s3 : Below w1.heap.size w1 (((w1.drew.alloc (.cells (madeCells lyZ.toArray (nL * 30)) 67)).alloc (.cells #[.int .i64 0, .int .i64 0, .int .i64 0, .int .i64 0, .int .i64 0, .int .i64 0, .int .i64 0, .int .i64 0, .int .i64 0, .int .i64 0, .slice none 0 0, .slice none 0 0, .slice none 0 0, .slice none 0 0, .int .i64 0, .int .i64 0, .slice none 0 0, .slice none 0 0] 34)).alloc (.cells (madeCells (mtL mtO0).toArray (nM * 3)) 29)) := s2.trans ((fresh_alloc _ _).mono s2.size)
          replace hy := hy.alloc (.cells (madeCells (mtL mtO0).toArray (nM * 3)) 29)
          replace hl := (fresh_alloc ((w1.drew.alloc (.cells (madeCells lyZ.toArray (nL * 30)) 67)).alloc (.cells #[.int .i64 0, .int .i64 0, .int .i64 0, .int .i64 0, .int .i64 0, .int .i64 0, .int .i64 0, .int .i64 0, .int .i64 0, .int .i64 0, .slice none 0 0, .slice none 0 0, .slice none 0 0, .slice none 0 0, .int .i64 0, .int .i64 0, .slice none 0 0, .slice none 0 0] 34)) (.cells (madeCells (mtL mtO0).toArray (nM * 3)) 29)).block _ (Array.getElem?_eq_some_iff.1 hl).1 |>.trans hl
          have hm := made_mt ((w1.drew.alloc (.cells (madeCells lyZ.toArray (nL * 30)) 67)).alloc (.cells #[.int .i64 0, .int .i64 0, .int .i64 0, .int .i64 0, .int .i64 0, .int .i64 0, .int .i64 0, .int .i64 0, .int .i64 0, .int .i64 0, .slice none 0 0, .slice none 0 0, .slice none 0 0, .slice none 0 0, .int .i64 0, .int .i64 0, .slice none 0 0, .slice none 0 0] 34)) nM
          have hz9 : ((w1.drew.alloc (.cells (madeCells lyZ.toArray (nL * 30)) 67)).alloc (.cells #[.int .i64 0, .int .i64 0, .int .i64 0, .int .i64 0, .int .i64 0, .int .i64 0, .int .i64 0, .int .i64 0, .int .i64 0, .int .i64 0, .slice none 0 0, .slice none 0 0, .slice none 0 0, .slice none 0 0, .int .i64 0, .int .i64 0, .slice none 0 0, .slice none 0 0] 34)).heap.size = w1.heap.size + 1 + 1 := by simp
          rw [hz9] at hm
          have lm : w1.heap.size ≤ w1.heap.size + 1 + 1 := by omega
          clear hz9
          refine hK.out _ _ s3 (fun _ => ?_)
          clear hK KK
          refine wpAnyH_take (i := 7) (v := ?vk7) rfl (by kernel_rfl) (by kernel_rfl) (by kernel_rfl) (fun _ _ _ h => h) (Or.inl ⟨by rfl, ?yk7⟩) s3 ?rk7
          case yk7 =>
            intro z hz
            have z0 := fresh_cell hz d0
            have z1 := fresh_cell hz d1
            have z2 := fresh_cell hz d2
            have z3 := fresh_cell hz d3
            have z4 := fresh_cell hz d4
            have z5 := fresh_cell hz d5
            have z6 := fresh_cell hz d6
            have z7 := fresh_cell hz d7
            go_simp
            try with_reducible rfl
          refine wpAnyH_ready (rs := [9]) (by kernel_rfl) (by simp) (AllReadyH.cons rfl (fun KK hK => ?_) AllReadyH.nil)
          refine step_store_row rfl 34 (.tmp 5) (.tmp 15) rfl (w1.heap.size + 1) (wtA (wtS V (nW : Int) H K L D N M (w1.heap.size) (w1.heap.size + 1 + 1) nL nM)) rfl rfl 34 _ hl sizeW rfl (wtA_one _) ?_
          have hfin := hidd (ws_fin (r := r) (V := V) (W := (nW : Int)) (H := H) (K := K) (L := L) (D := D) (N := N) (M := M) HBX.out HRS.out HF0.out HSZ0.out s3 hl hy hm ly lm ll (by omega) (by omega) HNL.out HNM.out)
          refine hK.out _ _ hfin.out.2 (fun _ => ?_)
          clear hK KK
          refine wpAnyH_done (by kernel_rfl) ?_ _
          go_wp2_with fail
          go_meet
          case rel => exact ⟨_, _, _, rfl, hfin.out.1, hfin.out.2⟩
    case b60 =>
      go_simp
      have s1 : Below w1.heap.size w1 (w1.drew.alloc (.cells (madeCells (mtL mtO0).toArray (nM * 3)) 29)) := s0.trans ((fresh_alloc _ _).mono s0.size)
      have hm := made_mt w1.drew nM
      have hz9 : w1.drew.heap.size = w1.heap.size := by simp
      rw [hz9] at hm
      have lm : w1.heap.size ≤ w1.heap.size := by omega
      clear hz9
      refine hK.out _ _ s1 (fun _ => ?_)
      clear hK KK
      refine wpAnyH_ready (rs := [3, 8]) (by kernel_rfl) (by simp) (AllReadyH.cons rfl (fun KK hK => ?b31) (AllReadyH.cons rfl (fun KK hK => ?b81) AllReadyH.nil))
      case b31 =>
        go_simp
        have s2 : Below w1.heap.size w1 ((w1.drew.alloc (.cells (madeCells (mtL mtO0).toArray (nM * 3)) 29)).alloc (.cells (madeCells lyZ.toArray (nL * 30)) 67)) := s1.trans ((fresh_alloc _ _).mono s1.size)
        replace hm := hm.alloc (.cells (madeCells lyZ.toArray (nL * 30)) 67)
        have hy := made_ly (w1.drew.alloc (.cells (madeCells (mtL mtO0).toArray (nM * 3)) 29)) nL
        have hz9 : (w1.drew.alloc (.cells (madeCells (mtL mtO0).toArray (nM * 3)) 29)).heap.size = w1.heap.size + 1 := by simp
        rw [hz9] at hy
        have ly : w1.heap.size ≤ w1.heap.size + 1 := by omega
        clear hz9
        refine hK.out _ _ s2 (fun _ => ?_)
        clear hK KK
        refine wpAnyH_take (i := 7) (v := ?vk8) rfl (by kernel_rfl) (by kernel_rfl) (by kernel_rfl) (fun _ _ _ h => h) (Or.inl ⟨by rfl, ?yk8⟩) s2 ?rk8
        case yk8 =>
          intro z hz
          have z0 := fresh_cell hz d0
          have z1 := fresh_cell hz d1
          have z2 := fresh_cell hz d2
          have z3 := fresh_cell hz d3
          have z4 := fresh_cell hz d4
          have z5 := fresh_cell hz d5
          have z6 := fresh_cell hz d6
          have z7 := fresh_cell hz d7
          go_simp
          try with_reducible rfl
        refine wpAnyH_ready (rs := [8]) (by kernel_rfl) (by simp) (AllReadyH.cons rfl (fun KK hK => ?b82) AllReadyH.nil)
        case b82 =>
          go_simp
          have s3 : Below w1.heap.size w1 (((w1.drew.alloc (.cells (madeCells (mtL mtO0).toArray (nM * 3)) 29)).alloc (.cells (madeCells lyZ.toArray (nL * 30)) 67)).alloc (.cells #[.int .i64 0, .int .i64 0, .int .i64 0, .int .i64 0, .int .i64 0, .int .i64 0, .int .i64 0, .int .i64 0, .int .i64 0, .int .i64 0, .slice none 0 0, .slice none 0 0, .slice none 0 0, .slice none 0 0, .int .i64 0, .int .i64 0, .slice none 0 0, .slice none 0 0] 34)) := s2.trans ((fresh_alloc _ _).mono s2.size)
          replace hm := hm.alloc (.cells #[.int .i64 0, .int .i64 0, .int .i64 0, .int .i64 0, .int .i64 0, .int .i64 0, .int .i64 0, .int .i64 0, .int .i64 0, .int .i64 0, .slice none 0 0, .slice none 0 0, .slice none 0 0, .slice none 0 0, .int .i64 0, .int .i64 0, .slice none 0 0, .slice none 0 0] 34)
          replace hy := hy.alloc (.cells #[.int .i64 0, .int .i64 0, .int .i64 0, .int .i64 0, .int .i64 0, .int .i64 0, .int .i64 0, .int .i64 0, .int .i64 0, .int .i64 0, .slice none 0 0, .slice none 0 0, .slice none 0 0, .slice none 0 0, .int .i64 0, .int .i64 0, .slice none 0 0, .slice none 0 0] 34)
          have hl := heap_new ((w1.drew.alloc (.cells (madeCells (mtL mtO0).toArray (nM * 3)) 29)).alloc (.cells (madeCells lyZ.toArray (nL * 30)) 67)) (.cells #[.int .i64 0, .int .i64 0, .int .i64 0, .int .i64 0, .int .i64 0, .int .i64 0, .int .i64 0, .int .i64 0, .int .i64 0, .int .i64 0, .slice none 0 0, .slice none 0 0, .slice none 0 0, .slice none 0 0, .int .i64 0, .int .i64 0, .slice none 0 0, .slice none 0 0] 34)
          have hz9 : ((w1.drew.alloc (.cells (madeCells (mtL mtO0).toArray (nM * 3)) 29)).alloc (.cells (madeCells lyZ.toArray (nL * 30)) 67)).heap.size = w1.heap.size + 1 + 1 := by simp
          rw [hz9] at hl
          have ll : w1.heap.size ≤ w1.heap.size + 1 + 1 := by omega
          clear hz9
          refine hK.out _ _ s3 (fun _ => ?_)
          clear hK KK
          refine wpAnyH_ready (rs := [9]) (by kernel_rfl) (by simp) (AllReadyH.cons rfl (fun KK hK => ?_) AllReadyH.nil)
          refine step_store_row rfl 34 (.tmp 5) (.tmp 15) rfl (w1.heap.size + 1 + 1) (wtA (wtS V (nW : Int) H K L D N M (w1.heap.size + 1) (w1.heap.size) nL nM)) rfl rfl 34 _ hl sizeW rfl (wtA_one _) ?_
          have hfin := hidd (ws_fin (r := r) (V := V) (W := (nW : Int)) (H := H) (K := K) (L := L) (D := D) (N := N) (M := M) HBX.out HRS.out HF0.out HSZ0.out s3 hl hy hm ly lm ll (by omega) (by omega) HNL.out HNM.out)
          refine hK.out _ _ hfin.out.2 (fun _ => ?_)
          clear hK KK
          refine wpAnyH_done (by kernel_rfl) ?_ _
          go_wp2_with fail
          go_meet
          case rel => exact ⟨_, _, _, rfl, hfin.out.1, hfin.out.2⟩
      case b81 =>
        go_simp
        have s2 : Below w1.heap.size w1 ((w1.drew.alloc (.cells (madeCells (mtL mtO0).toArray (nM * 3)) 29)).alloc (.cells #[.int .i64 0, .int .i64 0, .int .i64 0, .int .i64 0, .int .i64 0, .int .i64 0, .int .i64 0, .int .i64 0, .int .i64 0, .int .i64 0, .slice none 0 0, .slice none 0 0, .slice none 0 0, .slice none 0 0, .int .i64 0, .int .i64 0, .slice none 0 0, .slice none 0 0] 34)) := s1.trans ((fresh_alloc _ _).mono s1.size)
        replace hm := hm.alloc (.cells #[.int .i64 0, .int .i64 0, .int .i64 0, .int .i64 0, .int .i64 0, .int .i64 0, .int .i64 0, .int .i64 0, .int .i64 0, .int .i64 0, .slice none 0 0, .slice none 0 0, .slice none 0 0, .slice none 0 0, .int .i64 0, .int .i64 0, .slice none 0 0, .slice none 0 0] 34)
        have hl := heap_new (w1.drew.alloc (.cells (madeCells (mtL mtO0).toArray (nM * 3)) 29)) (.cells #[.int .i64 0, .int .i64 0, .int .i64 0, .int .i64 0, .int .i64 0, .int .i64 0, .int .i64 0, .int .i64 0, .int .i64 0, .int .i64 0, .slice none 0 0, .slice none 0 0, .slice none 0 0, .slice none 0 0, .int .i64 0, .int .i64 0, .slice none 0 0, .slice none 0 0] 34)
        have hz9 : (w1.drew.alloc (.cells (madeCells (mtL mtO0).toArray (nM * 3)) 29)).heap.size = w1.heap.size + 1 := by simp
        rw [hz9] at hl
        have ll : w1.heap.size ≤ w1.heap.size + 1 := by omega
        clear hz9
        refine hK.out _ _ s2 (fun _ => ?_)
        clear hK KK
        refine wpAnyH_ready (rs := [3]) (by kernel_rfl) (by simp) (AllReadyH.cons rfl (fun KK hK => ?b32) AllReadyH.nil)
        case b32 =>
          go_simp
          have s3 : Below w1.heap.size w1 (((w1.drew.alloc (.cells (madeCells (mtL mtO0).toArray (nM * 3)) 29)).alloc (.cells #[.int .i64 0, .int .i64 0, .int .i64 0, .int .i64 0, .int .i64 0, .int .i64 0, .int .i64 0, .int .i64 0, .int .i64 0, .int .i64 0, .slice none 0 0, .slice none 0 0, .slice none 0 0, .slice none 0 0, .int .i64 0, .int .i64 0, .slice none 0 0, .slice none 0 0] 34)).alloc (.cells (madeCells lyZ.toArray (nL * 30)) 67)) := s2.trans ((fresh_alloc _ _).mono s2.size)
          replace hm := hm.alloc (.cells (madeCells lyZ.toArray (nL * 30)) 67)
          replace hl := (fresh_alloc ((w1.drew.alloc (.cells (madeCells (mtL mtO0).toArray (nM * 3)) 29)).alloc (.cells #[.int .i64 0, .int .i64 0, .int .i64 0, .int .i64 0, .int .i64 0, .int .i64 0, .int .i64 0, .int .i64 0, .int .i64 0, .int .i64 0, .slice none 0 0, .slice none 0 0, .slice none 0 0, .slice none 0 0, .int .i64 0, .int .i64 0, .slice none 0 0, .slice none 0 0] 34)) (.cells (madeCells lyZ.toArray (nL * 30)) 67)).block _ (Array.getElem?_eq_some_iff.1 hl).1 |>.trans hl
          have hy := made_ly ((w1.drew.alloc (.cells (madeCells (mtL mtO0).toArray (nM * 3)) 29)).alloc (.cells #[.int .i64 0, .int .i64 0, .int .i64 0, .int .i64 0, .int .i64 0, .int .i64 0, .int .i64 0, .int .i64 0, .int .i64 0, .int .i64 0, .slice none 0 0, .slice none 0 0, .slice none 0 0, .slice none 0 0, .int .i64 0, .int .i64 0, .slice none 0 0, .slice none 0 0] 34)) nL
          have hz9 : ((w1.drew.alloc (.cells (madeCells (mtL mtO0).toArray (nM * 3)) 29)).alloc (.cells #[.int .i64 0, .int .i64 0, .int .i64 0, .int .i64 0, .int .i64 0, .int .i64 0, .int .i64 0, .int .i64 0, .int .i64 0, .int .i64 0, .slice none 0 0, .slice none 0 0, .slice none 0 0, .slice none 0 0, .int .i64 0, .int .i64 0, .slice none 0 0, .slice none 0 0] 34)).heap.size = w1.heap.size + 1 + 1 := by simp
          rw [hz9] at hy
          have ly : w1.heap.size ≤ w1.heap.size + 1 + 1 := by omega
          clear hz9
          refine hK.out _ _ s3 (fun _ => ?_)
          clear hK KK
          refine wpAnyH_take (i := 7) (v := ?vk9) rfl (by kernel_rfl) (by kernel_rfl) (by kernel_rfl) (fun _ _ _ h => h) (Or.inl ⟨by rfl, ?yk9⟩) s3 ?rk9
          case yk9 =>
            intro z hz
            have z0 := fresh_cell hz d0
            have z1 := fresh_cell hz d1
            have z2 := fresh_cell hz d2
            have z3 := fresh_cell hz d3
            have z4 := fresh_cell hz d4
            have z5 := fresh_cell hz d5
            have z6 := fresh_cell hz d6
            have z7 := fresh_cell hz d7
            go_simp
            try with_reducible rfl
          refine wpAnyH_ready (rs := [9]) (by kernel_rfl) (by simp) (AllReadyH.cons rfl (fun KK hK => ?_) AllReadyH.nil)
          refine step_store_row rfl 34 (.tmp 5) (.tmp 15) rfl (w1.heap.size + 1) (wtA (wtS V (nW : Int) H K L D N M (w1.heap.size + 1 + 1) (w1.heap.size) nL nM)) rfl rfl 34 _ hl sizeW rfl (wtA_one _) ?_
          have hfin := hidd (ws_fin (r := r) (V := V) (W := (nW : Int)) (H := H) (K := K) (L := L) (D := D) (N := N) (M := M) HBX.out HRS.out HF0.out HSZ0.out s3 hl hy hm ly lm ll (by omega) (by omega) HNL.out HNM.out)
          refine hK.out _ _ hfin.out.2 (fun _ => ?_)
          clear hK KK
          refine wpAnyH_done (by kernel_rfl) ?_ _
          go_wp2_with fail
          go_meet
          case rel => exact ⟨_, _, _, rfl, hfin.out.1, hfin.out.2⟩
    case b80 =>
      go_simp
      have s1 : Below w1.heap.size w1 (w1.drew.alloc (.cells #[.int .i64 0, .int .i64 0, .int .i64 0, .int .i64 0, .int .i64 0, .int .i64 0, .int .i64 0, .int .i64 0, .int .i64 0, .int .i64 0, .slice none 0 0, .slice none 0 0, .slice none 0 0, .slice none 0 0, .int .i64 0, .int .i64 0, .slice none 0 0, .slice none 0 0] 34)) := s0.trans ((fresh_alloc _ _).mono s0.size)
      have hl := heap_new w1.drew (.cells #[.int .i64 0, .int .i64 0, .int .i64 0, .int .i64 0, .int .i64 0, .int .i64 0, .int .i64 0, .int .i64 0, .int .i64 0, .int .i64 0, .slice none 0 0, .slice none 0 0, .slice none 0 0, .slice none 0 0, .int .i64 0, .int .i64 0, .slice none 0 0, .slice none 0 0] 34)
      have hz9 : w1.drew.heap.size = w1.heap.size := by simp
      rw [hz9] at hl
      have ll : w1.heap.size ≤ w1.heap.size := by omega
      clear hz9
      refine hK.out _ _ s1 (fun _ => ?_)
      clear hK KK
      refine wpAnyH_ready (rs := [3, 6]) (by kernel_rfl) (by simp) (AllReadyH.cons rfl (fun KK hK => ?b31) (AllReadyH.cons rfl (fun KK hK => ?b61) AllReadyH.nil))
      case b31 =>
        go_simp
        have s2 : Below w1.heap.size w1 ((w1.drew.alloc (.cells #[.int .i64 0, .int .i64 0, .int .i64 0, .int .i64 0, .int .i64 0, .int .i64 0, .int .i64 0, .int .i64 0, .int .i64 0, .int .i64 0, .slice none 0 0, .slice none 0 0, .slice none 0 0, .slice none 0 0, .int .i64 0, .int .i64 0, .slice none 0 0, .slice none 0 0] 34)).alloc (.cells (madeCells lyZ.toArray (nL * 30)) 67)) := s1.trans ((fresh_alloc _ _).mono s1.size)
        replace hl := (fresh_alloc (w1.drew.alloc (.cells #[.int .i64 0, .int .i64 0, .int .i64 0, .int .i64 0, .int .i64 0, .int .i64 0, .int .i64 0, .int .i64 0, .int .i64 0, .int .i64 0, .slice none 0 0, .slice none 0 0, .slice none 0 0, .slice none 0 0, .int .i64 0, .int .i64 0, .slice none 0 0, .slice none 0 0] 34)) (.cells (madeCells lyZ.toArray (nL * 30)) 67)).block _ (Array.getElem?_eq_some_iff.1 hl).1 |>.trans hl
        have hy := made_ly (w1.drew.alloc (.cells #[.int .i64 0, .int .i64 0, .int .i64 0, .int .i64 0, .int .i64 0, .int .i64 0, .int .i64 0, .int .i64 0, .int .i64 0, .int .i64 0, .slice none 0 0, .slice none 0 0, .slice none 0 0, .slice none 0 0, .int .i64 0, .int .i64 0, .slice none 0 0, .slice none 0 0] 34)) nL
        have hz9 : (w1.drew.alloc (.cells #[.int .i64 0, .int .i64 0, .int .i64 0, .int .i64 0, .int .i64 0, .int .i64 0, .int .i64 0, .int .i64 0, .int .i64 0, .int .i64 0, .slice none 0 0, .slice none 0 0, .slice none 0 0, .slice none 0 0, .int .i64 0, .int .i64 0, .slice none 0 0, .slice none 0 0] 34)).heap.size = w1.heap.size + 1 := by simp
        rw [hz9] at hy
        have ly : w1.heap.size ≤ w1.heap.size + 1 := by omega
        clear hz9
        refine hK.out _ _ s2 (fun _ => ?_)
        clear hK KK
        refine wpAnyH_ready (rs := [6]) (by kernel_rfl) (by simp) (AllReadyH.cons rfl (fun KK hK => ?b62) AllReadyH.nil)
        case b62 =>
          go_simp
          have s3 : Below w1.heap.size w1 (((w1.drew.alloc (.cells #[.int .i64 0, .int .i64 0, .int .i64 0, .int .i64 0, .int .i64 0, .int .i64 0, .int .i64 0, .int .i64 0, .int .i64 0, .int .i64 0, .slice none 0 0, .slice none 0 0, .slice none 0 0, .slice none 0 0, .int .i64 0, .int .i64 0, .slice none 0 0, .slice none 0 0] 34)).alloc (.cells (madeCells lyZ.toArray (nL * 30)) 67)).alloc (.cells (madeCells (mtL mtO0).toArray (nM * 3)) 29)) := s2.trans ((fresh_alloc _ _).mono s2.size)
          replace hl := (fresh_alloc ((w1.drew.alloc (.cells #[.int .i64 0, .int .i64 0, .int .i64 0, .int .i64 0, .int .i64 0, .int .i64 0, .int .i64 0, .int .i64 0, .int .i64 0, .int .i64 0, .slice none 0 0, .slice none 0 0, .slice none 0 0, .slice none 0 0, .int .i64 0, .int .i64 0, .slice none 0 0, .slice none 0 0] 34)).alloc (.cells (madeCells lyZ.toArray (nL * 30)) 67)) (.cells (madeCells (mtL mtO0).toArray (nM * 3)) 29)).block _ (Array.getElem?_eq_some_iff.1 hl).1 |>.trans hl
          replace hy := hy.alloc (.cells (madeCells (mtL mtO0).toArray (nM * 3)) 29)
          have hm := made_mt ((w1.drew.alloc (.cells #[.int .i64 0, .int .i64 0, .int .i64 0, .int .i64 0, .int .i64 0, .int .i64 0, .int .i64 0, .int .i64 0, .int .i64 0, .int .i64 0, .slice none 0 0, .slice none 0 0, .slice none 0 0, .slice none 0 0, .int .i64 0, .int .i64 0, .slice none 0 0, .slice none 0 0] 34)).alloc (.cells (madeCells lyZ.toArray (nL * 30)) 67)) nM
          have hz9 : ((w1.drew.alloc (.cells #[.int .i64 0, .int .i64 0, .int .i64 0, .int .i64 0, .int .i64 0, .int .i64 0, .int .i64 0, .int .i64 0, .int .i64 0, .int .i64 0, .slice none 0 0, .slice none 0 0, .slice none 0 0, .slice none 0 0, .int .i64 0, .int .i64 0, .slice none 0 0, .slice none 0 0] 34)).alloc (.cells (madeCells lyZ.toArray (nL * 30)) 67)).heap.size = w1.heap.size + 1 + 1 := by simp
          rw [hz9] at hm
          have lm : w1.heap.size ≤ w1.heap.size + 1 + 1 := by omega
          clear hz9
          refine hK.out _ _ s3 (fun _ => ?_)
          clear hK KK
          refine wpAnyH_take (i := 7) (v := ?vk10) rfl (by kernel_rfl) (by kernel_rfl) (by kernel_rfl) (fun _ _ _ h => h) (Or.inl ⟨by rfl, ?yk10⟩) s3 ?rk10
          case yk10 =>
            intro z hz
            have z0 := fresh_cell hz d0
            have z1 := fresh_cell hz d1
            have z2 := fresh_cell hz d2
            have z3 := fresh_cell hz d3
            have z4 := fresh_cell hz d4
            have z5 := fresh_cell hz d5
            have z6 := fresh_cell hz d6
            have z7 := fresh_cell hz d7
            go_simp
            try with_reducible rfl
          refine wpAnyH_ready (rs := [9]) (by kernel_rfl) (by simp) (AllReadyH.cons rfl (fun KK hK => ?_) AllReadyH.nil)
          refine step_store_row rfl 34 (.tmp 5) (.tmp 15) rfl (w1.heap.size) (wtA (wtS V (nW : Int) H K L D N M (w1.heap.size + 1) (w1.heap.size + 1 + 1) nL nM)) rfl rfl 34 _ hl sizeW rfl (wtA_one _) ?_
          have hfin := hidd (ws_fin (r := r) (V := V) (W := (nW : Int)) (H := H) (K := K) (L := L) (D := D) (N := N) (M := M) HBX.out HRS.out HF0.out HSZ0.out s3 hl hy hm ly lm ll (by omega) (by omega) HNL.out HNM.out)
          refine hK.out _ _ hfin.out.2 (fun _ => ?_)
          clear hK KK
          refine wpAnyH_done (by kernel_rfl) ?_ _
          go_wp2_with fail
          go_meet
          case rel => exact ⟨_, _, _, rfl, hfin.out.1, hfin.out.2⟩
      case b61 =>
        go_simp
        have s2 : Below w1.heap.size w1 ((w1.drew.alloc (.cells #[.int .i64 0, .int .i64 0, .int .i64 0, .int .i64 0, .int .i64 0, .int .i64 0, .int .i64 0, .int .i64 0, .int .i64 0, .int .i64 0, .slice none 0 0, .slice none 0 0, .slice none 0 0, .slice none 0 0, .int .i64 0, .int .i64 0, .slice none 0 0, .slice none 0 0] 34)).alloc (.cells (madeCells (mtL mtO0).toArray (nM * 3)) 29)) := s1.trans ((fresh_alloc _ _).mono s1.size)
        replace hl := (fresh_alloc (w1.drew.alloc (.cells #[.int .i64 0, .int .i64 0, .int .i64 0, .int .i64 0, .int .i64 0, .int .i64 0, .int .i64 0, .int .i64 0, .int .i64 0, .int .i64 0, .slice none 0 0, .slice none 0 0, .slice none 0 0, .slice none 0 0, .int .i64 0, .int .i64 0, .slice none 0 0, .slice none 0 0] 34)) (.cells (madeCells (mtL mtO0).toArray (nM * 3)) 29)).block _ (Array.getElem?_eq_some_iff.1 hl).1 |>.trans hl
        have hm := made_mt (w1.drew.alloc (.cells #[.int .i64 0, .int .i64 0, .int .i64 0, .int .i64 0, .int .i64 0, .int .i64 0, .int .i64 0, .int .i64 0, .int .i64 0, .int .i64 0, .slice none 0 0, .slice none 0 0, .slice none 0 0, .slice none 0 0, .int .i64 0, .int .i64 0, .slice none 0 0, .slice none 0 0] 34)) nM
        have hz9 : (w1.drew.alloc (.cells #[.int .i64 0, .int .i64 0, .int .i64 0, .int .i64 0, .int .i64 0, .int .i64 0, .int .i64 0, .int .i64 0, .int .i64 0, .int .i64 0, .slice none 0 0, .slice none 0 0, .slice none 0 0, .slice none 0 0, .int .i64 0, .int .i64 0, .slice none 0 0, .slice none 0 0] 34)).heap.size = w1.heap.size + 1 := by simp
        rw [hz9] at hm
        have lm : w1.heap.size ≤ w1.heap.size + 1 := by omega
        clear hz9
        refine hK.out _ _ s2 (fun _ => ?_)
        clear hK KK
        refine wpAnyH_ready (rs := [3]) (by kernel_rfl) (by simp) (AllReadyH.cons rfl (fun KK hK => ?b32) AllReadyH.nil)
        case b32 =>
          go_simp
          have s3 : Below w1.heap.size w1 (((w1.drew.alloc (.cells #[.int .i64 0, .int .i64 0, .int .i64 0, .int .i64 0, .int .i64 0, .int .i64 0, .int .i64 0, .int .i64 0, .int .i64 0, .int .i64 0, .slice none 0 0, .slice none 0 0, .slice none 0 0, .slice none 0 0, .int .i64 0, .int .i64 0, .slice none 0 0, .slice none 0 0] 34)).alloc (.cells (madeCells (mtL mtO0).toArray (nM * 3)) 29)).alloc (.cells (madeCells lyZ.toArray (nL * 30)) 67)) := s2.trans ((fresh_alloc _ _).mono s2.size)
          replace hl := (fresh_alloc ((w1.drew.alloc (.cells #[.int .i64 0, .int .i64 0, .int .i64 0, .int .i64 0, .int .i64 0, .int .i64 0, .int .i64 0, .int .i64 0, .int .i64 0, .int .i64 0, .slice none 0 0, .slice none 0 0, .slice none 0 0, .slice none 0 0, .int .i64 0, .int .i64 0, .slice none 0 0, .slice none 0 0] 34)).alloc (.cells (madeCells (mtL mtO0).toArray (nM * 3)) 29)) (.cells (madeCells lyZ.toArray (nL * 30)) 67)).block _ (Array.getElem?_eq_some_iff.1 hl).1 |>.trans hl
          replace hm := hm.alloc (.cells (madeCells lyZ.toArray (nL * 30)) 67)
          have hy := made_ly ((w1.drew.alloc (.cells #[.int .i64 0, .int .i64 0, .int .i64 0, .int .i64 0, .int .i64 0, .int .i64 0, .int .i64 0, .int .i64 0, .int .i64 0, .int .i64 0, .slice none 0 0, .slice none 0 0, .slice none 0 0, .slice none 0 0, .int .i64 0, .int .i64 0, .slice none 0 0, .slice none 0 0] 34)).alloc (.cells (madeCells (mtL mtO0).toArray (nM * 3)) 29)) nL
          have hz9 : ((w1.drew.alloc (.cells #[.int .i64 0, .int .i64 0, .int .i64 0, .int .i64 0, .int .i64 0, .int .i64 0, .int .i64 0, .int .i64 0, .int .i64 0, .int .i64 0, .slice none 0 0, .slice none 0 0, .slice none 0 0, .slice none 0 0, .int .i64 0, .int .i64 0, .slice none 0 0, .slice none 0 0] 34)).alloc (.cells (madeCells (mtL mtO0).toArray (nM * 3)) 29)).heap.size = w1.heap.size + 1 + 1 := by simp
          rw [hz9] at hy
          have ly : w1.heap.size ≤ w1.heap.size + 1 + 1 := by omega
          clear hz9
          refine hK.out _ _ s3 (fun _ => ?_)
          clear hK KK
          refine wpAnyH_take (i := 7) (v := ?vk11) rfl (by kernel_rfl) (by kernel_rfl) (by kernel_rfl) (fun _ _ _ h => h) (Or.inl ⟨by rfl, ?yk11⟩) s3 ?rk11
          case yk11 =>
            intro z hz
            have z0 := fresh_cell hz d0
            have z1 := fresh_cell hz d1
            have z2 := fresh_cell hz d2
            have z3 := fresh_cell hz d3
            have z4 := fresh_cell hz d4
            have z5 := fresh_cell hz d5
            have z6 := fresh_cell hz d6
            have z7 := fresh_cell hz d7
            go_simp
            try with_reducible rfl
          refine wpAnyH_ready (rs := [9]) (by kernel_rfl) (by simp) (AllReadyH.cons rfl (fun KK hK => ?_) AllReadyH.nil)
          refine step_store_row rfl 34 (.tmp 5) (.tmp 15) rfl (w1.heap.size) (wtA (wtS V (nW : Int) H K L D N M (w1.heap.size + 1 + 1) (w1.heap.size + 1) nL nM)) rfl rfl 34 _ hl sizeW rfl (wtA_one _) ?_
          have hfin := hidd (ws_fin (r := r) (V := V) (W := (nW : Int)) (H := H) (K := K) (L := L) (D := D) (N := N) (M := M) HBX.out HRS.out HF0.out HSZ0.out s3 hl hy hm ly lm ll (by omega) (by omega) HNL.out HNM.out)
          refine hK.out _ _ hfin.out.2 (fun _ => ?_)
          clear hK KK
          refine wpAnyH_done (by kernel_rfl) ?_ _
          go_wp2_with fail
          go_meet
          case rel => exact ⟨_, _, _, rfl, hfin.out.1, hfin.out.2⟩
  case rest =>
    obtain ⟨gy, gm, wl, rfl, HW1, HB1⟩ := hcut
    have HR1 := hidd (HR0.out.fresh HB1.out)
    clear d0 d1 d2 d3 d4 d5 d6 d7 hmy hmm HR0 HB1 HBX HRS HF0 HSZ0
    have hs1 : w.heap.size + 2 ≤ wc.heap.size := by have := HW1.out.size; have := HW1.out.hl; omega
    -- Embed
    have d0 : wc.cell? ⟨w.heap.size, 0, none⟩ = some (.int .i64 V) := HW1.out.box.cell (i := 0) (by decide)
    have d1 : wc.cell? ⟨w.heap.size, 1, none⟩ = some (.int .i64 (nW : Int)) := HW1.out.box.cell (i := 1) (by decide)
    have d2 : wc.cell? ⟨w.heap.size, 2, none⟩ = some (.int .i64 H) := HW1.out.box.cell (i := 2) (by decide)
    have d3 : wc.cell? ⟨w.heap.size, 3, none⟩ = some (.int .i64 K) := HW1.out.box.cell (i := 3) (by decide)
    have d4 : wc.cell? ⟨w.heap.size, 4, none⟩ = some (.int .i64 L) := HW1.out.box.cell (i := 4) (by decide)
    have d5 : wc.cell? ⟨w.heap.size, 5, none⟩ = some (.int .i64 D) := HW1.out.box.cell (i := 5) (by decide)
    have d6 : wc.cell? ⟨w.heap.size, 6, none⟩ = some (.int .i64 N) := HW1.out.box.cell (i := 6) (by decide)
    have d7 : wc.cell? ⟨w.heap.size, 7, none⟩ = some (.int .i64 M) := HW1.out.box.cell (i := 7) (by decide)
    have HTK := hidd (tokm_any HR1.out (by omega) V (nW : Int) H K L D N M (c := 69) (by decide) HD.out.P1 HD.out.P0 HD.out.P2)
    go_upto_region 3 with (go_at_call 67; refine HTK.out.mono ?_; rintro e x1 ⟨g1, rfl, hT⟩; have HT := hidd hT; have hw9 := HW1.out.call hrl hT.ex.choose_spec.2.2.chg; obtain ⟨v8, s8⟩ : ∃ v, x1.cell? ⟨wl, 8, none⟩ = some v := ⟨_, hw9.loc.cell (i := 8) (by decide)⟩; obtain ⟨v9, s9⟩ : ∃ v, x1.cell? ⟨wl, 9, none⟩ = some v := ⟨_, hw9.loc.cell (i := 9) (by decide)⟩; obtain ⟨v10, s10⟩ : ∃ v, x1.cell? ⟨wl, 10, none⟩ = some v := ⟨_, hw9.loc.cell (i := 10) (by decide)⟩; have fz := hw9.loc.frozen; clear hT hw9)
    obtain ⟨f1, ho1, hb1, hp1⟩ := HT.out.ex
    obtain ⟨q1, bd1, hS1, hR1⟩ := hp1.ex
    have G2 := hidd ((HW1.out.call hrl hp1.chg).setE ⟨V, (nW : Int), some ⟨g1, 0, none⟩, P, P, f1⟩ (Own.weaken ho1 hs1))
    have R2 := hidd (chgR hR1 hrl hbb HW1.out.hl (chg3 x1 wl 8 9 10 (.int .i64 V) (.int .i64 (nW : Int)) (.slice (some ⟨g1, 0, none⟩) P P)))
    have S2 := hidd hS1
    have F1 := hidd hb1
    obtain ⟨xE, HX0⟩ : ∃ x : WtD, Hid (x = { wtS V (nW : Int) H K L D N M gy gm nL nM with E := ⟨V, (nW : Int), some ⟨g1, 0, none⟩, P, P, f1⟩ }) := ⟨_, rfl⟩
    rw [← HX0.out] at G2
    clear HTK HT ho1 hb1 hp1 hS1 hR1 s8 s9 s10 fz HW1 HR1 d0 d1 d2 d3 d4 d5 d6 d7 hs1
    generalize ((x1.setCell ⟨wl, 8, none⟩ (.int .i64 V)).setCell ⟨wl, 9, none⟩ (.int .i64 (nW : Int))).setCell ⟨wl, 10, none⟩ (.slice (some ⟨g1, 0, none⟩) P P) = y1 at *
    have hs1 : w.heap.size + 2 ≤ y1.heap.size := by have := G2.out.size; have := G2.out.hl; omega
    -- Turns
    have d0 : y1.cell? ⟨w.heap.size, 0, none⟩ = some (.int .i64 V) := G2.out.box.cell (i := 0) (by decide)
    have d1 : y1.cell? ⟨w.heap.size, 1, none⟩ = some (.int .i64 (nW : Int)) := G2.out.box.cell (i := 1) (by decide)
    have d2 : y1.cell? ⟨w.heap.size, 2, none⟩ = some (.int .i64 H) := G2.out.box.cell (i := 2) (by decide)
    have d3 : y1.cell? ⟨w.heap.size, 3, none⟩ = some (.int .i64 K) := G2.out.box.cell (i := 3) (by decide)
    have d4 : y1.cell? ⟨w.heap.size, 4, none⟩ = some (.int .i64 L) := G2.out.box.cell (i := 4) (by decide)
    have d5 : y1.cell? ⟨w.heap.size, 5, none⟩ = some (.int .i64 D) := G2.out.box.cell (i := 5) (by decide)
    have d6 : y1.cell? ⟨w.heap.size, 6, none⟩ = some (.int .i64 N) := G2.out.box.cell (i := 6) (by decide)
    have d7 : y1.cell? ⟨w.heap.size, 7, none⟩ = some (.int .i64 M) := G2.out.box.cell (i := 7) (by decide)
    have HHD : Hid (∀ z : World, Calls Try.prog 69 #[.agg #[.int .i64 V, .int .i64 (nW : Int), .int .i64 H, .int .i64 K, .int .i64 L, .int .i64 D, .int .i64 N, .int .i64 M]] z fun e w' => e = .returned (.int .i64 ((nW : Int) / H)) ∧ Below z.heap.size z w') := fun z => headSize_any V (nW : Int) H K L D N M z HD.out.H1 HD.out.H4 HD.out.W2 HD.out.W3
    have hq0 : 0 ≤ (nW : Int) / H := Int.ediv_nonneg (by omega) (by have := HD.out.H1; omega)
    have hq1 : (nW : Int) / H / 2 = (tn : Int) := HD.out.t1
    obtain ⟨hh, hhe⟩ : ∃ z, z = (nW : Int) / H := ⟨_, rfl⟩
    rw [← hhe] at HHD hq0 hq1
    clear hhe
    obtain ⟨n4, HN4⟩ : ∃ n, Hid (n = 4 * tn) := ⟨_, rfl⟩
    have HA4 : Hid (wrap64 (wrap64 (hh.tdiv 2) * 4) = (n4 : Int)) := by
      have e1 : hh.tdiv 2 = (tn : Int) := by rw [Int.tdiv_eq_ediv_of_nonneg hq0]; exact hq1
      have h2 := HD.out.t2
      show _ = _
      rw [e1, HN4.out]
      unfold wrap64
      omega
    clear hq0 hq1
    have HBD : Hid (∀ z, Below y1.heap.size y1 z → Calls Try.prog 37 #[.pointer (some ⟨r, 0, none⟩), .int .u8 84, .int .i64 n4] z fun e w' => ∃ ao k, e = .returned (.slice ao n4 k) ∧ ∃ M', M'.length = n4 ∧ Byt M' ∧ RdA w' ao 1 n4 k (bV M') ∧ RdP y1 w' r bb B q1 bd1 (secL 84 M') (SecS 84 n4)) := fun z hz => (body_any (R2.out.fresh hz) (c := 84) (by decide) (n := n4) (by rw [HN4.out]; have := HD.out.t0; omega) (by rw [HN4.out]; have := HD.out.t2; omega)).mono (fun _ _ ⟨ao, k, e, M', h1, h2, h3, h4⟩ => ⟨ao, k, e, M', h1, h2, h3, h4.fresh1 hz⟩)
    go_upto_region 4 with (first
      | (go_at_call 69; refine (HHD.out _).mono ?_; rintro e x2 ⟨rfl, f2⟩; have F2 := hidd f2; clear f2)
      | (go_at_call 37; rw [HA4.out]; refine (HBD.out _ F2.out).mono ?_; rintro e x3 ⟨ao, k3, rfl, M3, hl3, hb3, hrd3, hp3⟩; have HL3 := hidd hl3; have HB3 := hidd hb3; have HP3 := hidd hp3; have HTN := hidd (turnsof_any hrd3 hb3 HN4.out HD.out.t0 (by have := HD.out.t2; omega)); clear hl3 hb3 hrd3 hp3)
      | (go_at_call 68; refine HTN.out.mono ?_; rintro e x4 ⟨rfl, hr4, f4⟩; have HR4 := hidd hr4; have F4 := hidd f4; have hw9 := (G2.out.call hrl HP3.out.chg).fresh f4; obtain ⟨v11, s11⟩ : ∃ v, x4.cell? ⟨wl, 11, none⟩ = some v := ⟨_, hw9.loc.cell (i := 11) (by decide)⟩; have fz := hw9.loc.frozen; clear hr4 f4 hw9))
    obtain ⟨q2, bd2, hS3, hR3⟩ := HP3.out.ex
    have hsz3 := HP3.out.chg.size
    have G3 := hidd (((G2.out.call hrl HP3.out.chg).fresh F4.out).setT (some ⟨x3.heap.size, 0, none⟩) tn tn (tvC M3) (tvS M3) (own_of_rows HR4.out (by omega) (Nat.le_refl _) (by have := HD.out.t2; unfold maxLen; omega) (fun _ _ => rfl)))
    have R3 := hidd (chgR (hR3.fresh F4.out) hrl hbb G2.out.hl (Chg.of_set x4 wl 11 (.slice (some ⟨x3.heap.size, 0, none⟩) tn tn)))
    have S3 : Hid (RdS B p bad q2 bd2 (secL 69 (nbL f1 P) ++ secL 84 (trL (tvC M3) (tvS M3) tn)) (Two (SecS 69 P) (SecS 84 (4 * tn)))) := by
      have e1 : trL (tvC M3) (tvS M3) tn = M3 := by
        have hl := HL3.out
        rw [HN4.out] at hl
        rw [trL_tv HB3.out tn (by omega)]
        exact List.take_of_length_le (by omega)
      rw [e1, ← HN4.out]
      exact S2.out.trans hS3
    obtain ⟨xT, HX1⟩ : ∃ x : WtD, Hid (x = { xE with tO := some ⟨x3.heap.size, 0, none⟩, tn := tn, tc := tn, tC := tvC M3, tS := tvS M3 }) := ⟨_, rfl⟩
    rw [← HX1.out] at G3
    have HTR : Hid (∀ i, i < tn → (-32768 ≤ tvC M3 i ∧ tvC M3 i ≤ 32767) ∧ (-32768 ≤ tvS M3 i ∧ tvS M3 i ≤ 32767)) := fun i _ => ⟨by have h1 := HB3.out.at_ (4 * i); have h2 := HB3.out.at_ (4 * i + 1); exact i16v_bd (by omega), by have h1 := HB3.out.at_ (4 * i + 2); have h2 := HB3.out.at_ (4 * i + 3); exact i16v_bd (by omega)⟩
    generalize tvC M3 = tC at *
    generalize tvS M3 = tS at *
    clear HTN HBD HHD HA4 HP3 hS3 hR3 HR4 F4 F2 HL3 HB3 G2 R2 S2 s11 fz d0 d1 d2 d3 d4 d5 d6 d7 hs1 hsz3
    generalize x4.setCell ⟨wl, 11, none⟩ (.slice (some ⟨x3.heap.size, 0, none⟩) tn tn) = y2 at *
    generalize x3.heap.size = gt at *
    obtain ⟨M0, HM0⟩ : ∃ M, Hid (M = secL 69 (nbL f1 P) ++ secL 84 (trL tC tS tn)) := ⟨_, rfl⟩
    obtain ⟨S0, HS0⟩ : ∃ S, Hid (S = Two (SecS 69 P) (SecS 84 (4 * tn))) := ⟨_, rfl⟩
    rw [← HM0.out, ← HS0.out] at S3
    have HY0 : Hid (xT.yO = some ⟨gy, 0, none⟩ ∧ xT.yn = nL ∧ xT.yc = nL ∧ xT.mO = some ⟨gm, 0, none⟩ ∧ xT.mn = nM ∧ xT.mc = nM ∧ xT.ly = fun _ => lyO0) := by rw [HX1.out, HX0.out]; exact ⟨rfl, rfl, rfl, rfl, rfl, rfl, rfl⟩
    -- Layers
    have HP0 : Hid (LpY w y2 r bb wl [V, (nW : Int), H, K, L, D, N, M] xT B p bad M0 S0 nW a b c kv D 0 xT.ly) := ⟨⟨G3.out, q2, bd2, S3.out.zero _, R3.out⟩, fun j hj => absurd hj (by omega)⟩
    have k12 : y2.cell? ⟨wl, 12, none⟩ = some (.slice (some ⟨gy, 0, none⟩) nL nL) := (ws_cells G3.out HY0.out.1 HY0.out.2.1 HY0.out.2.2.1).1
    clear G3 R3 S3
    go_wp2
    clear k12
    go_loopw [6, 31] (fun _ iv wr => ∃ n : Nat, n ≤ nL ∧ iv = .int .i64 n ∧ Hid (∃ ly, LpY w wr r bb wl [V, (nW : Int), H, K, L, D, N, M] xT B p bad M0 S0 nW a b c kv D n ly)) (fun _ iv _ => nL - (intOf iv).toNat)
    case atStart => exact ⟨0, by omega, by simp, _, HP0.out⟩
    case round =>
      clear HP0
      obtain ⟨n, hn, rfl, HP⟩ := hrel
      obtain ⟨ly, hly⟩ := HP.out
      have HLY := hidd hly
      clear HP hly
      by_cases hlt : n < nL
      · have i1 : (n : Int) < (nL : Int) := by omega
        have i0 : (0 : Int) ≤ (n : Int) := by omega
        have i2 : nL ≤ 4 := HD.out.L4.2
        obtain ⟨q3, bd3, hS4, hR4⟩ := HLY.out.st.ex
        have HS4 := hidd hS4
        have hsz := HLY.out.st.ws.size
        have hhl := HLY.out.st.ws.hl
        have HCY : Hid (Calls Try.prog 70 #[.pointer (some ⟨r, 0, none⟩), .agg #[.int .i64 V, .int .i64 (nW : Int), .int .i64 H, .int .i64 K, .int .i64 L, .int .i64 D, .int .i64 N, .int .i64 M]] wr.drew fun e w' => ∃ l, e = .returned (.agg (lyA l)) ∧ LyQ wr.drew w' r bb B q3 bd3 nW a b c kv D l) := layer_any (hR4.fresh (Below.refl _ _).drew) (by show bb < wr.heap.size; omega) V H K L D N M kv nW a b c HD.out.H1 HD.out.H4 HD.out.W2 HD.out.W3 HD.out.kve HD.out.kv0 HD.out.kv1 HD.out.pa HD.out.pb HD.out.pc HD.out.pd HD.out.a0 HD.out.b0 HD.out.c0 HD.out.a1 HD.out.b1 HD.out.c1
        have s0 := ws_cells (HLY.out.st.ws.fresh (Below.refl _ _).drew) HY0.out.1 HY0.out.2.1 HY0.out.2.2.1
        clear hS4 hR4 hsz hhl
        go_upto_region 7 with fail
        refine wp_region_held_drew (S := fun z => z.cell? ⟨wl, 12, none⟩ = some (.slice (some ⟨gy, 0, none⟩) nL nL) ∧ z.cell? ⟨w.heap.size, 0, none⟩ = some (.int .i64 V) ∧ z.cell? ⟨w.heap.size, 1, none⟩ = some (.int .i64 (nW : Int)) ∧ z.cell? ⟨w.heap.size, 2, none⟩ = some (.int .i64 H) ∧ z.cell? ⟨w.heap.size, 3, none⟩ = some (.int .i64 K) ∧ z.cell? ⟨w.heap.size, 4, none⟩ = some (.int .i64 L) ∧ z.cell? ⟨w.heap.size, 5, none⟩ = some (.int .i64 D) ∧ z.cell? ⟨w.heap.size, 6, none⟩ = some (.int .i64 N) ∧ z.cell? ⟨w.heap.size, 7, none⟩ = some (.int .i64 M)) (by kernel_rfl) s0 (fun _ => ?_)
        refine wpAnyH_take (i := 0) (v := ?vy0) rfl (by kernel_rfl) (by kernel_rfl) (by kernel_rfl) (fun _ _ _ h => h) (Or.inl ⟨by rfl, ?yy0⟩) s0 ?ry0
        case yy0 =>
          intro z hz
          obtain ⟨z8, z0, z1, z2, z3, z4, z5, z6, z7⟩ := hz
          go_simp
          try with_reducible rfl
        refine wpAnyH_take (i := 1) (v := ?vy1) rfl (by kernel_rfl) (by kernel_rfl) (by kernel_rfl) (fun _ _ _ h => h) (Or.inl ⟨by rfl, ?yy1⟩) s0 ?ry1
        case yy1 =>
          intro z hz
          obtain ⟨z8, z0, z1, z2, z3, z4, z5, z6, z7⟩ := hz
          go_simp
          try with_reducible rfl
        refine wpAnyH_take (i := 2) (v := ?vy2) rfl (by kernel_rfl) (by kernel_rfl) (by kernel_rfl) (fun _ _ _ h => h) (Or.inl ⟨by rfl, ?yy2⟩) s0 ?ry2
        case yy2 =>
          intro z hz
          obtain ⟨z8, z0, z1, z2, z3, z4, z5, z6, z7⟩ := hz
          go_simp
          try with_reducible rfl
        refine wpAnyH_take (i := 3) (v := ?vy3) rfl (by kernel_rfl) (by kernel_rfl) (by kernel_rfl) (fun _ _ _ h => h) (Or.inl ⟨by rfl, ?yy3⟩) s0 ?ry3
        case yy3 =>
          intro z hz
          obtain ⟨z8, z0, z1, z2, z3, z4, z5, z6, z7⟩ := hz
          go_simp
          try with_reducible rfl
        refine wpAnyH_take (i := 4) (v := ?vy4) rfl (by kernel_rfl) (by kernel_rfl) (by kernel_rfl) (fun _ _ _ h => h) (Or.inl ⟨by rfl, ?yy4⟩) s0 ?ry4
        case yy4 =>
          intro z hz
          obtain ⟨z8, z0, z1, z2, z3, z4, z5, z6, z7⟩ := hz
          go_simp
          try with_reducible rfl
        refine wpAnyH_ready (rs := [5]) (by kernel_rfl) (by simp) (AllReadyH.cons rfl (fun KK hK => ?_) AllReadyH.nil)
        go_simp
        refine HCY.out.mono ?_
        rintro e x5 ⟨l, rfl, hq⟩
        have hw5 := (HLY.out.st.ws.fresh (Below.refl _ _).drew).call hrl hq.rdp.chg
        have s5 := ws_cells hw5 HY0.out.1 HY0.out.2.1 HY0.out.2.2.1
        refine hK.out _ _ s5 (fun _ => ?_)
        clear hK KK
        refine wpAnyH_take (i := 6) (v := ?vy6) rfl (by kernel_rfl) (by kernel_rfl) (by kernel_rfl) (fun _ _ _ h => h) (Or.inl ⟨by rfl, ?yy6⟩) s5 ?ry6
        case yy6 =>
          intro z hz
          obtain ⟨z8, z0, z1, z2, z3, z4, z5, z6, z7⟩ := hz
          go_simp
          try with_reducible rfl
        have HNX := hidd (lpy_next hrl hbb HY0.out.1 HLY.out (Below.refl _ _).drew HS4.out hq)
        have hth := (hw5.yrow (i := n) HY0.out.1 (by show n < xT.yn; rw [HY0.out.2.1]; exact hlt)).1
        refine wpAnyH_ready (rs := [7]) (by kernel_rfl) (by simp) (AllReadyH.cons rfl (fun KK hK => ?_) AllReadyH.nil)
        refine step_store_mid rfl 67 (.tmp 40) (.tmp 39) rfl gy (n * 30) (lyA l) rfl rfl hth sizeL (lyA_one _) ?_
        refine hK.out _ _ (ws_cells HNX.out.st.ws HY0.out.1 HY0.out.2.1 HY0.out.2.2.1) (fun _ => ?_)
        clear hK KK hq hw5 hth s0 s5 HCY HS4 HLY
        refine wpAnyH_done (by kernel_rfl) ?_ _

        go_wp2
        go_roundw
        case rel => exact ⟨n + 1, by omega, by go_num, _, HNX.out⟩
        case measure => simp [intOf]; omega
      · have i1 : ¬ (n : Int) < (nL : Int) := by omega
        have hnn : nL = n := by omega
        subst hnn
        -- behind the layers
        obtain ⟨q3, bd3, hS4, hR4⟩ := HLY.out.st.ex
        have HW := hidd HLY.out.st.ws
        have HKY := hidd HLY.out.kn
        have HS4 := hidd hS4
        have HR4 := hidd hR4
        clear HLY hS4 hR4
        obtain ⟨xL, HXL⟩ : ∃ x : WtD, Hid (x = { xT with ly := ly }) := ⟨_, rfl⟩
        rw [← HXL.out] at HW
        have hs1 : w.heap.size + 2 ≤ wr.heap.size := by have := HW.out.size; have := HW.out.hl; omega
        have d1 : wr.cell? ⟨w.heap.size, 1, none⟩ = some (.int .i64 (nW : Int)) := HW.out.box.cell (i := 1) (by decide)
        have HHF : Hid (∀ z : World, Calls Try.prog 61 #[.int .u8 70, .int .i64 (nW : Int)] z fun e w' => ∃ v', e = .returned v' ∧ OwB w' z.heap.size v' (70 :: num nW 4) ∧ Below z.heap.size z w') := fun z => header_any z (by have := HD.out.W3; omega)
        go_upto_region 10 with (first
          | (go_at_call 61; refine (HHF.out _).mono ?_; rintro e x6 ⟨v6, rfl, hv6, f6⟩; have HM := hidd (meethdr HR4.out f6 (by decide) hv6); clear hv6 f6)
          | (go_at_call 35; refine HM.out.mono ?_; rintro e x7 ⟨rfl, hp7⟩; have HP7 := hidd hp7; clear hp7))
        obtain ⟨q5, bd5, hS7, hR7⟩ := HP7.out.ex
        have hsz7 := HP7.out.chg.size
        have HW7 := hidd (HW.out.call hrl HP7.out.chg)
        have HNR := hidd (narrow_any hR7 (by omega) (n := nW) (by have := HD.out.W2; omega) (by have := HD.out.W3; omega))
        have HS7 := hidd hS7
        clear hS7 hR7 HM HHF d1 HR4 HW
        have d1 : x7.cell? ⟨w.heap.size, 1, none⟩ = some (.int .i64 (nW : Int)) := HW7.out.box.cell (i := 1) (by decide)
        go_upto_region 11 with (go_at_call 71; refine HNR.out.mono ?_; rintro e x8 ⟨rfl, fF, ho, hb, hp⟩; have HO8 := hidd ho; have HB8 := hidd hb; have HP8 := hidd hp; have hw9 := HW7.out.call hrl hp.chg; obtain ⟨v13, s13⟩ : ∃ v, x8.cell? ⟨wl, 13, none⟩ = some v := ⟨_, hw9.loc.cell (i := 13) (by decide)⟩; have fz := hw9.loc.frozen; clear ho hb hp hw9)
        obtain ⟨q6, bd6, hS8, hR8⟩ := HP8.out.ex
        have hsz8 := HP8.out.chg.size
        have G4 := hidd ((HW7.out.call hrl HP8.out.chg).setF ⟨some ⟨x7.heap.size, 0, none⟩, nW, nW, fF⟩ (Own.weaken HO8.out (by omega)))
        have R4 := hidd (chgR hR8 hrl hbb HW7.out.hl (Chg.of_set x8 wl 13 (.slice (some ⟨x7.heap.size, 0, none⟩) nW nW)))
        have S4 : Hid (RdS B p bad q6 bd6 ((M0 ++ yB ly nL) ++ secL 70 (nbL fF nW)) (Two (Two S0 (Rep (SecS 76 (lenM nW a b c 7 + 7)) nL)) (SecS 70 nW))) := HS4.out.trans (sec_two HS7.out hS8 (fun _ e => e))
        obtain ⟨xF, HX2⟩ : ∃ x : WtD, Hid (x = { xL with F := ⟨some ⟨x7.heap.size, 0, none⟩, nW, nW, fF⟩ }) := ⟨_, rfl⟩
        rw [← HX2.out] at G4
        clear HNR HO8 HP8 hS8 hR8 HW7 HS7 HP7 HS4 s13 fz d1 hsz7 hsz8 hs1
        generalize x8.setCell ⟨wl, 13, none⟩ (.slice (some ⟨x7.heap.size, 0, none⟩) nW nW) = y3 at *
        generalize x7.heap.size = gF at *
        have hs1 : w.heap.size + 2 ≤ y3.heap.size := by have := G4.out.size; have := G4.out.hl; omega
        -- Head
        have d0 : y3.cell? ⟨w.heap.size, 0, none⟩ = some (.int .i64 V) := G4.out.box.cell (i := 0) (by decide)
        have d1 : y3.cell? ⟨w.heap.size, 1, none⟩ = some (.int .i64 (nW : Int)) := G4.out.box.cell (i := 1) (by decide)
        have d2 : y3.cell? ⟨w.heap.size, 2, none⟩ = some (.int .i64 H) := G4.out.box.cell (i := 2) (by decide)
        have d3 : y3.cell? ⟨w.heap.size, 3, none⟩ = some (.int .i64 K) := G4.out.box.cell (i := 3) (by decide)
        have d4 : y3.cell? ⟨w.heap.size, 4, none⟩ = some (.int .i64 L) := G4.out.box.cell (i := 4) (by decide)
        have d5 : y3.cell? ⟨w.heap.size, 5, none⟩ = some (.int .i64 D) := G4.out.box.cell (i := 5) (by decide)
        have d6 : y3.cell? ⟨w.heap.size, 6, none⟩ = some (.int .i64 N) := G4.out.box.cell (i := 6) (by decide)
        have d7 : y3.cell? ⟨w.heap.size, 7, none⟩ = some (.int .i64 M) := G4.out.box.cell (i := 7) (by decide)
        have HTK := hidd (tokm_any R4.out (by omega) V (nW : Int) H K L D N M (c := 72) (by decide) HD.out.P1 HD.out.P0 HD.out.P2)
        go_upto_region 12 with (go_at_call 67; refine HTK.out.mono ?_; rintro e x9 ⟨gQ, rfl, hT⟩; have HT := hidd hT; have hw9 := G4.out.call hrl hT.ex.choose_spec.2.2.chg; obtain ⟨v8, s8⟩ : ∃ v, x9.cell? ⟨wl, 14, none⟩ = some v := ⟨_, hw9.loc.cell (i := 14) (by decide)⟩; obtain ⟨v9, s9⟩ : ∃ v, x9.cell? ⟨wl, 15, none⟩ = some v := ⟨_, hw9.loc.cell (i := 15) (by decide)⟩; obtain ⟨v10, s10⟩ : ∃ v, x9.cell? ⟨wl, 16, none⟩ = some v := ⟨_, hw9.loc.cell (i := 16) (by decide)⟩; have fz := hw9.loc.frozen; clear hT hw9)
        obtain ⟨fQ, ho1, hb1, hp1⟩ := HT.out.ex
        obtain ⟨q7, bd7, hS1, hR1⟩ := hp1.ex
        have G5 := hidd ((G4.out.call hrl hp1.chg).setQ ⟨V, (nW : Int), some ⟨gQ, 0, none⟩, P, P, fQ⟩ (Own.weaken ho1 hs1))
        have R5 := hidd (chgR hR1 hrl hbb G4.out.hl (chg3 x9 wl 14 15 16 (.int .i64 V) (.int .i64 (nW : Int)) (.slice (some ⟨gQ, 0, none⟩) P P)))
        have S5 := hidd (S4.out.trans hS1)
        have FQ := hidd hb1
        obtain ⟨xQ, HX3⟩ : ∃ x : WtD, Hid (x = { xF with Q := ⟨V, (nW : Int), some ⟨gQ, 0, none⟩, P, P, fQ⟩ }) := ⟨_, rfl⟩
        rw [← HX3.out] at G5
        clear HTK HT ho1 hb1 hp1 hS1 hR1 s8 s9 s10 fz G4 R4 S4 d0 d1 d2 d3 d4 d5 d6 d7 hs1
        generalize ((x9.setCell ⟨wl, 14, none⟩ (.int .i64 V)).setCell ⟨wl, 15, none⟩ (.int .i64 (nW : Int))).setCell ⟨wl, 16, none⟩ (.slice (some ⟨gQ, 0, none⟩) P P) = y4 at *
        obtain ⟨M1, HM1⟩ : ∃ M', Hid (M' = ((M0 ++ yB ly nL) ++ secL 70 (nbL fF nW)) ++ secL 72 (nbL fQ P)) := ⟨_, rfl⟩
        obtain ⟨S1, HS1⟩ : ∃ S, Hid (S = Two (Two (Two S0 (Rep (SecS 76 (lenM nW a b c 7 + 7)) nL)) (SecS 70 nW)) (SecS 72 P)) := ⟨_, rfl⟩
        rw [← HM1.out, ← HS1.out] at S5
        have HY1 : Hid (xQ.mO = some ⟨gm, 0, none⟩ ∧ xQ.mn = nM ∧ xQ.mc = nM) := by
          have h0 := HY0.out
          rw [HX3.out, HX2.out, HXL.out]
          exact ⟨h0.2.2.2.1, h0.2.2.2.2.1, h0.2.2.2.2.2.1⟩
        -- Medusa
        have HU0 : Hid (LpU w y4 r bb wl [V, (nW : Int), H, K, L, D, N, M] xQ B p bad M1 S1 V (nW : Int) P 0 xQ.md) := ⟨⟨G5.out, q7, bd7, S5.out.zero _, R5.out⟩, fun j hj => absurd hj (by omega)⟩
        have k17 : y4.cell? ⟨wl, 17, none⟩ = some (.slice (some ⟨gm, 0, none⟩) nM nM) := (ws_cells17 G5.out HY1.out.1 HY1.out.2.1 HY1.out.2.2).1
        clear G5 R5 S5
        go_wp2
        clear k17
        go_loopw [7, 59] (fun _ iv wr => ∃ n : Nat, n ≤ nM ∧ iv = .int .i64 n ∧ Hid (∃ md, LpU w wr r bb wl [V, (nW : Int), H, K, L, D, N, M] xQ B p bad M1 S1 V (nW : Int) P n md)) (fun _ iv _ => nM - (intOf iv).toNat)
        case atStart => exact ⟨0, by omega, by simp, _, HU0.out⟩
        case round =>
          clear HU0
          obtain ⟨m, hm, rfl, HPm⟩ := hrel
          obtain ⟨md, hmd⟩ := HPm.out
          have HMD := hidd hmd
          clear HPm hmd
          by_cases hltm : m < nM
          · have j1 : (m : Int) < (nM : Int) := by omega
            have j0 : (0 : Int) ≤ (m : Int) := by omega
            have j2 : nM ≤ 4 := HD.out.M4
            obtain ⟨q8, bd8, hS6, hR6⟩ := HMD.out.st.ex
            have HS6 := hidd hS6
            have hsz := HMD.out.st.ws.size
            have hhl := HMD.out.st.ws.hl
            have HCM : Hid (Calls Try.prog 67 #[.pointer (some ⟨r, 0, none⟩), .agg #[.int .i64 V, .int .i64 (nW : Int), .int .i64 H, .int .i64 K, .int .i64 L, .int .i64 D, .int .i64 N, .int .i64 M], .int .u8 77] wr.drew fun e w' => ∃ g, e = .returned (.agg #[.int .i64 V, .int .i64 (nW : Int), .slice (some ⟨g, 0, none⟩) P P]) ∧ TokP wr.drew w' r bb B q8 bd8 77 g P) := tokm_any (hR6.fresh (Below.refl _ _).drew) (by show bb < wr.heap.size; omega) V (nW : Int) H K L D N M (c := 77) (by decide) HD.out.P1 HD.out.P0 HD.out.P2
            have s0 := ws_cells17 (HMD.out.st.ws.fresh (Below.refl _ _).drew) HY1.out.1 HY1.out.2.1 HY1.out.2.2
            clear hS6 hR6 hsz hhl
            go_upto_region 15 with fail
            refine wp_region_held_drew (S := fun z => z.cell? ⟨wl, 17, none⟩ = some (.slice (some ⟨gm, 0, none⟩) nM nM) ∧ z.cell? ⟨w.heap.size, 0, none⟩ = some (.int .i64 V) ∧ z.cell? ⟨w.heap.size, 1, none⟩ = some (.int .i64 (nW : Int)) ∧ z.cell? ⟨w.heap.size, 2, none⟩ = some (.int .i64 H) ∧ z.cell? ⟨w.heap.size, 3, none⟩ = some (.int .i64 K) ∧ z.cell? ⟨w.heap.size, 4, none⟩ = some (.int .i64 L) ∧ z.cell? ⟨w.heap.size, 5, none⟩ = some (.int .i64 D) ∧ z.cell? ⟨w.heap.size, 6, none⟩ = some (.int .i64 N) ∧ z.cell? ⟨w.heap.size, 7, none⟩ = some (.int .i64 M)) (by kernel_rfl) s0 (fun _ => ?_)
            refine wpAnyH_take (i := 0) (v := ?vm0) rfl (by kernel_rfl) (by kernel_rfl) (by kernel_rfl) (fun _ _ _ h => h) (Or.inl ⟨by rfl, ?ym0⟩) s0 ?rm0
            case ym0 =>
              intro z hz
              obtain ⟨z8, z0, z1, z2, z3, z4, z5, z6, z7⟩ := hz
              go_simp
              try with_reducible rfl
            refine wpAnyH_take (i := 1) (v := ?vm1) rfl (by kernel_rfl) (by kernel_rfl) (by kernel_rfl) (fun _ _ _ h => h) (Or.inl ⟨by rfl, ?ym1⟩) s0 ?rm1
            case ym1 =>
              intro z hz
              obtain ⟨z8, z0, z1, z2, z3, z4, z5, z6, z7⟩ := hz
              go_simp
              try with_reducible rfl
            refine wpAnyH_take (i := 2) (v := ?vm2) rfl (by kernel_rfl) (by kernel_rfl) (by kernel_rfl) (fun _ _ _ h => h) (Or.inl ⟨by rfl, ?ym2⟩) s0 ?rm2
            case ym2 =>
              intro z hz
              obtain ⟨z8, z0, z1, z2, z3, z4, z5, z6, z7⟩ := hz
              go_simp
              try with_reducible rfl
            refine wpAnyH_take (i := 3) (v := ?vm3) rfl (by kernel_rfl) (by kernel_rfl) (by kernel_rfl) (fun _ _ _ h => h) (Or.inl ⟨by rfl, ?ym3⟩) s0 ?rm3
            case ym3 =>
              intro z hz
              obtain ⟨z8, z0, z1, z2, z3, z4, z5, z6, z7⟩ := hz
              go_simp
              try with_reducible rfl
            refine wpAnyH_take (i := 4) (v := ?vm4) rfl (by kernel_rfl) (by kernel_rfl) (by kernel_rfl) (fun _ _ _ h => h) (Or.inl ⟨by rfl, ?ym4⟩) s0 ?rm4
            case ym4 =>
              intro z hz
              obtain ⟨z8, z0, z1, z2, z3, z4, z5, z6, z7⟩ := hz
              go_simp
              try with_reducible rfl
            refine wpAnyH_ready (rs := [5]) (by kernel_rfl) (by simp) (AllReadyH.cons rfl (fun KK hK => ?_) AllReadyH.nil)
            go_simp
            refine HCM.out.mono ?_
            rintro e x5 ⟨g5, rfl, hq⟩
            have hw5 := (HMD.out.st.ws.fresh (Below.refl _ _).drew).call hrl hq.ex.choose_spec.2.2.chg
            have s5 := ws_cells17 hw5 HY1.out.1 HY1.out.2.1 HY1.out.2.2
            refine hK.out _ _ s5 (fun _ => ?_)
            clear hK KK
            refine wpAnyH_take (i := 6) (v := ?vm6) rfl (by kernel_rfl) (by kernel_rfl) (by kernel_rfl) (fun _ _ _ h => h) (Or.inl ⟨by rfl, ?ym6⟩) s5 ?rm6
            case ym6 =>
              intro z hz
              obtain ⟨z8, z0, z1, z2, z3, z4, z5, z6, z7⟩ := hz
              go_simp
              try with_reducible rfl
            obtain ⟨md2, hnx⟩ := lpu_next hrl hbb HY1.out.1 HMD.out (Below.refl _ _).drew HS6.out hq
            have HNX := hidd hnx
            have hrw := hw5.mrow (i := m) HY1.out.1 (by show m < xQ.mn; rw [HY1.out.2.1]; exact hltm)
            have hth : x5.there gm (m * 3) 3 := fun t ht => ⟨by obtain ⟨v, hv⟩ := hrw.1 t ht; rw [hv]; rfl, hrw.2.1 _⟩
            refine wpAnyH_ready (rs := [7]) (by kernel_rfl) (by simp) (AllReadyH.cons rfl (fun KK hK => ?_) AllReadyH.nil)
            refine step_store_mid rfl 29 (.tmp 68) (.tmp 67) rfl gm (m * 3) #[.int .i64 V, .int .i64 (nW : Int), .slice (some ⟨g5, 0, none⟩) P P] rfl rfl hth (by kernel_rfl) (by kernel_rfl) ?_
            refine hK.out _ _ (ws_cells17 HNX.out.st.ws HY1.out.1 HY1.out.2.1 HY1.out.2.2) (fun _ => ?_)
            clear hK KK hq hw5 hth hrw hnx s0 s5 HCM HS6 HMD
            refine wpAnyH_done (by kernel_rfl) ?_ _

            go_wp2
            go_roundw
            case rel => exact ⟨m + 1, by omega, by go_num, md2, HNX.out⟩
            case measure => simp [intOf]; omega
          · have j1 : ¬ (m : Int) < (nM : Int) := by omega
            have hmm : nM = m := by omega
            subst hmm
            obtain ⟨xx, HXX⟩ : ∃ x : WtD, Hid (x = { xQ with md := md }) := ⟨_, rfl⟩
            have RG' := row_range (L := wtL xx) (by rw [HXX.out]; exact HMD.out.st.ws.loc) rfl
            obtain ⟨T9, hT⟩ : ∃ T9, T9 = wtA xx := ⟨_, rfl⟩
            have RG : Hid (wr.rangeAt wl 0 T9.toList) := by rw [hT]; exact RG'
            have SL : Hid ((Try.prog.info? 34).map (·.size) = some T9.toList.length) := by rw [hT]; exact sizeW
            have S30 : Hid ((Try.prog.info? 34).map (·.size) = some T9.size) := by rw [hT]; exact sizeW
            have H1 : Hid (T9.all (·.oneCell') = true) := by rw [hT]; exact wtA_one _
            obtain ⟨old, hold, hosz, _⟩ := HMD.out.st.ws.res
            have HOLD := hidd hold
            have HOSZ : Hid (old.size = T9.size) := by rw [hT]; exact hosz
            have HTT := hidd hT
            clear hold hosz hT RG'
            go_wp2_with (refine wpList_load_mid rfl 34 _ rfl wl 0 rfl T9.toList _ RG.out Try.underlying34 rfl SL.out (wpList_store_row rfl 34 _ _ rfl (w.heap.size + 1) T9 rfl rfl 34 old HOLD.out S30.out HOSZ.out H1.out ?_))
            refine bodyPost_ret (v := .agg T9) ?_ ?_ ?_
            · exact results_cell_row Try.results38 _ _ (w.heap.size + 1) 34 _ (0, 0) _ rfl (setRow_heap _ _ _ _ _ _ HOLD.out) Try.underlying34 rfl S30.out
            · rfl
            · refine ⟨xx, by rw [HTT.out], ?_⟩
              rw [HXX.out]
              have hh := HMD.out
              rw [HM1.out, HS1.out, HM0.out, HS0.out] at hh
              exact wtw_of T9 hrl hbb HX0.out HX1.out (by rw [HX2.out, HXL.out]) HX3.out HTR.out F1.out HB8.out FQ.out HKY.out hh
end Go.Proofs.Ytilghknalbhacaa
