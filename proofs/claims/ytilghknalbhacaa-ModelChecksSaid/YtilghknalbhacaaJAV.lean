import Derived.Test.YtilghknalbhacaaCpL
import Derived.Test.YtilghknalbhacaaCpQm
import Derived.Test.YtilghknalbhacaaLFX
namespace Go.Proofs.Ytilghknalbhacaa
open Go.RowKit
/-! Models in memory. -/
/-- a model of weights like x lies at g -/
structure Mdl (W : World) (g : Nat) (x y : WtD) : Prop where
  row : W.rowIs g 76 18 (wtc y)
  rd : WtR W y
  sm : Sm x y
theorem Mdl.fresh {W W' : World} {g : Nat} {x y : WtD} (h : Mdl W g x y) (f : Below W.heap.size W W') : Mdl W' g x y := ⟨row_fresh h.row f, h.rd.fresh f, h.sm⟩
end Go.Proofs.Ytilghknalbhacaa
namespace Go.Proofs.Ytilghknalbhacaa
open Go.RowKit
/-! New, where the weights fit. -/
set_option maxRecDepth 100000 in
set_option maxHeartbeats 40000000 in
theorem new_ok {w : World} {x : WtD} (hx : WtR w x) (hm : x.may) (hp : WtP x) :
    Calls Try.prog 23 #[.agg #[.int .i64 x.V, .int .i64 x.W, .int .i64 x.H, .int .i64 x.K, .int .i64 x.L, .int .i64 x.D, .int .i64 x.N, .int .i64 x.M, .int .i64 x.E.R, .int .i64 x.E.C, .slice x.E.O x.E.n x.E.c, .slice x.tO x.tn x.tc, .slice x.yO x.yn x.yc, .slice x.F.O x.F.n x.F.c, .int .i64 x.Q.R, .int .i64 x.Q.C, .slice x.Q.O x.Q.n x.Q.c, .slice x.mO x.mn x.mc]] w fun e w' => ∃ y g, e = .returned (.tuple #[.pointer (some ⟨g, 0, none⟩), .int .i64 0]) ∧ Mdl w' g x y ∧ w.heap.size ≤ g ∧ Below w.heap.size w w' := by
  obtain ⟨T, hT⟩ : ∃ T, T = wtA x := ⟨_, rfl⟩
  have HCK : Hid (∀ z, Below w.heap.size w z → Calls Try.prog 22 #[.agg T] z fun e w' => e = .returned (.int .i64 0) ∧ Below z.heap.size z w') := fun z hz => by rw [hT]; exact check_any (hx.fresh hz) 0 (.inr (.inr ⟨hm, hp, rfl⟩))
  have HCO : Hid (∀ z, Below w.heap.size w z → Calls Try.prog 39 #[.agg T] z fun e w' => ∃ y, e = .returned (.agg (wtA y)) ∧ Cpy z w' x y) := fun z hz => by rw [hT]; exact copied_any (hx.fresh hz) (hp.b hm)
  have HX := hidd hx
  have hr := World.rowIs_list w (wtL x) 34
  have f1 := fresh_alloc w (.cells #[.int .i64 x.V, .int .i64 x.W, .int .i64 x.H, .int .i64 x.K, .int .i64 x.L, .int .i64 x.D, .int .i64 x.N, .int .i64 x.M, .int .i64 x.E.R, .int .i64 x.E.C, .slice x.E.O x.E.n x.E.c, .slice x.tO x.tn x.tc, .slice x.yO x.yn x.yc, .slice x.F.O x.F.n x.F.c, .int .i64 x.Q.R, .int .i64 x.Q.C, .slice x.Q.O x.Q.n x.Q.c, .slice x.mO x.mn x.mc] 34)
  have SL : Hid ((Try.prog.info? 34).map (·.size) = some T.toList.length) := by rw [hT]; exact sizeW
  have HRG : Hid (∀ z, Below (w.alloc (.cells #[.int .i64 x.V, .int .i64 x.W, .int .i64 x.H, .int .i64 x.K, .int .i64 x.L, .int .i64 x.D, .int .i64 x.N, .int .i64 x.M, .int .i64 x.E.R, .int .i64 x.E.C, .slice x.E.O x.E.n x.E.c, .slice x.tO x.tn x.tc, .slice x.yO x.yn x.yc, .slice x.F.O x.F.n x.F.c, .int .i64 x.Q.R, .int .i64 x.Q.C, .slice x.Q.O x.Q.n x.Q.c, .slice x.mO x.mn x.mc] 34)).heap.size (w.alloc (.cells #[.int .i64 x.V, .int .i64 x.W, .int .i64 x.H, .int .i64 x.K, .int .i64 x.L, .int .i64 x.D, .int .i64 x.N, .int .i64 x.M, .int .i64 x.E.R, .int .i64 x.E.C, .slice x.E.O x.E.n x.E.c, .slice x.tO x.tn x.tc, .slice x.yO x.yn x.yc, .slice x.F.O x.F.n x.F.c, .int .i64 x.Q.R, .int .i64 x.Q.C, .slice x.Q.O x.Q.n x.Q.c, .slice x.mO x.mn x.mc] 34)) z → z.rangeAt w.heap.size 0 T.toList) := fun z hz => by rw [hT]; exact row_range (row_fresh hr hz) rfl
  clear hx hm hp hr hT
  go_enter Try.func23, Try.ntmps23
  go_upto_region 1 with fail
  generalize w.alloc (.cells #[.int .i64 x.V, .int .i64 x.W, .int .i64 x.H, .int .i64 x.K, .int .i64 x.L, .int .i64 x.D, .int .i64 x.N, .int .i64 x.M, .int .i64 x.E.R, .int .i64 x.E.C, .slice x.E.O x.E.n x.E.c, .slice x.tO x.tn x.tc, .slice x.yO x.yn x.yc, .slice x.F.O x.F.n x.F.c, .int .i64 x.Q.R, .int .i64 x.Q.C, .slice x.Q.O x.Q.n x.Q.c, .slice x.mO x.mn x.mc] 34) = wa at *
  have RG := hidd (HRG.out wa (Below.refl _ _))
  go_wp2_with (refine wpList_load_mid rfl 34 _ rfl w.heap.size 0 rfl T.toList _ RG.out Try.underlying34 rfl SL.out ?_)
  refine (HCK.out _ f1).mono ?_
  rintro e w1 ⟨rfl, f2⟩
  have F1 := hidd (fresh_trans f1 f2)
  replace RG := hidd (HRG.out w1 f2)
  clear f1 f2 HRG HCK
  go_wp2_with (refine wpList_load_mid rfl 34 _ rfl w.heap.size 0 rfl T.toList _ RG.out Try.underlying34 rfl SL.out ?_)
  refine (HCO.out _ F1.out).mono ?_
  rintro e w2 ⟨y, rfl, hc⟩
  have HC := hidd hc
  clear hc HCO RG SL
  rw [show wtA y = #[.int .i64 y.V, .int .i64 y.W, .int .i64 y.H, .int .i64 y.K, .int .i64 y.L, .int .i64 y.D, .int .i64 y.N, .int .i64 y.M, .int .i64 y.E.R, .int .i64 y.E.C, .slice y.E.O y.E.n y.E.c, .slice y.tO y.tn y.tc, .slice y.yO y.yn y.yc, .slice y.F.O y.F.n y.F.c, .int .i64 y.Q.R, .int .i64 y.Q.C, .slice y.Q.O y.Q.n y.Q.c, .slice y.mO y.mn y.mc] from rfl]
  go_wp2
  go_ret2
  have f3 := fresh_alloc w2 (.cells #[.int .i64 y.V, .int .i64 y.W, .int .i64 y.H, .int .i64 y.K, .int .i64 y.L, .int .i64 y.D, .int .i64 y.N, .int .i64 y.M, .int .i64 y.E.R, .int .i64 y.E.C, .slice y.E.O y.E.n y.E.c, .slice y.tO y.tn y.tc, .slice y.yO y.yn y.yc, .slice y.F.O y.F.n y.F.c, .int .i64 y.Q.R, .int .i64 y.Q.C, .slice y.Q.O y.Q.n y.Q.c, .slice y.mO y.mn y.mc] 76)
  exact ⟨y, w2.heap.size, rfl, ⟨World.rowIs_list w2 (wtL y) 76, (HC.out.wtr HX.out).fresh f3, HC.out.sm⟩, Nat.le_trans F1.out.size HC.out.low.size, fresh_trans (fresh_trans F1.out HC.out.low) f3⟩
end Go.Proofs.Ytilghknalbhacaa
namespace Go.Proofs.Ytilghknalbhacaa
open Go.RowKit
/-! A model's Config and Weights; heads.check. -/
/-- y is a copy of x in memory of its own -/
structure Cpv (w w' : World) (x y : WtD) : Prop where
  bs : BS x y
  E : OwM w w' y.E
  Q : OwM w w' y.Q
  F : OwS w w' y.F
  T : Own w' (w.heap.size + 2) 97 2 (.slice y.tO y.tn y.tc) y.tn (tcs y.tC y.tS)
  Y : Own w' (w.heap.size + 2) 67 30 (.slice y.yO y.yn y.yc) y.yn (lyc y.ly)
  M : Own w' (w.heap.size + 2) 29 3 (.slice y.mO y.mn y.mc) y.mn (mtc y.md)
  yy : ∀ j, j < x.yn → LyO w w' (y.ly j) ∧ SmL (x.ly j) (y.ly j)
  mm : ∀ j, j < x.mn → OwM w w' (y.md j) ∧ SmM (x.md j) (y.md j)
theorem Cpy.v {w w' : World} {x y : WtD} (h : Cpy w w' x y) : Cpv w w' x y := ⟨h.bs, h.E, h.Q, h.F, h.T, h.Y, h.M, h.yy, h.mm⟩
theorem Cpv.row {w w' : World} {x y : WtD} (h : Cpv w w' x y) {g : Nat} (hg : g < w.heap.size + 2) (cs : Array Value) : Cpv w (w'.setRow g cs) x y := by
  have s : ∀ {e9 : TypeId} {sz9 n9 : Nat} {v9 : Value} {cs9 : Nat → Value}, Own w' (w.heap.size + 2) e9 sz9 v9 n9 cs9 → Own (w'.setRow g cs) (w.heap.size + 2) e9 sz9 v9 n9 cs9 := fun ho => ho.setRow (fun e => by have := (ho.lt _ e).1; omega)
  exact ⟨h.bs, s h.E, s h.Q, s h.F, s h.T, s h.Y, s h.M, fun j hj => ⟨⟨s (h.yy j hj).1.1, s (h.yy j hj).1.2.1, fun q hq => s ((h.yy j hj).1.2.2 q hq)⟩, (h.yy j hj).2⟩, fun j hj => ⟨s (h.mm j hj).1, (h.mm j hj).2⟩⟩
theorem Cpv.wtr {w w' : World} {x y : WtD} {w0 : World} (h : Cpv w w' x y) (k : WtR w0 x) : WtR w' y := by
  have hY := h.Y.rda
  have hM := h.M.rda
  refine ⟨OwM.mtr h.E h.bs.E k.E, h.T.rda, OwS.lsr h.F h.bs.F k.F, OwM.mtr h.Q h.bs.Q k.Q, hY.le, hY.top, fun h0 => ?_, fun j hj => ?_, hM.le, hM.top, fun h0 => ?_, fun j hj => ?_⟩
  · obtain ⟨b, off, e, hc⟩ := hY.at_ h0
    refine ⟨b, off, e, fun j hj => lyC_of (fun t ht => ?_)⟩
    rw [Nat.add_assoc, hc (j * 30 + t) (by omega)]
    unfold lyc
    rw [show (j * 30 + t) / 30 = j by omega, show (j * 30 + t) % 30 = t by omega]
  · rw [h.bs.Y] at hj
    exact LyO.lyr (h.yy j hj).1 (h.yy j hj).2 (k.yr j hj)
  · obtain ⟨b, off, e, hc⟩ := hM.at_ h0
    refine ⟨b, off, e, fun j hj => ?_⟩
    have hc' : ∀ t, t < 3 → w'.cell? ⟨b, off + j * 3 + t, none⟩ = some ((mtL (y.md j)).getD t undef) := fun t ht => by
      rw [Nat.add_assoc, hc (j * 3 + t) (by omega)]
      unfold mtc
      rw [show (j * 3 + t) / 3 = j by omega, show (j * 3 + t) % 3 = t by omega]
    exact ⟨hc' 0 (by decide), hc' 1 (by decide), hc' 2 (by decide)⟩
  · rw [h.bs.M] at hj
    exact OwM.mtr (h.mm j hj).1 (h.mm j hj).2 (k.mr j hj)
def cfgL (x : WtD) : List Value := [.int .i64 x.V, .int .i64 x.W, .int .i64 x.H, .int .i64 x.K, .int .i64 x.L, .int .i64 x.D, .int .i64 x.N, .int .i64 x.M]
def cfgA (x : WtD) : Array Value := (cfgL x).toArray
theorem cfgA_one (x : WtD) : (cfgA x).all (·.oneCell') = true := by kernel_rfl
theorem sizeC : (Try.prog.info? 23).map (·.size) = some 8 := by kernel_rfl
theorem Sm.cfg {x y : WtD} (h : Sm x y) : cfgA y = cfgA x := by
  obtain ⟨a1, a2, a3, a4, a5, a6, a7, a8⟩ := h.bs.cfg
  unfold cfgA cfgL
  rw [a1, a2, a3, a4, a5, a6, a7, a8]
theorem row_head {w : World} {g : Nat} {y : WtD} (h : w.rowIs g 76 18 (wtc y)) : w.rangeAt g 0 (cfgL y) := fun j v hj => by
  have hj2 : j < 8 := by
    rcases Nat.lt_or_ge j 8 with h | h
    · exact h
    · rw [List.getElem?_eq_none (by exact h)] at hj; cases hj
  rw [Nat.zero_add, h.cell (i := j) (by omega)]
  match j, hj2, hj with
  | 0, _, hj => exact hj
  | 1, _, hj => exact hj
  | 2, _, hj => exact hj
  | 3, _, hj => exact hj
  | 4, _, hj => exact hj
  | 5, _, hj => exact hj
  | 6, _, hj => exact hj
  | 7, _, hj => exact hj
  | k + 8, h, _ => exact absurd h (by omega)
set_option maxRecDepth 100000 in
set_option maxHeartbeats 4000000 in
theorem mconfig_any {W : World} {g : Nat} {x y : WtD} (h : Mdl W g x y) :
    Calls Try.prog 25 #[.pointer (some ⟨g, 0, none⟩)] W fun e w' => e = .returned (.agg #[.int .i64 x.V, .int .i64 x.W, .int .i64 x.H, .int .i64 x.K, .int .i64 x.L, .int .i64 x.D, .int .i64 x.N, .int .i64 x.M]) ∧ Below W.heap.size W w' := by
  have f1 := fresh_alloc W (.cells #[.int .i64 0, .int .i64 0, .int .i64 0, .int .i64 0, .int .i64 0, .int .i64 0, .int .i64 0, .int .i64 0] 23)
  have h1 := h.fresh f1
  obtain ⟨T, hT⟩ : ∃ T, T = cfgA y := ⟨_, rfl⟩
  have RG : Hid ((W.alloc (.cells #[.int .i64 0, .int .i64 0, .int .i64 0, .int .i64 0, .int .i64 0, .int .i64 0, .int .i64 0, .int .i64 0] 23)).rangeAt g 0 T.toList) := by rw [hT]; exact row_head h1.row
  have SL : Hid ((Try.prog.info? 23).map (·.size) = some T.toList.length) := by rw [hT]; exact sizeC
  have S8 : Hid ((Try.prog.info? 23).map (·.size) = some T.size) := by rw [hT]; exact sizeC
  have H1 : Hid (T.all (·.oneCell') = true) := by rw [hT]; exact cfgA_one y
  have HZ : Hid ((#[.int .i64 0, .int .i64 0, .int .i64 0, .int .i64 0, .int .i64 0, .int .i64 0, .int .i64 0, .int .i64 0] : Array Value).size = T.size) := by rw [hT]; rfl
  have HN : Hid ((W.alloc (.cells #[.int .i64 0, .int .i64 0, .int .i64 0, .int .i64 0, .int .i64 0, .int .i64 0, .int .i64 0, .int .i64 0] 23)).heap[W.heap.size]? = some (.cells #[.int .i64 0, .int .i64 0, .int .i64 0, .int .i64 0, .int .i64 0, .int .i64 0, .int .i64 0, .int .i64 0] 23 (0, 0))) := heap_new _ _
  have HF : Hid (Below W.heap.size W ((W.alloc (.cells #[.int .i64 0, .int .i64 0, .int .i64 0, .int .i64 0, .int .i64 0, .int .i64 0, .int .i64 0, .int .i64 0] 23)).setRow W.heap.size T)) := below_setRow f1 (Nat.le_refl _) T
  have HT : Hid (T = #[.int .i64 x.V, .int .i64 x.W, .int .i64 x.H, .int .i64 x.K, .int .i64 x.L, .int .i64 x.D, .int .i64 x.N, .int .i64 x.M]) := hT.trans h.sm.cfg
  clear hT h h1 f1
  go_enter Try.func25, Try.ntmps25
  go_wp2_with (refine wpList_load_mid rfl 23 _ rfl g 0 rfl T.toList _ RG.out Try.underlying23 rfl SL.out (wpList_store_row rfl 23 _ _ rfl W.heap.size T rfl rfl 23 _ HN.out S8.out HZ.out H1.out ?_))
  refine bodyPost_ret (v := .agg T) ?_ ?_ ?_
  · exact results_cell_row Try.results25 _ _ W.heap.size 23 _ (0, 0) _ rfl (setRow_heap _ _ _ _ _ _ HN.out) Try.underlying23 rfl S8.out
  · rfl
  · exact ⟨by rw [HT.out], HF.out⟩
set_option maxRecDepth 100000 in
set_option maxHeartbeats 4000000 in
theorem mweights_any {W : World} {g : Nat} {x y : WtD} (h : Mdl W g x y) (hB : WtB y) :
    Calls Try.prog 15 #[.pointer (some ⟨g, 0, none⟩)] W fun e w' => ∃ z, e = .returned (.agg (wtA z)) ∧ WtR w' z ∧ Sm x z ∧ Below W.heap.size W w' := by
  have f1 := fresh_alloc W (.cells #[.int .i64 0, .int .i64 0, .int .i64 0, .int .i64 0, .int .i64 0, .int .i64 0, .int .i64 0, .int .i64 0, .int .i64 0, .int .i64 0, .slice none 0 0, .slice none 0 0, .slice none 0 0, .slice none 0 0, .int .i64 0, .int .i64 0, .slice none 0 0, .slice none 0 0] 34)
  have h1 := h.fresh f1
  have hs : (W.alloc (.cells #[.int .i64 0, .int .i64 0, .int .i64 0, .int .i64 0, .int .i64 0, .int .i64 0, .int .i64 0, .int .i64 0, .int .i64 0, .int .i64 0, .slice none 0 0, .slice none 0 0, .slice none 0 0, .slice none 0 0, .int .i64 0, .int .i64 0, .slice none 0 0, .slice none 0 0] 34)).heap.size = W.heap.size + 1 := by simp
  obtain ⟨T, hT⟩ : ∃ T, T = wtA y := ⟨_, rfl⟩
  have RG : Hid ((W.alloc (.cells #[.int .i64 0, .int .i64 0, .int .i64 0, .int .i64 0, .int .i64 0, .int .i64 0, .int .i64 0, .int .i64 0, .int .i64 0, .int .i64 0, .slice none 0 0, .slice none 0 0, .slice none 0 0, .slice none 0 0, .int .i64 0, .int .i64 0, .slice none 0 0, .slice none 0 0] 34)).rangeAt g 0 T.toList) := by rw [hT]; exact row_range h1.row rfl
  have SL : Hid ((Try.prog.info? 34).map (·.size) = some T.toList.length) := by rw [hT]; exact sizeW
  have HC : Hid (Calls Try.prog 39 #[.agg T] (W.alloc (.cells #[.int .i64 0, .int .i64 0, .int .i64 0, .int .i64 0, .int .i64 0, .int .i64 0, .int .i64 0, .int .i64 0, .int .i64 0, .int .i64 0, .slice none 0 0, .slice none 0 0, .slice none 0 0, .slice none 0 0, .int .i64 0, .int .i64 0, .slice none 0 0, .slice none 0 0] 34)) fun e w' => ∃ z, e = .returned (.agg (wtA z)) ∧ Cpy (W.alloc (.cells #[.int .i64 0, .int .i64 0, .int .i64 0, .int .i64 0, .int .i64 0, .int .i64 0, .int .i64 0, .int .i64 0, .int .i64 0, .int .i64 0, .slice none 0 0, .slice none 0 0, .slice none 0 0, .slice none 0 0, .int .i64 0, .int .i64 0, .slice none 0 0, .slice none 0 0] 34)) w' y z) := by rw [hT]; exact copied_any h1.rd hB
  have HN : Hid ((W.alloc (.cells #[.int .i64 0, .int .i64 0, .int .i64 0, .int .i64 0, .int .i64 0, .int .i64 0, .int .i64 0, .int .i64 0, .int .i64 0, .int .i64 0, .slice none 0 0, .slice none 0 0, .slice none 0 0, .slice none 0 0, .int .i64 0, .int .i64 0, .slice none 0 0, .slice none 0 0] 34)).heap[W.heap.size]? = some (.cells #[.int .i64 0, .int .i64 0, .int .i64 0, .int .i64 0, .int .i64 0, .int .i64 0, .int .i64 0, .int .i64 0, .int .i64 0, .int .i64 0, .slice none 0 0, .slice none 0 0, .slice none 0 0, .slice none 0 0, .int .i64 0, .int .i64 0, .slice none 0 0, .slice none 0 0] 34 (0, 0))) := heap_new _ _
  have HSM := hidd h.sm
  have HR := hidd h1.rd
  clear hT h h1 hB
  go_enter Try.func15, Try.ntmps15
  go_upto_region 1 with fail
  generalize W.alloc (.cells #[.int .i64 0, .int .i64 0, .int .i64 0, .int .i64 0, .int .i64 0, .int .i64 0, .int .i64 0, .int .i64 0, .int .i64 0, .int .i64 0, .slice none 0 0, .slice none 0 0, .slice none 0 0, .slice none 0 0, .int .i64 0, .int .i64 0, .slice none 0 0, .slice none 0 0] 34) = wa at *
  go_wp2_with (refine wpList_load_mid rfl 34 _ rfl g 0 rfl T.toList _ RG.out Try.underlying34 rfl SL.out ?_)
  refine HC.out.mono ?_
  rintro e w1 ⟨z, rfl, hc⟩
  have HCV := hidd hc.v
  have HS2 := hidd (HSM.out.trans hc.sm)
  have HN1 : Hid (w1.heap[W.heap.size]? = some (.cells #[.int .i64 0, .int .i64 0, .int .i64 0, .int .i64 0, .int .i64 0, .int .i64 0, .int .i64 0, .int .i64 0, .int .i64 0, .int .i64 0, .slice none 0 0, .slice none 0 0, .slice none 0 0, .slice none 0 0, .int .i64 0, .int .i64 0, .slice none 0 0, .slice none 0 0] 34 (0, 0))) := (hc.low.block W.heap.size (by omega)).trans HN.out
  have HF := hidd (fresh_trans f1 hc.low)
  obtain ⟨T9, hT9⟩ : ∃ T9, T9 = wtA z := ⟨_, rfl⟩
  rw [← hT9]
  have S18 : Hid ((Try.prog.info? 34).map (·.size) = some T9.size) := by rw [hT9]; exact sizeW
  have H1 : Hid (T9.all (·.oneCell') = true) := by rw [hT9]; exact wtA_one z
  have HZ : Hid ((#[.int .i64 0, .int .i64 0, .int .i64 0, .int .i64 0, .int .i64 0, .int .i64 0, .int .i64 0, .int .i64 0, .int .i64 0, .int .i64 0, .slice none 0 0, .slice none 0 0, .slice none 0 0, .slice none 0 0, .int .i64 0, .int .i64 0, .slice none 0 0, .slice none 0 0] : Array Value).size = T9.size) := by rw [hT9]; rfl
  have HT9 := hidd hT9
  have HSZ := hidd hs
  clear hc HC HN RG SL hT9 f1 hs
  go_wp2_with (refine wpList_store_row rfl 34 _ _ rfl W.heap.size T9 rfl rfl 34 _ HN1.out S18.out HZ.out H1.out ?_)
  refine bodyPost_ret (v := .agg T9) ?_ ?_ ?_
  · exact results_cell_row Try.results15 _ _ W.heap.size 34 _ (0, 0) _ rfl (setRow_heap _ _ _ _ _ _ HN1.out) Try.underlying34 rfl S18.out
  · rfl
  · exact ⟨z, by rw [HT9.out], (HCV.out.row (by have := HSZ.out; omega) T9).wtr HR.out, HS2.out, below_setRow HF.out (Nat.le_refl _) T9⟩
end Go.Proofs.Ytilghknalbhacaa
