import Derived.Test.YtjjnfpeeipainaaCQ
import Derived.Test.YtjjnfpeeipainaaCkA
import Derived.Test.YtjjnfpeeipainaaMvH
import Derived.Test.YtjjnfpeeipainaaWtRef2
namespace Go.Proofs.Ytjjnfpeeipainaa
open Go.RowKit
/-! New, where the weights fit. -/
set_option maxRecDepth 100000 in
set_option maxHeartbeats 40000000 in
theorem new_ok {w : World} {x : WtD} (hx : WtR w x) (hm : x.may) (hp : WtP x) :
    Calls Try.prog 28 #[.agg #[.int .i64 x.V, .int .i64 x.W, .int .i64 x.H, .int .i64 x.K, .int .i64 x.L, .int .i64 x.D, .int .i64 x.N, .int .i64 x.M, .int .i64 x.E.R, .int .i64 x.E.C, .slice x.E.O x.E.n x.E.c, .slice x.tO x.tn x.tc, .slice x.yO x.yn x.yc, .slice x.F.O x.F.n x.F.c, .int .i64 x.Q.R, .int .i64 x.Q.C, .slice x.Q.O x.Q.n x.Q.c, .slice x.mO x.mn x.mc]] w fun e w' => ∃ y g, e = .returned (.tuple #[.pointer (some ⟨g, 0, none⟩), .int .i64 0]) ∧ Mdl w' g x y ∧ w.heap.size ≤ g ∧ Below w.heap.size w w' := by
  obtain ⟨T, hT⟩ : ∃ T, T = wtA x := ⟨_, rfl⟩
  have HCK : Hid (∀ z, Below w.heap.size w z → Calls Try.prog 49 #[.agg T] z fun e w' => e = .returned (.int .i64 0) ∧ Below z.heap.size z w') := fun z hz => by rw [hT]; exact check_any (hx.fresh hz) 0 (.inr (.inr ⟨hm, hp, rfl⟩))
  have HCO : Hid (∀ z, Below w.heap.size w z → Calls Try.prog 50 #[.agg T] z fun e w' => ∃ y, e = .returned (.agg (wtA y)) ∧ Cpy z w' x y) := fun z hz => by rw [hT]; exact copied_any (hx.fresh hz) (hp.b hm)
  have HX := hidd hx
  have hr := World.rowIs_list w (wtL x) 31
  have f1 := fresh_alloc w (.cells #[.int .i64 x.V, .int .i64 x.W, .int .i64 x.H, .int .i64 x.K, .int .i64 x.L, .int .i64 x.D, .int .i64 x.N, .int .i64 x.M, .int .i64 x.E.R, .int .i64 x.E.C, .slice x.E.O x.E.n x.E.c, .slice x.tO x.tn x.tc, .slice x.yO x.yn x.yc, .slice x.F.O x.F.n x.F.c, .int .i64 x.Q.R, .int .i64 x.Q.C, .slice x.Q.O x.Q.n x.Q.c, .slice x.mO x.mn x.mc] 31)
  have SL : Hid ((Try.prog.info? 31).map (·.size) = some T.toList.length) := by rw [hT]; exact sizeW
  have HRG : Hid (∀ z, Below (w.alloc (.cells #[.int .i64 x.V, .int .i64 x.W, .int .i64 x.H, .int .i64 x.K, .int .i64 x.L, .int .i64 x.D, .int .i64 x.N, .int .i64 x.M, .int .i64 x.E.R, .int .i64 x.E.C, .slice x.E.O x.E.n x.E.c, .slice x.tO x.tn x.tc, .slice x.yO x.yn x.yc, .slice x.F.O x.F.n x.F.c, .int .i64 x.Q.R, .int .i64 x.Q.C, .slice x.Q.O x.Q.n x.Q.c, .slice x.mO x.mn x.mc] 31)).heap.size (w.alloc (.cells #[.int .i64 x.V, .int .i64 x.W, .int .i64 x.H, .int .i64 x.K, .int .i64 x.L, .int .i64 x.D, .int .i64 x.N, .int .i64 x.M, .int .i64 x.E.R, .int .i64 x.E.C, .slice x.E.O x.E.n x.E.c, .slice x.tO x.tn x.tc, .slice x.yO x.yn x.yc, .slice x.F.O x.F.n x.F.c, .int .i64 x.Q.R, .int .i64 x.Q.C, .slice x.Q.O x.Q.n x.Q.c, .slice x.mO x.mn x.mc] 31)) z → z.rangeAt w.heap.size 0 T.toList) := fun z hz => by rw [hT]; exact row_range (row_fresh hr hz) rfl
  clear hx hm hp hr hT
  go_enter Try.func28, Try.ntmps28
  go_upto_region 1 with fail
  generalize w.alloc (.cells #[.int .i64 x.V, .int .i64 x.W, .int .i64 x.H, .int .i64 x.K, .int .i64 x.L, .int .i64 x.D, .int .i64 x.N, .int .i64 x.M, .int .i64 x.E.R, .int .i64 x.E.C, .slice x.E.O x.E.n x.E.c, .slice x.tO x.tn x.tc, .slice x.yO x.yn x.yc, .slice x.F.O x.F.n x.F.c, .int .i64 x.Q.R, .int .i64 x.Q.C, .slice x.Q.O x.Q.n x.Q.c, .slice x.mO x.mn x.mc] 31) = wa at *
  have RG := hidd (HRG.out wa (Below.refl _ _))
  go_wp2_with (refine wpList_load_mid rfl 31 _ rfl w.heap.size 0 rfl T.toList _ RG.out Try.underlying31 rfl SL.out ?_)
  refine (HCK.out _ f1).mono ?_
  rintro e w1 ⟨rfl, f2⟩
  have F1 := hidd (fresh_trans f1 f2)
  replace RG := hidd (HRG.out w1 f2)
  clear f1 f2 HRG HCK
  go_wp2_with (refine wpList_load_mid rfl 31 _ rfl w.heap.size 0 rfl T.toList _ RG.out Try.underlying31 rfl SL.out ?_)
  refine (HCO.out _ F1.out).mono ?_
  rintro e w2 ⟨y, rfl, hc⟩
  have HC := hidd hc
  clear hc HCO RG SL
  rw [show wtA y = #[.int .i64 y.V, .int .i64 y.W, .int .i64 y.H, .int .i64 y.K, .int .i64 y.L, .int .i64 y.D, .int .i64 y.N, .int .i64 y.M, .int .i64 y.E.R, .int .i64 y.E.C, .slice y.E.O y.E.n y.E.c, .slice y.tO y.tn y.tc, .slice y.yO y.yn y.yc, .slice y.F.O y.F.n y.F.c, .int .i64 y.Q.R, .int .i64 y.Q.C, .slice y.Q.O y.Q.n y.Q.c, .slice y.mO y.mn y.mc] from rfl]
  go_wp2
  go_ret2
  have f3 := fresh_alloc w2 (.cells #[.int .i64 y.V, .int .i64 y.W, .int .i64 y.H, .int .i64 y.K, .int .i64 y.L, .int .i64 y.D, .int .i64 y.N, .int .i64 y.M, .int .i64 y.E.R, .int .i64 y.E.C, .slice y.E.O y.E.n y.E.c, .slice y.tO y.tn y.tc, .slice y.yO y.yn y.yc, .slice y.F.O y.F.n y.F.c, .int .i64 y.Q.R, .int .i64 y.Q.C, .slice y.Q.O y.Q.n y.Q.c, .slice y.mO y.mn y.mc] 107)
  exact ⟨y, w2.heap.size, rfl, ⟨World.rowIs_list w2 (wtL y) 107, (HC.out.wtr HX.out).fresh f3, HC.out.sm⟩, Nat.le_trans F1.out.size HC.out.low.size, fresh_trans (fresh_trans F1.out HC.out.low) f3⟩
end Go.Proofs.Ytjjnfpeeipainaa
namespace Go.Proofs.Ytjjnfpeeipainaa
open Go.RowKit
/-! A model's Config and Weights; heads.check. -/
/-- y is a copy of x in memory of its own -/
structure Cpv (w w' : World) (x y : WtD) : Prop where
  bs : BS x y
  E : OwM w w' y.E
  Q : OwM w w' y.Q
  F : OwS w w' y.F
  T : Own w' (w.heap.size + 2) 99 2 (.slice y.tO y.tn y.tc) y.tn (tcs y.tC y.tS)
  Y : Own w' (w.heap.size + 2) 97 30 (.slice y.yO y.yn y.yc) y.yn (lyc y.ly)
  M : Own w' (w.heap.size + 2) 26 3 (.slice y.mO y.mn y.mc) y.mn (mtc y.md)
  yy : ∀ j, j < x.yn → LyO w w' (y.ly j) ∧ SmL (x.ly j) (y.ly j)
  mm : ∀ j, j < x.mn → OwM w w' (y.md j) ∧ SmM (x.md j) (y.md j)
theorem Cpy.v {w w' : World} {x y : WtD} (h : Cpy w w' x y) : Cpv w w' x y := ⟨h.bs, h.E, h.Q, h.F, h.T, h.Y, h.M, h.yy, h.mm⟩
theorem Cpv.row {w w' : World} {x y : WtD} (h : Cpv w w' x y) {g : Nat} (hg : g < w.heap.size + 2) (cs : Array Value) : Cpv w (w'.setRow g cs) x y := by
  have s : ∀ {e9 : TypeId} {sz9 n9 : Nat} {v9 : Value} {cs9 : Nat → Value}, Own w' (w.heap.size + 2) e9 sz9 v9 n9 cs9 → Own (w'.setRow g cs) (w.heap.size + 2) e9 sz9 v9 n9 cs9 := fun ho => ho.setRow (fun e => by have := (ho.lt _ e).1; omega)
  exact ⟨h.bs, s h.E, s h.Q, s h.F, s h.T, s h.Y, s h.M, fun j hj => ⟨⟨s (h.yy j hj).1.1, s (h.yy j hj).1.2.1, fun q hq => s ((h.yy j hj).1.2.2 q hq)⟩, (h.yy j hj).2⟩, fun j hj => ⟨s (h.mm j hj).1, (h.mm j hj).2⟩⟩
theorem Cpv.wtr {w w' : World} {x y : WtD} {w0 : World} (h : Cpv w w' x y) (k : WtR w0 x) : WtR w' y := by
  have hY := h.Y.rda
  have hM := h.M.rda
  refine ⟨OwM.mtr h.E h.bs.E k.E, h.T.rda, OwS.lsr h.F h.bs.F k.F, OwM.mtr h.Q h.bs.Q k.Q, hY.le, hY.top, fun h0 => ?_, fun j hj => ?_, hM.le, hM.top, fun h0 => ?_, fun j hj => ?_⟩
  · obtain ⟨b, off, e, hc⟩ := hY.at_ h0
    refine ⟨b, off, e, fun j hj => lyC_of (fun t ht => ?_)⟩
    rw [Nat.add_assoc, hc (j * 30 + t) (by omega)]
    unfold lyc
    rw [show (j * 30 + t) / 30 = j by omega, show (j * 30 + t) % 30 = t by omega]
  · rw [h.bs.Y] at hj
    exact LyO.lyr (h.yy j hj).1 (h.yy j hj).2 (k.yr j hj)
  · obtain ⟨b, off, e, hc⟩ := hM.at_ h0
    refine ⟨b, off, e, fun j hj => ?_⟩
    have hc' : ∀ t, t < 3 → w'.cell? ⟨b, off + j * 3 + t, none⟩ = some ((mtL (y.md j)).getD t undef) := fun t ht => by
      rw [Nat.add_assoc, hc (j * 3 + t) (by omega)]
      unfold mtc
      rw [show (j * 3 + t) / 3 = j by omega, show (j * 3 + t) % 3 = t by omega]
    exact ⟨hc' 0 (by decide), hc' 1 (by decide), hc' 2 (by decide)⟩
  · rw [h.bs.M] at hj
    exact OwM.mtr (h.mm j hj).1 (h.mm j hj).2 (k.mr j hj)
def cfgL (x : WtD) : List Value := [.int .i64 x.V, .int .i64 x.W, .int .i64 x.H, .int .i64 x.K, .int .i64 x.L, .int .i64 x.D, .int .i64 x.N, .int .i64 x.M]
def cfgA (x : WtD) : Array Value := (cfgL x).toArray
theorem cfgA_one (x : WtD) : (cfgA x).all (·.oneCell') = true := by kernel_rfl
theorem sizeC : (Try.prog.info? 23).map (·.size) = some 8 := by kernel_rfl
theorem Sm.cfg {x y : WtD} (h : Sm x y) : cfgA y = cfgA x := by
  obtain ⟨a1, a2, a3, a4, a5, a6, a7, a8⟩ := h.bs.cfg
  unfold cfgA cfgL
  rw [a1, a2, a3, a4, a5, a6, a7, a8]
theorem row_head {w : World} {g : Nat} {y : WtD} (h : w.rowIs g 107 18 (wtc y)) : w.rangeAt g 0 (cfgL y) := fun j v hj => by
  have hj2 : j < 8 := by
    rcases Nat.lt_or_ge j 8 with h | h
    · exact h
    · rw [List.getElem?_eq_none (by exact h)] at hj; cases hj
  rw [Nat.zero_add, h.cell (i := j) (by omega)]
  match j, hj2, hj with
  | 0, _, hj => exact hj
  | 1, _, hj => exact hj
  | 2, _, hj => exact hj
  | 3, _, hj => exact hj
  | 4, _, hj => exact hj
  | 5, _, hj => exact hj
  | 6, _, hj => exact hj
  | 7, _, hj => exact hj
  | k + 8, h, _ => exact absurd h (by omega)
set_option maxRecDepth 100000 in
set_option maxHeartbeats 4000000 in
theorem mconfig_any {W : World} {g : Nat} {x y : WtD} (h : Mdl W g x y) :
    Calls Try.prog 54 #[.pointer (some ⟨g, 0, none⟩)] W fun e w' => e = .returned (.agg #[.int .i64 x.V, .int .i64 x.W, .int .i64 x.H, .int .i64 x.K, .int .i64 x.L, .int .i64 x.D, .int .i64 x.N, .int .i64 x.M]) ∧ Below W.heap.size W w' := by
  have f1 := fresh_alloc W (.cells #[.int .i64 0, .int .i64 0, .int .i64 0, .int .i64 0, .int .i64 0, .int .i64 0, .int .i64 0, .int .i64 0] 23)
  have h1 := h.fresh f1
  obtain ⟨T, hT⟩ : ∃ T, T = cfgA y := ⟨_, rfl⟩
  have RG : Hid ((W.alloc (.cells #[.int .i64 0, .int .i64 0, .int .i64 0, .int .i64 0, .int .i64 0, .int .i64 0, .int .i64 0, .int .i64 0] 23)).rangeAt g 0 T.toList) := by rw [hT]; exact row_head h1.row
  have SL : Hid ((Try.prog.info? 23).map (·.size) = some T.toList.length) := by rw [hT]; exact sizeC
  have S8 : Hid ((Try.prog.info? 23).map (·.size) = some T.size) := by rw [hT]; exact sizeC
  have H1 : Hid (T.all (·.oneCell') = true) := by rw [hT]; exact cfgA_one y
  have HZ : Hid ((#[.int .i64 0, .int .i64 0, .int .i64 0, .int .i64 0, .int .i64 0, .int .i64 0, .int .i64 0, .int .i64 0] : Array Value).size = T.size) := by rw [hT]; rfl
  have HN : Hid ((W.alloc (.cells #[.int .i64 0, .int .i64 0, .int .i64 0, .int .i64 0, .int .i64 0, .int .i64 0, .int .i64 0, .int .i64 0] 23)).heap[W.heap.size]? = some (.cells #[.int .i64 0, .int .i64 0, .int .i64 0, .int .i64 0, .int .i64 0, .int .i64 0, .int .i64 0, .int .i64 0] 23 (0, 0))) := heap_new _ _
  have HF : Hid (Below W.heap.size W ((W.alloc (.cells #[.int .i64 0, .int .i64 0, .int .i64 0, .int .i64 0, .int .i64 0, .int .i64 0, .int .i64 0, .int .i64 0] 23)).setRow W.heap.size T)) := below_setRow f1 (Nat.le_refl _) T
  have HT : Hid (T = #[.int .i64 x.V, .int .i64 x.W, .int .i64 x.H, .int .i64 x.K, .int .i64 x.L, .int .i64 x.D, .int .i64 x.N, .int .i64 x.M]) := hT.trans h.sm.cfg
  clear hT h h1 f1
  go_enter Try.func54, Try.ntmps54
  go_wp2_with (refine wpList_load_mid rfl 23 _ rfl g 0 rfl T.toList _ RG.out Try.underlying23 rfl SL.out (wpList_store_row rfl 23 _ _ rfl W.heap.size T rfl rfl 23 _ HN.out S8.out HZ.out H1.out ?_))
  refine bodyPost_ret (v := .agg T) ?_ ?_ ?_
  · exact results_cell_row Try.results54 _ _ W.heap.size 23 _ (0, 0) _ rfl (setRow_heap _ _ _ _ _ _ HN.out) Try.underlying23 rfl S8.out
  · rfl
  · exact ⟨by rw [HT.out], HF.out⟩
set_option maxRecDepth 100000 in
set_option maxHeartbeats 4000000 in
theorem mweights_any {W : World} {g : Nat} {x y : WtD} (h : Mdl W g x y) (hB : WtB y) :
    Calls Try.prog 33 #[.pointer (some ⟨g, 0, none⟩)] W fun e w' => ∃ z, e = .returned (.agg (wtA z)) ∧ WtR w' z ∧ Sm x z ∧ Below W.heap.size W w' := by
  have f1 := fresh_alloc W (.cells #[.int .i64 0, .int .i64 0, .int .i64 0, .int .i64 0, .int .i64 0, .int .i64 0, .int .i64 0, .int .i64 0, .int .i64 0, .int .i64 0, .slice none 0 0, .slice none 0 0, .slice none 0 0, .slice none 0 0, .int .i64 0, .int .i64 0, .slice none 0 0, .slice none 0 0] 31)
  have h1 := h.fresh f1
  have hs : (W.alloc (.cells #[.int .i64 0, .int .i64 0, .int .i64 0, .int .i64 0, .int .i64 0, .int .i64 0, .int .i64 0, .int .i64 0, .int .i64 0, .int .i64 0, .slice none 0 0, .slice none 0 0, .slice none 0 0, .slice none 0 0, .int .i64 0, .int .i64 0, .slice none 0 0, .slice none 0 0] 31)).heap.size = W.heap.size + 1 := by simp
  obtain ⟨T, hT⟩ : ∃ T, T = wtA y := ⟨_, rfl⟩
  have RG : Hid ((W.alloc (.cells #[.int .i64 0, .int .i64 0, .int .i64 0, .int .i64 0, .int .i64 0, .int .i64 0, .int .i64 0, .int .i64 0, .int .i64 0, .int .i64 0, .slice none 0 0, .slice none 0 0, .slice none 0 0, .slice none 0 0, .int .i64 0, .int .i64 0, .slice none 0 0, .slice none 0 0] 31)).rangeAt g 0 T.toList) := by rw [hT]; exact row_range h1.row rfl
  have SL : Hid ((Try.prog.info? 31).map (·.size) = some T.toList.length) := by rw [hT]; exact sizeW
  have HC : Hid (Calls Try.prog 50 #[.agg T] (W.alloc (.cells #[.int .i64 0, .int .i64 0, .int .i64 0, .int .i64 0, .int .i64 0, .int .i64 0, .int .i64 0, .int .i64 0, .int .i64 0, .int .i64 0, .slice none 0 0, .slice none 0 0, .slice none 0 0, .slice none 0 0, .int .i64 0, .int .i64 0, .slice none 0 0, .slice none 0 0] 31)) fun e w' => ∃ z, e = .returned (.agg (wtA z)) ∧ Cpy (W.alloc (.cells #[.int .i64 0, .int .i64 0, .int .i64 0, .int .i64 0, .int .i64 0, .int .i64 0, .int .i64 0, .int .i64 0, .int .i64 0, .int .i64 0, .slice none 0 0, .slice none 0 0, .slice none 0 0, .slice none 0 0, .int .i64 0, .int .i64 0, .slice none 0 0, .slice none 0 0] 31)) w' y z) := by rw [hT]; exact copied_any h1.rd hB
  have HN : Hid ((W.alloc (.cells #[.int .i64 0, .int .i64 0, .int .i64 0, .int .i64 0, .int .i64 0, .int .i64 0, .int .i64 0, .int .i64 0, .int .i64 0, .int .i64 0, .slice none 0 0, .slice none 0 0, .slice none 0 0, .slice none 0 0, .int .i64 0, .int .i64 0, .slice none 0 0, .slice none 0 0] 31)).heap[W.heap.size]? = some (.cells #[.int .i64 0, .int .i64 0, .int .i64 0, .int .i64 0, .int .i64 0, .int .i64 0, .int .i64 0, .int .i64 0, .int .i64 0, .int .i64 0, .slice none 0 0, .slice none 0 0, .slice none 0 0, .slice none 0 0, .int .i64 0, .int .i64 0, .slice none 0 0, .slice none 0 0] 31 (0, 0))) := heap_new _ _
  have HSM := hidd h.sm
  have HR := hidd h1.rd
  clear hT h h1 hB
  go_enter Try.func33, Try.ntmps33
  go_upto_region 1 with fail
  generalize W.alloc (.cells #[.int .i64 0, .int .i64 0, .int .i64 0, .int .i64 0, .int .i64 0, .int .i64 0, .int .i64 0, .int .i64 0, .int .i64 0, .int .i64 0, .slice none 0 0, .slice none 0 0, .slice none 0 0, .slice none 0 0, .int .i64 0, .int .i64 0, .slice none 0 0, .slice none 0 0] 31) = wa at *
  go_wp2_with (refine wpList_load_mid rfl 31 _ rfl g 0 rfl T.toList _ RG.out Try.underlying31 rfl SL.out ?_)
  refine HC.out.mono ?_
  rintro e w1 ⟨z, rfl, hc⟩
  have HCV := hidd hc.v
  have HS2 := hidd (HSM.out.trans hc.sm)
  have HN1 : Hid (w1.heap[W.heap.size]? = some (.cells #[.int .i64 0, .int .i64 0, .int .i64 0, .int .i64 0, .int .i64 0, .int .i64 0, .int .i64 0, .int .i64 0, .int .i64 0, .int .i64 0, .slice none 0 0, .slice none 0 0, .slice none 0 0, .slice none 0 0, .int .i64 0, .int .i64 0, .slice none 0 0, .slice none 0 0] 31 (0, 0))) := (hc.low.block W.heap.size (by omega)).trans HN.out
  have HF := hidd (fresh_trans f1 hc.low)
  obtain ⟨T9, hT9⟩ : ∃ T9, T9 = wtA z := ⟨_, rfl⟩
  rw [← hT9]
  have S18 : Hid ((Try.prog.info? 31).map (·.size) = some T9.size) := by rw [hT9]; exact sizeW
  have H1 : Hid (T9.all (·.oneCell') = true) := by rw [hT9]; exact wtA_one z
  have HZ : Hid ((#[.int .i64 0, .int .i64 0, .int .i64 0, .int .i64 0, .int .i64 0, .int .i64 0, .int .i64 0, .int .i64 0, .int .i64 0, .int .i64 0, .slice none 0 0, .slice none 0 0, .slice none 0 0, .slice none 0 0, .int .i64 0, .int .i64 0, .slice none 0 0, .slice none 0 0] : Array Value).size = T9.size) := by rw [hT9]; rfl
  have HT9 := hidd hT9
  have HSZ := hidd hs
  clear hc HC HN RG SL hT9 f1 hs
  go_wp2_with (refine wpList_store_row rfl 31 _ _ rfl W.heap.size T9 rfl rfl 31 _ HN1.out S18.out HZ.out H1.out ?_)
  refine bodyPost_ret (v := .agg T9) ?_ ?_ ?_
  · exact results_cell_row Try.results33 _ _ W.heap.size 31 _ (0, 0) _ rfl (setRow_heap _ _ _ _ _ _ HN1.out) Try.underlying31 rfl S18.out
  · rfl
  · exact ⟨z, by rw [HT9.out], (HCV.out.row (by have := HSZ.out; omega) T9).wtr HR.out, HS2.out, below_setRow HF.out (Nat.le_refl _) T9⟩
theorem hcheck_nil (W : World) (ho : Option Addr) (n hc : Nat) : Calls Try.prog 32 #[.pointer none, .slice ho n hc] W fun e w' => e = .returned (.int .i64 1) ∧ w' = W := by
  go_enter Try.func32, Try.ntmps32
  go_wp2
  go_ret
  exact ⟨rfl, rfl⟩
set_option maxRecDepth 10000 in
theorem hcheck_any {W : World} {g : Nat} {x y : WtD} (h : Mdl W g x y) (ho : Option Addr) (n hc : Nat) (er : Int) (he : ((n : Int) ≠ x.W ∧ er = 30) ∨ ((n : Int) = x.W ∧ er = 0)) : Calls Try.prog 32 #[.pointer (some ⟨g, 0, none⟩), .slice ho n hc] W fun e w' => e = .returned (.int .i64 er) ∧ Below W.heap.size W w' := by
  have HC := hidd (mconfig_any h)
  have hfd : ∀ w : World, (Instr.field 23 (.agg #[.int .i64 x.V, .int .i64 x.W, .int .i64 x.H, .int .i64 x.K, .int .i64 x.L, .int .i64 x.D, .int .i64 x.N, .int .i64 x.M]) 1).run Try.prog w = .ok (.int .i64 x.W) w := fun _ => by kernel_rfl
  clear h
  rcases he with ⟨hn, rfl⟩ | ⟨hn, rfl⟩
  · have hne : ((n : Int) != x.W) = true := by simpa using hn
    clear hn
    go_enter Try.func32, Try.ntmps32
    go_wp2_with fail
    refine HC.out.mono ?_
    rintro e w1 ⟨rfl, f1⟩
    go_wp2
    go_ret
    exact ⟨rfl, f1⟩
  · have hne : ((n : Int) != x.W) = false := by simpa using hn
    clear hn
    go_enter Try.func32, Try.ntmps32
    go_wp2_with fail
    refine HC.out.mono ?_
    rintro e w1 ⟨rfl, f1⟩
    go_wp2
    go_ret
    exact ⟨rfl, f1⟩
end Go.Proofs.Ytjjnfpeeipainaa
namespace Go.Proofs.Ytjjnfpeeipainaa
open Go.RowKit
/-! Logits. -/
/-- a matrix of a model that fits, times a vector -/
theorem mvw_any {W : World} {m : MtD} (hm : MtR W m) {R C : Nat} (hi : m.isa (R : Int) (C : Int)) (hR : R ≤ 1048576) {ho : Option Addr} {hc : Nat} {f : Nat → Int} (hh : RdA W ho 1 C hc (fun i => .int .i8 (f i))) (hg : ∀ i, i < C → -128 ≤ f i ∧ f i ≤ 127) :
    Calls Try.prog 34 #[.agg #[.int .i64 m.R, .int .i64 m.C, .slice m.O m.n m.c], .slice ho C hc] W fun e w' =>
      ∃ b F, e = .returned (.tuple #[.slice (some ⟨b, 0, none⟩) R R, .int .i64 0]) ∧ W.heap.size ≤ b ∧ w'.rowIs b 2 R F ∧ (∀ r, r < R → F r = .int .i64 (mv m.f f C r)) ∧ Below W.heap.size W w' := by
  obtain ⟨⟨h1, h2⟩, h3, h4⟩ := hi
  rw [h3, h4] at h1 ⊢
  exact matvec_ok hm.rd hh h1 (fun i hi => ⟨h2 i hi, (hm.bd i hi).2⟩) hg (by omega)
end Go.Proofs.Ytjjnfpeeipainaa
namespace Go.Proofs.Ytjjnfpeeipainaa
open Go.RowKit
/-! Guesses. -/
theorem infoS64 : (Try.prog.info? 46).map (fun i => (i.zero, i.size, i.bytes)) = some (some (.slice none 0 0), 1, 24) := by kernel_rfl
theorem guesses_nil (W : World) (ho : Option Addr) (n hc : Nat) : Calls Try.prog 12 #[.pointer none, .slice ho n hc] W fun e w' => e = .returned (.tuple #[.slice none 0 0, .int .i64 1]) ∧ w' = W := by
  go_enter Try.func12, Try.ntmps12
  go_wp2_with (go_at_call 32; refine (hcheck_nil _ _ _ _).mono ?_; rintro e w' ⟨rfl, rfl⟩)
  go_ret2
  exact ⟨rfl, rfl⟩
theorem guesses_bad {W : World} {g : Nat} {x y : WtD} (h : Mdl W g x y) (ho : Option Addr) (n hc : Nat) (hn : (n : Int) ≠ x.W) : Calls Try.prog 12 #[.pointer (some ⟨g, 0, none⟩), .slice ho n hc] W fun e w' => e = .returned (.tuple #[.slice none 0 0, .int .i64 30]) ∧ Below W.heap.size W w' := by
  have HC := hidd (hcheck_any h ho n hc 30 (.inl ⟨hn, rfl⟩))
  clear h hn
  go_enter Try.func12, Try.ntmps12
  go_wp2_with fail
  refine HC.out.mono ?_
  rintro e w1 ⟨rfl, f1⟩
  go_wp2
  go_ret2
  exact ⟨rfl, f1⟩
def updB (bb : Nat → Nat) (k b : Nat) : Nat → Nat := fun j => if j = k then b else bb j
theorem updB_at (bb : Nat → Nat) (k b : Nat) : updB bb k b k = b := if_pos rfl
theorem updB_ne (bb : Nat → Nat) (k b : Nat) {j : Nat} (h : j ≠ k) : updB bb k b j = bb j := if_neg h
/-- k lists of logits, each in memory of its own -/
structure Gs (W w' : World) (v : Value) (k R C : Nat) (md : Nat → MtD) (f : Nat → Int) (bb : Nat → Nat) : Prop where
  own : Own w' W.heap.size 46 1 v k (fun j => .slice (some ⟨bb j, 0, none⟩) R R)
  rows : ∀ j, j < k → W.heap.size ≤ bb j ∧ ∃ F, w'.rowIs (bb j) 2 R F ∧ ∀ r, r < R → F r = .int .i64 (mv (md j).f f C r)
theorem Gs.fresh {W w' w9 : World} {v : Value} {k R C : Nat} {md : Nat → MtD} {f : Nat → Int} {bb : Nat → Nat} (h : Gs W w' v k R C md f bb) (q : Below w'.heap.size w' w9) : Gs W w9 v k R C md f bb :=
  ⟨h.own.kept q, fun j hj => ⟨(h.rows j hj).1, by obtain ⟨F, h1, h2⟩ := (h.rows j hj).2; exact ⟨F, row_fresh h1 q, h2⟩⟩⟩
theorem Gs.step {W w' w9 : World} {v v9 : Value} {k R C : Nat} {md : Nat → MtD} {f : Nat → Int} {bb : Nat → Nat} (h : Gs W w' v k R C md f bb) {b : Nat} {F : Nat → Value} (hb : W.heap.size ≤ b) (hr : w'.rowIs b 2 R F) (hF : ∀ r, r < R → F r = .int .i64 (mv (md k).f f C r)) (ha : App w' w9 v v9)
    (ho : Own w9 W.heap.size 46 1 v9 (k + 1) (fun j => .slice (some ⟨updB bb k b j, 0, none⟩) R R)) : Gs W w9 v9 (k + 1) R C md f (updB bb k b) := by
  have s : ∀ {b' : Nat} {G : Nat → Value}, w'.rowIs b' 2 R G → w9.rowIs b' 2 R G := fun {b' G} h9 => h9.of_block (ha.grown.block b' h9.lt (fun e => Own.apart h.own h9 (by decide) e.symm))
  refine ⟨ho, fun j hj => ?_⟩
  by_cases e : j = k
  · subst e
    rw [updB_at]
    exact ⟨hb, F, s hr, hF⟩
  · rw [updB_ne _ _ _ e]
    obtain ⟨h1, G, h2, h3⟩ := h.rows j (by omega)
    exact ⟨h1, G, s h2, h3⟩
def GsE (W w' : World) (v : Value) (k R C : Nat) (md : Nat → MtD) (f : Nat → Int) : Prop := ∃ bb, Gs W w' v k R C md f bb
set_option maxRecDepth 100000 in
set_option maxHeartbeats 8000000 in
theorem guesses_ok {W : World} {g : Nat} {x y : WtD} (h : Mdl W g x y) (hB : WtB y) {R C : Nat} (hV : x.V = (R : Int)) (hW : x.W = (C : Int)) (hR : R ≤ 1048576) (hm : ∀ k, k < x.mn → (x.md k).isa x.V x.W) (hmn : x.mn ≤ 1048576) {ho : Option Addr} {hc : Nat} {f : Nat → Int} (hh : RdA W ho 1 C hc (fun i => .int .i8 (f i))) (hg : ∀ i, i < C → -128 ≤ f i ∧ f i ≤ 127) :
    Calls Try.prog 12 #[.pointer (some ⟨g, 0, none⟩), .slice ho C hc] W fun e w' =>
      ∃ u c, e = .returned (.tuple #[.slice u x.mn c, .int .i64 0]) ∧ GsE W w' (.slice u x.mn c) x.mn R C x.md f ∧ Below W.heap.size W w' := by
  have HC := hidd (hcheck_any h ho C hc 0 (.inr ⟨hW.symm, rfl⟩))
  have HM : Hid (∀ z, Below W.heap.size W z → Calls Try.prog 33 #[.pointer (some ⟨g, 0, none⟩)] z fun e w' => ∃ z', e = .returned (.agg (wtA z')) ∧ WtR w' z' ∧ Sm x z' ∧ Below z.heap.size z w') := fun z hz => mweights_any (h.fresh hz) hB
  rw [hV, hW] at hm
  have HQ := hidd hm
  have HH := hidd hh
  have HG := hidd hg
  clear h hB hm hh hg hV hW
  go_enter Try.func12, Try.ntmps12
  go_wp2_with fail
  refine HC.out.mono ?_
  rintro e w1 ⟨rfl, f1⟩
  go_wp2_with fail
  refine (HM.out _ f1).mono ?_
  rintro e w2 ⟨z, rfl, hr, hs, f2⟩
  have F2 := hidd (fresh_trans f1 f2)
  have HS := hidd hs
  have HR := hidd hr
  clear HC HM hr hs f1 f2
  have hfd : ∀ w : World, (Instr.field 31 (.agg (wtA z)) 6).run Try.prog w = .ok (.slice z.mO z.mn z.mc) w := fun _ => by kernel_rfl
  have hzn : z.mn = x.mn := HS.out.bs.M
  have hzl := HR.out.mle
  have hzt := HR.out.mtop
  unfold maxLen at hzt
  rw [hzn] at hfd hzl
  clear hzn
  go_wp2
  clear hfd
  go_loopw [7, 9, 10, 11, 22] (fun v _ _ _ i wr => ∃ (k : Nat) (bb : Nat → Nat), k ≤ x.mn ∧ i = .int .i64 (k : Int) ∧ Hid (Gs w2 wr v k R C x.md f bb) ∧ Hid (Below w2.heap.size w2 wr)) (fun _ _ _ _ i _ => x.mn - (intOf i).toNat)
  case atStart => exact ⟨0, fun _ => 0, Nat.zero_le _, by simp, ⟨own_nil _ _ _ _ _, fun j hj => absurd hj (by omega)⟩, Below.refl _ _⟩
  case round =>
    obtain ⟨k, bb, hk, rfl, HGs, HB⟩ := hrel
    obtain ⟨p, uc, rfl, _⟩ := HGs.out.own.rd
    by_cases hlt : k < x.mn
    · have hzn : z.mn = x.mn := HS.out.bs.M
      obtain ⟨mb, mf, em, hmc⟩ := HR.out.mat (by omega)
      obtain ⟨d0, d1, d2⟩ := hmc k (by omega)
      replace d0 := fresh_cell HB.out d0
      replace d1 := fresh_cell HB.out d1
      replace d2 := fresh_cell HB.out d2
      rw [em]
      have i0 : (0 : Int) ≤ (k : Int) := by omega
      have i1 : (k : Int) < (x.mn : Int) := by omega
      have hrk : MtR w2 (z.md k) := HR.out.mr k (by omega)
      have HSM := hidd (HS.out.mm k hlt)
      have fa := fresh_alloc wr (.cells #[.int .i64 (z.md k).R, .int .i64 (z.md k).C, .slice (z.md k).O (z.md k).n (z.md k).c] 26)
      have HCV := hidd (mvw_any (hrk.fresh (fresh_trans HB.out fa)) (HSM.out.isa (HQ.out k hlt)) hR (HH.out.fresh (fresh_trans F2.out (fresh_trans HB.out fa))) HG.out)
      have HFA := hidd fa
      clear hmc em hzn hrk fa
      go_wp2_with fail
      refine HCV.out.mono ?_
      rintro e w3 ⟨b, F, rfl, hb, hrow, hF, f3⟩
      rw [HSM.out.2.2.2] at hF
      have hsz := HB.out.size
      have hsa := HFA.out.size
      have f4 := fresh_alloc w3 (.cells #[.slice (some ⟨b, 0, none⟩) R R] 46)
      have HG3 := hidd (HGs.out.fresh (fresh_trans (fresh_trans HFA.out f3) f4))
      have HF := hidd hF
      have HRW := hidd (row_fresh hrow f4)
      have HB2 : Hid (w2.heap.size ≤ b) := by show _ ≤ _; omega
      have HBL := hidd (fresh_trans HB.out (fresh_trans (fresh_trans HFA.out f3) f4))
      have HOW : Hid (Own (w3.alloc (.cells #[.slice (some ⟨b, 0, none⟩) R R] 46)) w2.heap.size 46 1 (.slice p k uc) k (fun j => .slice (some ⟨updB bb k b j, 0, none⟩) R R)) := HG3.out.own.congr (fun j hj => by rw [updB_ne _ _ _ (by omega)])
      have HNC : Hid ((w3.alloc (.cells #[.slice (some ⟨b, 0, none⟩) R R] 46)).cell? ⟨w3.heap.size, 0, none⟩ = some (.slice (some ⟨updB bb k b k, 0, none⟩) R R)) := by show _ = _; rw [new_cell, updB_at]
      have HS3 : Hid (w2.heap.size ≤ (w3.alloc (.cells #[.slice (some ⟨b, 0, none⟩) R R] 46)).heap.size) := HBL.out.size
      clear HGs HB HFA f3 f4 hF hrow HCV d0 d1 d2 HSM hsz hsa hb
      go_wp2_with (at_builtin; refine wpList_app1 _ rfl _ _ 42 rfl w2.heap.size 46 (.slice none 0 0) 24 Try.underlying42 infoS64 rfl _ k (fun j => .slice (some ⟨updB bb k b j, 0, none⟩) R R) rfl HOW.out w3.heap.size 1 rfl HNC.out rfl (by omega) (by omega) HS3.out ?_)
      rintro v' w4 hown happ
      have HL := hidd (HG3.out.step HB2.out HRW.out HF.out happ hown)
      have HBB := hidd (happ.below HBL.out HOW.out (Nat.le_refl _) HS3.out)
      clear HG3 HOW HNC HS3 HBL HRW HF HB2 hown happ
      go_wp2
      go_roundw
      case rel => exact ⟨k + 1, _, by omega, by go_num, HL.out, HBB.out⟩
      case measure => simp [intOf]; omega
    · obtain rfl : k = x.mn := by omega
      have hnl : ¬ ((x.mn : Int) < (x.mn : Int)) := by omega
      go_wp2
      go_ret2
      have hsz := F2.out.size
      exact ⟨p, uc, rfl, ⟨bb, HGs.out.own.weaken hsz, fun j hj => ⟨Nat.le_trans hsz (HGs.out.rows j hj).1, (HGs.out.rows j hj).2⟩⟩, fresh_trans F2.out HB.out⟩
end Go.Proofs.Ytjjnfpeeipainaa
namespace Go.Proofs.Ytjjnfpeeipainaa
open Go.RowKit
/-! made: the model of weights that fit. -/
set_option maxRecDepth 100000 in
set_option maxHeartbeats 4000000 in
theorem made_bad {w : World} {x : WtD} (hx : WtR w x) {er : Int} (he : IsE x er) (h0 : er ≠ 0) :
    Calls Try.prog 9 #[.agg #[.int .i64 x.V, .int .i64 x.W, .int .i64 x.H, .int .i64 x.K, .int .i64 x.L, .int .i64 x.D, .int .i64 x.N, .int .i64 x.M, .int .i64 x.E.R, .int .i64 x.E.C, .slice x.E.O x.E.n x.E.c, .slice x.tO x.tn x.tc, .slice x.yO x.yn x.yc, .slice x.F.O x.F.n x.F.c, .int .i64 x.Q.R, .int .i64 x.Q.C, .slice x.Q.O x.Q.n x.Q.c, .slice x.mO x.mn x.mc]] w fun e w' => e = .returned (.tuple #[.pointer none, .bool false, .bool true]) ∧ Below w.heap.size w w' := by
  obtain ⟨T, hT⟩ : ∃ T, T = wtA x := ⟨_, rfl⟩
  have hr : (w.alloc (.cells #[.int .i64 x.V, .int .i64 x.W, .int .i64 x.H, .int .i64 x.K, .int .i64 x.L, .int .i64 x.D, .int .i64 x.N, .int .i64 x.M, .int .i64 x.E.R, .int .i64 x.E.C, .slice x.E.O x.E.n x.E.c, .slice x.tO x.tn x.tc, .slice x.yO x.yn x.yc, .slice x.F.O x.F.n x.F.c, .int .i64 x.Q.R, .int .i64 x.Q.C, .slice x.Q.O x.Q.n x.Q.c, .slice x.mO x.mn x.mc] 31)).rowIs w.heap.size 31 18 (wtc x) := World.rowIs_list w (wtL x) 31
  have f1 := fresh_alloc w (.cells #[.int .i64 x.V, .int .i64 x.W, .int .i64 x.H, .int .i64 x.K, .int .i64 x.L, .int .i64 x.D, .int .i64 x.N, .int .i64 x.M, .int .i64 x.E.R, .int .i64 x.E.C, .slice x.E.O x.E.n x.E.c, .slice x.tO x.tn x.tc, .slice x.yO x.yn x.yc, .slice x.F.O x.F.n x.F.c, .int .i64 x.Q.R, .int .i64 x.Q.C, .slice x.Q.O x.Q.n x.Q.c, .slice x.mO x.mn x.mc] 31)
  have SL : Hid ((Try.prog.info? 31).map (·.size) = some T.toList.length) := by rw [hT]; exact sizeW
  have HRG : Hid (∀ z, Below (w.alloc (.cells #[.int .i64 x.V, .int .i64 x.W, .int .i64 x.H, .int .i64 x.K, .int .i64 x.L, .int .i64 x.D, .int .i64 x.N, .int .i64 x.M, .int .i64 x.E.R, .int .i64 x.E.C, .slice x.E.O x.E.n x.E.c, .slice x.tO x.tn x.tc, .slice x.yO x.yn x.yc, .slice x.F.O x.F.n x.F.c, .int .i64 x.Q.R, .int .i64 x.Q.C, .slice x.Q.O x.Q.n x.Q.c, .slice x.mO x.mn x.mc] 31)).heap.size (w.alloc (.cells #[.int .i64 x.V, .int .i64 x.W, .int .i64 x.H, .int .i64 x.K, .int .i64 x.L, .int .i64 x.D, .int .i64 x.N, .int .i64 x.M, .int .i64 x.E.R, .int .i64 x.E.C, .slice x.E.O x.E.n x.E.c, .slice x.tO x.tn x.tc, .slice x.yO x.yn x.yc, .slice x.F.O x.F.n x.F.c, .int .i64 x.Q.R, .int .i64 x.Q.C, .slice x.Q.O x.Q.n x.Q.c, .slice x.mO x.mn x.mc] 31)) z → z.rangeAt w.heap.size 0 T.toList) := fun z hz => by rw [hT]; exact row_range (row_fresh hr hz) rfl
  have HCK : Hid (∀ z, Below w.heap.size w z → Calls Try.prog 27 #[.agg T] z fun e w' => e = .returned (.int .i64 er) ∧ Below z.heap.size z w') := fun z hz => by rw [hT]; exact check_wref (hx.fresh hz) er he
  have hne : (er != 0) = true := by simpa using h0
  clear hx hr hT he h0
  go_enter Try.func9, Try.ntmps9
  go_upto_region 1 with fail
  generalize w.alloc (.cells #[.int .i64 x.V, .int .i64 x.W, .int .i64 x.H, .int .i64 x.K, .int .i64 x.L, .int .i64 x.D, .int .i64 x.N, .int .i64 x.M, .int .i64 x.E.R, .int .i64 x.E.C, .slice x.E.O x.E.n x.E.c, .slice x.tO x.tn x.tc, .slice x.yO x.yn x.yc, .slice x.F.O x.F.n x.F.c, .int .i64 x.Q.R, .int .i64 x.Q.C, .slice x.Q.O x.Q.n x.Q.c, .slice x.mO x.mn x.mc] 31) = wa at *
  have RG := hidd (HRG.out wa (Below.refl _ _))
  go_wp2_with (refine wpList_load_mid rfl 31 _ rfl w.heap.size 0 rfl T.toList _ RG.out Try.underlying31 rfl SL.out ?_)
  refine (HCK.out _ f1).mono ?_
  rintro e w1 ⟨rfl, f2⟩
  have F1 := hidd (fresh_trans f1 f2)
  clear f1 f2 HRG HCK RG SL
  go_wp2
  go_ret3
  exact ⟨rfl, F1.out⟩
set_option maxRecDepth 100000 in
set_option maxHeartbeats 4000000 in
theorem made_ok {w : World} {x : WtD} (hx : WtR w x) (hm : x.may) (hp : WtP x) :
    Calls Try.prog 9 #[.agg #[.int .i64 x.V, .int .i64 x.W, .int .i64 x.H, .int .i64 x.K, .int .i64 x.L, .int .i64 x.D, .int .i64 x.N, .int .i64 x.M, .int .i64 x.E.R, .int .i64 x.E.C, .slice x.E.O x.E.n x.E.c, .slice x.tO x.tn x.tc, .slice x.yO x.yn x.yc, .slice x.F.O x.F.n x.F.c, .int .i64 x.Q.R, .int .i64 x.Q.C, .slice x.Q.O x.Q.n x.Q.c, .slice x.mO x.mn x.mc]] w fun e w' => ∃ y g, e = .returned (.tuple #[.pointer (some ⟨g, 0, none⟩), .bool true, .bool true]) ∧ Mdl w' g x y ∧ Below w.heap.size w w' := by
  obtain ⟨T, hT⟩ : ∃ T, T = wtA x := ⟨_, rfl⟩
  have hr : (w.alloc (.cells #[.int .i64 x.V, .int .i64 x.W, .int .i64 x.H, .int .i64 x.K, .int .i64 x.L, .int .i64 x.D, .int .i64 x.N, .int .i64 x.M, .int .i64 x.E.R, .int .i64 x.E.C, .slice x.E.O x.E.n x.E.c, .slice x.tO x.tn x.tc, .slice x.yO x.yn x.yc, .slice x.F.O x.F.n x.F.c, .int .i64 x.Q.R, .int .i64 x.Q.C, .slice x.Q.O x.Q.n x.Q.c, .slice x.mO x.mn x.mc] 31)).rowIs w.heap.size 31 18 (wtc x) := World.rowIs_list w (wtL x) 31
  have f1 := fresh_alloc w (.cells #[.int .i64 x.V, .int .i64 x.W, .int .i64 x.H, .int .i64 x.K, .int .i64 x.L, .int .i64 x.D, .int .i64 x.N, .int .i64 x.M, .int .i64 x.E.R, .int .i64 x.E.C, .slice x.E.O x.E.n x.E.c, .slice x.tO x.tn x.tc, .slice x.yO x.yn x.yc, .slice x.F.O x.F.n x.F.c, .int .i64 x.Q.R, .int .i64 x.Q.C, .slice x.Q.O x.Q.n x.Q.c, .slice x.mO x.mn x.mc] 31)
  have SL : Hid ((Try.prog.info? 31).map (·.size) = some T.toList.length) := by rw [hT]; exact sizeW
  have HRG : Hid (∀ z, Below (w.alloc (.cells #[.int .i64 x.V, .int .i64 x.W, .int .i64 x.H, .int .i64 x.K, .int .i64 x.L, .int .i64 x.D, .int .i64 x.N, .int .i64 x.M, .int .i64 x.E.R, .int .i64 x.E.C, .slice x.E.O x.E.n x.E.c, .slice x.tO x.tn x.tc, .slice x.yO x.yn x.yc, .slice x.F.O x.F.n x.F.c, .int .i64 x.Q.R, .int .i64 x.Q.C, .slice x.Q.O x.Q.n x.Q.c, .slice x.mO x.mn x.mc] 31)).heap.size (w.alloc (.cells #[.int .i64 x.V, .int .i64 x.W, .int .i64 x.H, .int .i64 x.K, .int .i64 x.L, .int .i64 x.D, .int .i64 x.N, .int .i64 x.M, .int .i64 x.E.R, .int .i64 x.E.C, .slice x.E.O x.E.n x.E.c, .slice x.tO x.tn x.tc, .slice x.yO x.yn x.yc, .slice x.F.O x.F.n x.F.c, .int .i64 x.Q.R, .int .i64 x.Q.C, .slice x.Q.O x.Q.n x.Q.c, .slice x.mO x.mn x.mc] 31)) z → z.rangeAt w.heap.size 0 T.toList) := fun z hz => by rw [hT]; exact row_range (row_fresh hr hz) rfl
  have HCK : Hid (∀ z, Below w.heap.size w z → Calls Try.prog 27 #[.agg T] z fun e w' => e = .returned (.int .i64 0) ∧ Below z.heap.size z w') := fun z hz => by rw [hT]; exact check_wref (hx.fresh hz) 0 (.inr (.inr ⟨hm, hp, rfl⟩))
  have HCW : Hid (∀ z, Below w.heap.size w z → Calls Try.prog 29 #[.agg T] z fun e w' => ∃ y, e = .returned (.agg (wtA y)) ∧ WtR w' y ∧ Sm x y ∧ Below z.heap.size z w') := fun z hz => by
    rw [hT]
    exact (copyW_any (hx.fresh hz) (hp.b hm)).mono fun e w' ⟨y, h1, h2⟩ => ⟨y, h1, h2.wtr hx, h2.sm, h2.low⟩
  have HNW : Hid (∀ (z : World) (y : WtD), WtR z y → Sm x y → Calls Try.prog 28 #[.agg (wtA y)] z fun e w' => ∃ y' g, e = .returned (.tuple #[.pointer (some ⟨g, 0, none⟩), .int .i64 0]) ∧ Mdl w' g x y' ∧ Below z.heap.size z w') := fun z y h1 h2 => (new_ok h1 (h2.may hm) (h2.wtp hp)).mono fun e w' ⟨y', g, h3, h4, h5, h6⟩ => ⟨y', g, h3, ⟨h4.row, h4.rd, h2.trans h4.sm⟩, h6⟩
  clear hx hr hT hm hp
  go_enter Try.func9, Try.ntmps9
  go_upto_region 1 with fail
  generalize w.alloc (.cells #[.int .i64 x.V, .int .i64 x.W, .int .i64 x.H, .int .i64 x.K, .int .i64 x.L, .int .i64 x.D, .int .i64 x.N, .int .i64 x.M, .int .i64 x.E.R, .int .i64 x.E.C, .slice x.E.O x.E.n x.E.c, .slice x.tO x.tn x.tc, .slice x.yO x.yn x.yc, .slice x.F.O x.F.n x.F.c, .int .i64 x.Q.R, .int .i64 x.Q.C, .slice x.Q.O x.Q.n x.Q.c, .slice x.mO x.mn x.mc] 31) = wa at *
  have RG := hidd (HRG.out wa (Below.refl _ _))
  go_wp2_with (refine wpList_load_mid rfl 31 _ rfl w.heap.size 0 rfl T.toList _ RG.out Try.underlying31 rfl SL.out ?_)
  refine (HCK.out _ f1).mono ?_
  rintro e w1 ⟨rfl, f2⟩
  have F1 := hidd (fresh_trans f1 f2)
  replace RG := hidd (HRG.out w1 f2)
  clear f1 f2 HRG HCK
  go_wp2_with (refine wpList_load_mid rfl 31 _ rfl w.heap.size 0 rfl T.toList _ RG.out Try.underlying31 rfl SL.out ?_)
  refine (HCW.out _ F1.out).mono ?_
  rintro e w2 ⟨y, rfl, hy, hs, f3⟩
  have HY := hidd hy
  have HS := hidd hs
  have F2 := hidd (fresh_trans F1.out f3)
  clear hy hs f3 F1 RG SL HCW
  go_wp2_with fail
  refine (HNW.out _ y HY.out HS.out).mono ?_
  rintro e w3 ⟨y', g, rfl, hm, f4⟩
  have HM := hidd hm
  have F3 := hidd (fresh_trans F2.out f4)
  clear hm f4 F2 HNW HS HY
  go_wp2
  go_ret3
  exact ⟨y', g, rfl, HM.out, F3.out⟩
theorem Mdl.b {W : World} {g : Nat} {x y : WtD} (h : Mdl W g x y) (hm : x.may) (hp : WtP x) : WtB y := (h.sm.wtp hp).b (h.sm.may hm)
end Go.Proofs.Ytjjnfpeeipainaa
