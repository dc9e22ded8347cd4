import Derived.Test.YtilghknalbhacaaERX
import Derived.Test.YtilghknalbhacaaEnM
import Derived.Test.YtilghknalbhacaaEPX
import Derived.Test.YtilghknalbhacaaCpQm
namespace Go.Proofs.Ytilghknalbhacaa
open Go.RowKit
/-! ModelEncodes. -/
/-- what Encode answers, on both sides -/
def EnA9 (er : Int) (N : Nat) (F : Nat → Int) (z : World) (e : Ending) (w' : World) : Prop := ∃ u c, e = .returned (.tuple #[.slice u N c, .int .i64 er]) ∧ RdA w' u 1 N c (fun i => .int .u8 (F i)) ∧ Below z.heap.size z w'
theorem enc_both {x v : WtD} (h : Sm x v) (hb : WtB x) : ∃ er N F, (∀ z, WtR z v → Calls Try.prog 12 #[.agg (wtA v)] z (EnA9 er N F z)) ∧ (∀ z, WtR z x → Calls Try.prog 20 #[.agg (wtA x)] z (EnA9 er N F z)) := by
  by_cases hf : x.may ∧ WtP x
  · obtain ⟨hm, hp⟩ := hf
    have hf9 := fileL_sm h.bs h.yy h.mm
    refine ⟨0, (fileL x).length, fun i => (fileL x).getD i 0, fun z hz => ?_, fun z hz => ?_⟩
    · refine (enc_ok hz ((h.wtp hp).z (h.may hm) ((h.wtp hp).b (h.may hm))) (h.may hm) (h.wtp hp)).mono ?_
      rintro e w' ⟨u, c, e1, e2, e3⟩
      rw [hf9] at e1 e2
      exact ⟨u, c, e1, Own.rda e2, e3⟩
    · refine (refenc_ok hz (hp.z hm hb) hm hp).mono ?_
      rintro e w' ⟨u, c, e1, e2, e3⟩
      exact ⟨u, c, e1, Own.rda e2, e3⟩
  · obtain ⟨er, he, h0⟩ : ∃ er, IsE x er ∧ er ≠ 0 := by
      by_cases hm : x.may
      · exact ⟨41, .inr (.inl ⟨hm, fun hp => hf ⟨hm, hp⟩, rfl⟩), by decide⟩
      · exact ⟨40, .inl ⟨hm, rfl⟩, by decide⟩
    have hs : Sm v x := by
      have b := h.bs
      obtain ⟨a1, a2, a3, a4, a5, a6, a7, a8⟩ := b.cfg
      refine ⟨⟨⟨a1.symm, a2.symm, a3.symm, a4.symm, a5.symm, a6.symm, a7.symm, a8.symm⟩, ⟨b.E.1.symm, b.E.2.1.symm, b.E.2.2.1.symm, b.E.2.2.2.symm⟩, ⟨b.Q.1.symm, b.Q.2.1.symm, b.Q.2.2.1.symm, b.Q.2.2.2.symm⟩, ⟨b.F.1.symm, b.F.2.symm⟩, ⟨b.T.1.symm, b.T.2.1.symm, b.T.2.2.symm⟩, b.Y.symm, b.M.symm⟩, fun j hj => ?_, fun j hj => ?_⟩
      · have := h.yy j (by rw [← b.Y]; exact hj)
        exact ⟨⟨this.1.1.symm, this.1.2.symm⟩, ⟨this.2.1.1.symm, this.2.1.2.symm⟩, fun q hq => ⟨(this.2.2.1 q hq).1.symm, (this.2.2.1 q hq).2.1.symm, (this.2.2.1 q hq).2.2.1.symm, (this.2.2.1 q hq).2.2.2.symm⟩, this.2.2.2.symm⟩
      · have := h.mm j (by rw [← b.M]; exact hj)
        exact ⟨this.1.symm, this.2.1.symm, this.2.2.1.symm, this.2.2.2.symm⟩
    have he' : IsE v er := by
      rcases he with ⟨h1, h2⟩ | ⟨h1, h2, h3⟩ | ⟨h1, h2, h3⟩
      · exact .inl ⟨fun k => h1 (hs.may k), h2⟩
      · exact .inr (.inl ⟨h.may h1, fun k => h2 (hs.wtp k), h3⟩)
      · exact absurd h3 h0
    refine ⟨er, 0, fun _ => 0, fun z hz => ?_, fun z hz => ?_⟩
    · refine (enc_bad hz he' h0).mono ?_
      rintro e w' ⟨e1, e3⟩
      exact ⟨none, 0, e1, ⟨Nat.le_refl _, Nat.zero_le _, fun h => absurd h (by omega)⟩, e3⟩
    · refine (refenc_bad hz he h0).mono ?_
      rintro e w' ⟨e1, e3⟩
      exact ⟨none, 0, e1, ⟨Nat.le_refl _, Nat.zero_le _, fun h => absurd h (by omega)⟩, e3⟩
theorem row18 {P : Nat → Prop} (h : ∀ i, i < 18 → P i) : P 0 ∧ P 1 ∧ P 2 ∧ P 3 ∧ P 4 ∧ P 5 ∧ P 6 ∧ P 7 ∧ P 8 ∧ P 9 ∧ P 10 ∧ P 11 ∧ P 12 ∧ P 13 ∧ P 14 ∧ P 15 ∧ P 16 ∧ P 17 := ⟨h 0 (by decide), h 1 (by decide), h 2 (by decide), h 3 (by decide), h 4 (by decide), h 5 (by decide), h 6 (by decide), h 7 (by decide), h 8 (by decide), h 9 (by decide), h 10 (by decide), h 11 (by decide), h 12 (by decide), h 13 (by decide), h 14 (by decide), h 15 (by decide), h 16 (by decide), h 17 (by decide)⟩
theorem put_v {z : World} {B gE gF gQ : Nat} {x y : WtD} (hs : BS x y) (h : z.rowIs B 34 18 (fun j => if j = 16 then .slice (some ⟨gQ, 0, none⟩) x.Q.n (x.Q.n + 64) else (fun j => if j = 13 then .slice (some ⟨gF, 0, none⟩) x.F.n (x.F.n + 64) else (fun j => if j = 10 then .slice (some ⟨gE, 0, none⟩) x.E.n (x.E.n + 64) else wtc y j) j) j)) : z.rowIs B 34 18 (wtc { y with E := { x.E with O := some ⟨gE, 0, none⟩, c := x.E.n + 64 }, F := { x.F with O := some ⟨gF, 0, none⟩, c := x.F.n + 64 }, Q := { x.Q with O := some ⟨gQ, 0, none⟩, c := x.Q.n + 64 } }) := by
  refine h.congr (fun i hi => ?_)
  have e1 := hs.E.1
  have e2 := hs.E.2.1
  have e3 := hs.Q.1
  have e4 := hs.Q.2.1
  rcases i with _ | i
  · rfl
  rcases i with _ | i
  · rfl
  rcases i with _ | i
  · rfl
  rcases i with _ | i
  · rfl
  rcases i with _ | i
  · rfl
  rcases i with _ | i
  · rfl
  rcases i with _ | i
  · rfl
  rcases i with _ | i
  · rfl
  rcases i with _ | i
  · show Value.int .i64 y.E.R = Value.int .i64 x.E.R; rw [e1]
  rcases i with _ | i
  · show Value.int .i64 y.E.C = Value.int .i64 x.E.C; rw [e2]
  rcases i with _ | i
  · rfl
  rcases i with _ | i
  · rfl
  rcases i with _ | i
  · rfl
  rcases i with _ | i
  · rfl
  rcases i with _ | i
  · show Value.int .i64 y.Q.R = Value.int .i64 x.Q.R; rw [e3]
  rcases i with _ | i
  · show Value.int .i64 y.Q.C = Value.int .i64 x.Q.C; rw [e4]
  rcases i with _ | i
  · rfl
  rcases i with _ | i
  · rfl
  omega
theorem set3_low {w z : World} {B : Nat} {a b c : Value} (h : Below B w z) : Below B w (((z.setCell ⟨B, 10, none⟩ a).setCell ⟨B, 13, none⟩ b).setCell ⟨B, 16, none⟩ c) := ((h.setCell (Nat.le_refl _) _).setCell (Nat.le_refl _) _).setCell (Nat.le_refl _) _
end Go.Proofs.Ytilghknalbhacaa
namespace Go.Proofs.Ytilghknalbhacaa
open Go.RowKit
/-! ModelEncodes: the walk. -/
theorem sm_v {x y : WtD} {gE gF gQ : Nat} (h : Sm x y) : Sm x { y with E := { x.E with O := some ⟨gE, 0, none⟩, c := x.E.n + 64 }, F := { x.F with O := some ⟨gF, 0, none⟩, c := x.F.n + 64 }, Q := { x.Q with O := some ⟨gQ, 0, none⟩, c := x.Q.n + 64 } } :=
  ⟨⟨h.bs.cfg, ⟨rfl, rfl, rfl, rfl⟩, ⟨rfl, rfl, rfl, rfl⟩, ⟨rfl, rfl⟩, h.bs.T, h.bs.Y, h.bs.M⟩, h.yy, h.mm⟩
theorem wtr_v {w0 z : World} {x y : WtD} {gE gF gQ : Nat} (hx : WtR w0 x) (hb : WtB x) (hy : WtR z y) (hE : z.rowIs gE 84 (x.E.n + 64) (fun i => .int .i8 (mkd x.E.f x.E.n i))) (hF : z.rowIs gF 84 (x.F.n + 64) (fun i => .int .i8 (mkd x.F.f x.F.n i))) (hQ : z.rowIs gQ 84 (x.Q.n + 64) (fun i => .int .i8 (mkd x.Q.f x.Q.n i))) : WtR z { y with E := { x.E with O := some ⟨gE, 0, none⟩, c := x.E.n + 64 }, F := { x.F with O := some ⟨gF, 0, none⟩, c := x.F.n + 64 }, Q := { x.Q with O := some ⟨gQ, 0, none⟩, c := x.Q.n + 64 } } := by
  have b1 := hb.E
  have b2 := hb.F
  have b3 := hb.Q
  exact ⟨⟨mkd_rd hE (Nat.le_trans b1 (by decide)), hx.E.bd⟩, hy.T, ⟨mkd_rd hF (Nat.le_trans b2 (by decide)), hx.F.bd⟩, ⟨mkd_rd hQ (Nat.le_trans b3 (by decide)), hx.Q.bd⟩, hy.yle, hy.ytop, hy.yat, hy.yr, hy.mle, hy.mtop, hy.mat, hy.mr⟩
theorem eqW_v {z : World} {x v : WtD} (hx : WtR z x) (hv : WtR z v) (h : Sm x v) : Calls Try.prog 16 #[.agg (wtA v), .agg (wtA x)] z fun e w' => e = .returned (.bool true) ∧ Below z.heap.size z w' := by
  have := eqWts_same hx hv h.bs h.yy h.mm
  obtain ⟨a1, a2, a3, a4, a5, a6, a7, a8⟩ := h.bs.cfg
  have e : wtA v = #[.int .i64 x.V, .int .i64 x.W, .int .i64 x.H, .int .i64 x.K, .int .i64 x.L, .int .i64 x.D, .int .i64 x.N, .int .i64 x.M, .int .i64 v.E.R, .int .i64 v.E.C, .slice v.E.O v.E.n v.E.c, .slice v.tO x.tn v.tc, .slice v.yO x.yn v.yc, .slice v.F.O v.F.n v.F.c, .int .i64 v.Q.R, .int .i64 v.Q.C, .slice v.Q.O v.Q.n v.Q.c, .slice v.mO x.mn v.mc] := by
    unfold wtA wtL
    rw [a1, a2, a3, a4, a5, a6, a7, a8, h.bs.T.1, h.bs.Y, h.bs.M]
  rw [e]
  exact this
theorem wpList_load_midG {P : Program} {ops : Array Oper} {rest : List Oper} {op : Oper} {a : Act} {w : World} {Q : Exit → Act → World → Prop} (hgd : Region.wanted op (yielded ops a.tmps) = true) (ty : TypeId) (x : Operand) (ho : op.op = .load ty x)
    (b o : Nat) (hx : a.eval x = .pointer (some ⟨b, o, none⟩)) (cs : List Value) (d : TypeDesc) (hc : w.rangeAt b o cs)
    (hu : P.underlying ty = some d) (hd : d.isRow = true) (hi : (P.info? ty).map (·.size) = some cs.length)
    (h : wpList P ops Q rest (a.put op.dst (.agg cs.toArray)) w) : wpList P ops Q (op :: rest) a w :=
  wpList_step fun K hK => by rw [if_pos hgd]; exact wp_load_mid ty x ho b o hx cs d hc hu hd hi (hK _ _ h)
set_option maxRecDepth 100000 in
set_option maxHeartbeats 8000000 in
theorem encodes_any {w : World} {x : WtD} (h : WtR w x) (hb : WtB x) :
    Calls Try.prog 5 #[.agg #[.int .i64 x.V, .int .i64 x.W, .int .i64 x.H, .int .i64 x.K, .int .i64 x.L, .int .i64 x.D, .int .i64 x.N, .int .i64 x.M, .int .i64 x.E.R, .int .i64 x.E.C, .slice x.E.O x.E.n x.E.c, .slice x.tO x.tn x.tc, .slice x.yO x.yn x.yc, .slice x.F.O x.F.n x.F.c, .int .i64 x.Q.R, .int .i64 x.Q.C, .slice x.Q.O x.Q.n x.Q.c, .slice x.mO x.mn x.mc]] w fun e w' => e = .returned (.bool true) ∧ Below w.heap.size w w' := by
  obtain ⟨T, hT⟩ : ∃ T, T = wtA x := ⟨_, rfl⟩
  have HBX : Hid ((w.alloc (.cells #[.int .i64 x.V, .int .i64 x.W, .int .i64 x.H, .int .i64 x.K, .int .i64 x.L, .int .i64 x.D, .int .i64 x.N, .int .i64 x.M, .int .i64 x.E.R, .int .i64 x.E.C, .slice x.E.O x.E.n x.E.c, .slice x.tO x.tn x.tc, .slice x.yO x.yn x.yc, .slice x.F.O x.F.n x.F.c, .int .i64 x.Q.R, .int .i64 x.Q.C, .slice x.Q.O x.Q.n x.Q.c, .slice x.mO x.mn x.mc] 34)).rowIs w.heap.size 34 18 (wtc x)) := World.rowIs_list w (wtL x) 34
  have f1 := fresh_alloc w (.cells #[.int .i64 x.V, .int .i64 x.W, .int .i64 x.H, .int .i64 x.K, .int .i64 x.L, .int .i64 x.D, .int .i64 x.N, .int .i64 x.M, .int .i64 x.E.R, .int .i64 x.E.C, .slice x.E.O x.E.n x.E.c, .slice x.tO x.tn x.tc, .slice x.yO x.yn x.yc, .slice x.F.O x.F.n x.F.c, .int .i64 x.Q.R, .int .i64 x.Q.C, .slice x.Q.O x.Q.n x.Q.c, .slice x.mO x.mn x.mc] 34)
  have hsz : (w.alloc (.cells #[.int .i64 x.V, .int .i64 x.W, .int .i64 x.H, .int .i64 x.K, .int .i64 x.L, .int .i64 x.D, .int .i64 x.N, .int .i64 x.M, .int .i64 x.E.R, .int .i64 x.E.C, .slice x.E.O x.E.n x.E.c, .slice x.tO x.tn x.tc, .slice x.yO x.yn x.yc, .slice x.F.O x.F.n x.F.c, .int .i64 x.Q.R, .int .i64 x.Q.C, .slice x.Q.O x.Q.n x.Q.c, .slice x.mO x.mn x.mc] 34)).heap.size = w.heap.size + 1 := by simp
  have SL : Hid ((Try.prog.info? 34).map (·.size) = some T.toList.length) := by rw [hT]; exact sizeW
  have HRGT : Hid (∀ z : World, z.rowIs w.heap.size 34 18 (wtc x) → z.rangeAt w.heap.size 0 T.toList) := fun z hz => by rw [hT]; exact row_range hz rfl
  have HCP : Hid (∀ z, Below w.heap.size w z → Calls Try.prog 18 #[.agg T] z fun e w' => ∃ y, e = .returned (.agg (wtA y)) ∧ WtR w' y ∧ Sm x y ∧ Below z.heap.size z w') := fun z hz => by rw [hT]; exact (copyW_any (h.fresh hz) hb).mono fun e w' ⟨y, h1, h2⟩ => ⟨y, h1, h2.wtr h, h2.sm, h2.low⟩
  have hE := hb.E
  have hF := hb.F
  have hQ := hb.Q
  have HX := hidd h
  have HB := hidd hb
  have HT := hidd hT
  clear h hb hT
  go_enter Try.func5, Try.ntmps5
  go_upto_region 1 with fail
  generalize w.alloc (.cells #[.int .i64 x.V, .int .i64 x.W, .int .i64 x.H, .int .i64 x.K, .int .i64 x.L, .int .i64 x.D, .int .i64 x.N, .int .i64 x.M, .int .i64 x.E.R, .int .i64 x.E.C, .slice x.E.O x.E.n x.E.c, .slice x.tO x.tn x.tc, .slice x.yO x.yn x.yc, .slice x.F.O x.F.n x.F.c, .int .i64 x.Q.R, .int .i64 x.Q.C, .slice x.Q.O x.Q.n x.Q.c, .slice x.mO x.mn x.mc] 34) = wa at *
  have RG := hidd (HRGT.out wa HBX.out)
  have F1 := hidd f1
  go_wp2_with (refine wpList_load_mid rfl 34 _ rfl w.heap.size 0 rfl T.toList _ RG.out Try.underlying34 rfl SL.out ?_)
  refine (HCP.out _ f1).mono ?_
  rintro e w1 ⟨y, rfl, hy, hs, f2⟩
  have HY := hidd hy
  have HS := hidd hs
  have HBX1 := hidd (row_fresh HBX.out f2)
  have F2 := hidd (fresh_trans F1.out f2)
  have hw1 : w.heap.size < w1.heap.size := by have := f2.size; omega
  clear RG hy hs f2 f1 hsz F1 HCP HBX
  obtain ⟨T9, hT9⟩ : ∃ T9, T9 = wtA y := ⟨_, rfl⟩
  rw [← hT9]
  have S18 : Hid ((Try.prog.info? 34).map (·.size) = some T9.size) := by rw [hT9]; exact sizeW
  have H1 : Hid (T9.all (·.oneCell') = true) := by rw [hT9]; exact wtA_one y
  have HOZ : Hid ((#[.int .i64 0, .int .i64 0, .int .i64 0, .int .i64 0, .int .i64 0, .int .i64 0, .int .i64 0, .int .i64 0, .int .i64 0, .int .i64 0, .slice none 0 0, .slice none 0 0, .slice none 0 0, .slice none 0 0, .int .i64 0, .int .i64 0, .slice none 0 0, .slice none 0 0] : Array Value).size = T9.size) := by rw [hT9]; rfl
  have HZH : Hid ((w1.alloc (.cells #[.int .i64 0, .int .i64 0, .int .i64 0, .int .i64 0, .int .i64 0, .int .i64 0, .int .i64 0, .int .i64 0, .int .i64 0, .int .i64 0, .slice none 0 0, .slice none 0 0, .slice none 0 0, .slice none 0 0, .int .i64 0, .int .i64 0, .slice none 0 0, .slice none 0 0] 34)).heap[w1.heap.size]? = some (.cells #[.int .i64 0, .int .i64 0, .int .i64 0, .int .i64 0, .int .i64 0, .int .i64 0, .int .i64 0, .int .i64 0, .int .i64 0, .int .i64 0, .slice none 0 0, .slice none 0 0, .slice none 0 0, .slice none 0 0, .int .i64 0, .int .i64 0, .slice none 0 0, .slice none 0 0] 34 (0, 0))) := heap_new _ _
  have HEQ : Hid ((w1.alloc (.cells #[.int .i64 0, .int .i64 0, .int .i64 0, .int .i64 0, .int .i64 0, .int .i64 0, .int .i64 0, .int .i64 0, .int .i64 0, .int .i64 0, .slice none 0 0, .slice none 0 0, .slice none 0 0, .slice none 0 0, .int .i64 0, .int .i64 0, .slice none 0 0, .slice none 0 0] 34)).setRow w1.heap.size T9 = w1.alloc (.cells T9 34)) := World.setRow_alloc_new _ _ _ _
  have HRW : Hid ((w1.alloc (.cells T9 34)).rowIs w1.heap.size 34 18 (wtc y)) := by rw [hT9]; exact World.rowIs_list w1 (wtL y) 34
  have f2 := fresh_alloc w1 (.cells T9 34)
  have hs2 : (w1.alloc (.cells T9 34)).heap.size = w1.heap.size + 1 := by simp
  clear hT9
  go_upto_region 2 with (refine wpList_store_row rfl 34 _ _ rfl w1.heap.size T9 rfl rfl 34 _ HZH.out S18.out HOZ.out H1.out ?_)
  rw [HEQ.out]
  clear HEQ HZH HOZ H1 S18
  generalize w1.alloc (.cells T9 34) = w2 at *
  have L2 := hidd f2
  have HBX2 := hidd (row_fresh HBX1.out f2)
  clear f2 HBX1
  have b10 : w2.cell? ⟨w.heap.size, 10, none⟩ = some (.slice x.E.O x.E.n x.E.c) := HBX2.out.cell (i := 10) (by decide)
  obtain ⟨gE, hgE⟩ : ∃ g, g = w2.heap.size := ⟨_, rfl⟩
  have logE : w1.heap.size < gE := by omega
  have HME : Hid (Calls Try.prog 19 #[.slice x.E.O x.E.n x.E.c] w2 fun e w' => e = .returned (.slice (some ⟨gE, 0, none⟩) x.E.n (x.E.n + 64)) ∧ w'.rowIs gE 84 (x.E.n + 64) (fun i => .int .i8 (mkd x.E.f x.E.n i)) ∧ Below w2.heap.size w2 w') := by rw [hgE]; exact marked_any (HX.out.fresh (fresh_trans F2.out L2.out)).E.rd (show x.E.n ≤ 2147483647 by omega)
  clear hgE
  go_wp2_with fail
  refine HME.out.mono ?_
  rintro e w3 ⟨rfl, hm1, f3⟩
  have L3 := hidd (fresh_trans L2.out f3)
  have M1 := hidd hm1
  have HBX3 := hidd (row_fresh HBX2.out f3)
  have HRW3 := hidd (row_fresh HRW.out f3)
  have hs3 : gE < w3.heap.size := hm1.lt
  clear hs2
  clear b10 HME hm1 f3 HBX2 HRW
  have s10 : ∃ v, w3.cell? ⟨w1.heap.size, 10, none⟩ = some v := ⟨_, HRW3.out.cell (i := 10) (by decide)⟩
  obtain ⟨v10, s10⟩ := s10
  have fz : ∀ j, w3.frozen? ⟨w1.heap.size, j, none⟩ = false := HRW3.out.frozen
  go_upto_region 3 with fail
  clear s10 fz
  have HR4 := hidd (HRW3.out.set 10 (.slice (some ⟨gE, 0, none⟩) x.E.n (x.E.n + 64)))
  have HB4 := hidd (HBX3.out.setOther (a := ⟨w1.heap.size, 10, none⟩) (show w.heap.size ≠ w1.heap.size by omega) (.slice (some ⟨gE, 0, none⟩) x.E.n (x.E.n + 64)))
  have M14 := hidd (M1.out.setOther (a := ⟨w1.heap.size, 10, none⟩) (show gE ≠ w1.heap.size by omega) (.slice (some ⟨gE, 0, none⟩) x.E.n (x.E.n + 64)))
  have L4 : Hid (Below w1.heap.size w1 (w3.setCell ⟨w1.heap.size, 10, none⟩ (.slice (some ⟨gE, 0, none⟩) x.E.n (x.E.n + 64)))) := L3.out.setCell (Nat.le_refl _) _
  have hs4 : w1.heap.size < (w3.setCell ⟨w1.heap.size, 10, none⟩ (.slice (some ⟨gE, 0, none⟩) x.E.n (x.E.n + 64))).heap.size := by simpa using Nat.lt_trans logE hs3
  clear HRW3 HBX3 M1 L3 L2
  generalize w3.setCell ⟨w1.heap.size, 10, none⟩ (.slice (some ⟨gE, 0, none⟩) x.E.n (x.E.n + 64)) = w4 at *
  have b13 : w4.cell? ⟨w.heap.size, 13, none⟩ = some (.slice x.F.O x.F.n x.F.c) := HB4.out.cell (i := 13) (by decide)
  have F4 := hidd (F2.out.trans (L4.out.mono F2.out.size))
  obtain ⟨gF, hgF⟩ : ∃ g, g = w4.heap.size := ⟨_, rfl⟩
  have logF : w1.heap.size < gF := by omega
  have HMF : Hid (Calls Try.prog 19 #[.slice x.F.O x.F.n x.F.c] w4 fun e w' => e = .returned (.slice (some ⟨gF, 0, none⟩) x.F.n (x.F.n + 64)) ∧ w'.rowIs gF 84 (x.F.n + 64) (fun i => .int .i8 (mkd x.F.f x.F.n i)) ∧ Below w4.heap.size w4 w') := by rw [hgF]; exact marked_any (HX.out.fresh F4.out).F.rd (show x.F.n ≤ 2147483647 by omega)
  clear hgF
  go_wp2_with fail
  refine HMF.out.mono ?_
  rintro e w5 ⟨rfl, hm2, f5⟩
  have L5 := hidd (L4.out.trans (f5.mono L4.out.size))
  have M15 := hidd (row_fresh M14.out f5)
  have M25 := hidd hm2
  have HB5 := hidd (row_fresh HB4.out f5)
  have HR5 := hidd (row_fresh HR4.out f5)
  have hs5 : w1.heap.size < w5.heap.size := by have := hm2.lt; omega
  clear b13 HMF hm2 f5 HB4 HR4 M14 F4 L4
  have s13 : ∃ v, w5.cell? ⟨w1.heap.size, 13, none⟩ = some v := ⟨_, HR5.out.cell (i := 13) (by decide)⟩
  obtain ⟨v13, s13⟩ := s13
  have fz : ∀ j, w5.frozen? ⟨w1.heap.size, j, none⟩ = false := HR5.out.frozen
  go_upto_region 4 with fail
  clear s13 fz
  have HR6 := hidd (HR5.out.set 13 (.slice (some ⟨gF, 0, none⟩) x.F.n (x.F.n + 64)))
  have HB6 := hidd (HB5.out.setOther (a := ⟨w1.heap.size, 13, none⟩) (show w.heap.size ≠ w1.heap.size by omega) (.slice (some ⟨gF, 0, none⟩) x.F.n (x.F.n + 64)))
  have M16 := hidd (M15.out.setOther (a := ⟨w1.heap.size, 13, none⟩) (show gE ≠ w1.heap.size by omega) (.slice (some ⟨gF, 0, none⟩) x.F.n (x.F.n + 64)))
  have M26 := hidd (M25.out.setOther (a := ⟨w1.heap.size, 13, none⟩) (show gF ≠ w1.heap.size by omega) (.slice (some ⟨gF, 0, none⟩) x.F.n (x.F.n + 64)))
  have L6 : Hid (Below w1.heap.size w1 (w5.setCell ⟨w1.heap.size, 13, none⟩ (.slice (some ⟨gF, 0, none⟩) x.F.n (x.F.n + 64)))) := L5.out.setCell (Nat.le_refl _) _
  have hs6 : w1.heap.size < (w5.setCell ⟨w1.heap.size, 13, none⟩ (.slice (some ⟨gF, 0, none⟩) x.F.n (x.F.n + 64))).heap.size := by simpa using hs5
  clear HR5 HB5 M15 M25 L5
  generalize w5.setCell ⟨w1.heap.size, 13, none⟩ (.slice (some ⟨gF, 0, none⟩) x.F.n (x.F.n + 64)) = w6 at *
  have b16 : w6.cell? ⟨w.heap.size, 16, none⟩ = some (.slice x.Q.O x.Q.n x.Q.c) := HB6.out.cell (i := 16) (by decide)
  have F6 := hidd (F2.out.trans (L6.out.mono F2.out.size))
  obtain ⟨gQ, hgQ⟩ : ∃ g, g = w6.heap.size := ⟨_, rfl⟩
  have logQ : w1.heap.size < gQ := by omega
  have HMQ : Hid (Calls Try.prog 19 #[.slice x.Q.O x.Q.n x.Q.c] w6 fun e w' => e = .returned (.slice (some ⟨gQ, 0, none⟩) x.Q.n (x.Q.n + 64)) ∧ w'.rowIs gQ 84 (x.Q.n + 64) (fun i => .int .i8 (mkd x.Q.f x.Q.n i)) ∧ Below w6.heap.size w6 w') := by rw [hgQ]; exact marked_any (HX.out.fresh F6.out).Q.rd (show x.Q.n ≤ 2147483647 by omega)
  clear hgQ
  go_wp2_with fail
  refine HMQ.out.mono ?_
  rintro e w7 ⟨rfl, hm3, f7⟩
  have L7 := hidd (L6.out.trans (f7.mono L6.out.size))
  have M17 := hidd (row_fresh M16.out f7)
  have M27 := hidd (row_fresh M26.out f7)
  have M37 := hidd hm3
  have HB7 := hidd (row_fresh HB6.out f7)
  have HR7 := hidd (row_fresh HR6.out f7)
  clear b16 HMQ hm3 f7 HB6 HR6 M16 M26 F6 L6
  have s16 : ∃ v, w7.cell? ⟨w1.heap.size, 16, none⟩ = some v := ⟨_, HR7.out.cell (i := 16) (by decide)⟩
  obtain ⟨v16, s16⟩ := s16
  have fz : ∀ j, w7.frozen? ⟨w1.heap.size, j, none⟩ = false := HR7.out.frozen
  go_upto_region 5 with fail
  clear s16 fz
  have HR8 := hidd (HR7.out.set 16 (.slice (some ⟨gQ, 0, none⟩) x.Q.n (x.Q.n + 64)))
  have HB8 := hidd (HB7.out.setOther (a := ⟨w1.heap.size, 16, none⟩) (show w.heap.size ≠ w1.heap.size by omega) (.slice (some ⟨gQ, 0, none⟩) x.Q.n (x.Q.n + 64)))
  have M18 := hidd (M17.out.setOther (a := ⟨w1.heap.size, 16, none⟩) (show gE ≠ w1.heap.size by omega) (.slice (some ⟨gQ, 0, none⟩) x.Q.n (x.Q.n + 64)))
  have M28 := hidd (M27.out.setOther (a := ⟨w1.heap.size, 16, none⟩) (show gF ≠ w1.heap.size by omega) (.slice (some ⟨gQ, 0, none⟩) x.Q.n (x.Q.n + 64)))
  have M38 := hidd (M37.out.setOther (a := ⟨w1.heap.size, 16, none⟩) (show gQ ≠ w1.heap.size by omega) (.slice (some ⟨gQ, 0, none⟩) x.Q.n (x.Q.n + 64)))
  have L8 : Hid (Below w1.heap.size w1 (w7.setCell ⟨w1.heap.size, 16, none⟩ (.slice (some ⟨gQ, 0, none⟩) x.Q.n (x.Q.n + 64)))) := L7.out.setCell (Nat.le_refl _) _
  clear HR7 HB7 M17 M27 M37 L7
  generalize w7.setCell ⟨w1.heap.size, 16, none⟩ (.slice (some ⟨gQ, 0, none⟩) x.Q.n (x.Q.n + 64)) = w8 at *
  have HV := hidd (put_v HS.out.bs HR8.out)
  have HVS := hidd (sm_v (gE := gE) (gF := gF) (gQ := gQ) HS.out)
  have HVR := hidd (wtr_v HX.out HB.out (HY.out.fresh L8.out) M18.out M28.out M38.out)
  have F8 := hidd (F2.out.trans (L8.out.mono F2.out.size))
  clear HR8 HY HS L8 F2
  generalize w1.heap.size = B1 at *
  obtain ⟨v, hv⟩ : ∃ v : WtD, v = { y with E := { x.E with O := some ⟨gE, 0, none⟩, c := x.E.n + 64 }, F := { x.F with O := some ⟨gF, 0, none⟩, c := x.F.n + 64 }, Q := { x.Q with O := some ⟨gQ, 0, none⟩, c := x.Q.n + 64 } } := ⟨_, rfl⟩
  rw [← hv] at HV HVS HVR
  have HV10 : Hid (wtc v 10 = .slice (some ⟨gE, 0, none⟩) x.E.n (x.E.n + 64) ∧ wtc v 13 = .slice (some ⟨gF, 0, none⟩) x.F.n (x.F.n + 64) ∧ wtc v 16 = .slice (some ⟨gQ, 0, none⟩) x.Q.n (x.Q.n + 64)) := by rw [hv]; exact ⟨rfl, rfl, rfl⟩
  clear hv
  obtain ⟨er, N, F, hen, hrf⟩ := enc_both HVS.out HB.out
  obtain ⟨T8, hT8⟩ : ∃ T8, T8 = wtA v := ⟨_, rfl⟩
  have HEN : Hid (∀ z, WtR z v → Calls Try.prog 12 #[.agg T8] z (EnA9 er N F z)) := by rw [hT8]; exact hen
  have HRE : Hid (∀ z, WtR z x → Calls Try.prog 20 #[.agg T] z (EnA9 er N F z)) := by rw [HT.out]; exact hrf
  have HEQW : Hid (∀ z, WtR z x → WtR z v → Calls Try.prog 16 #[.agg T8, .agg T] z fun e w' => e = .returned (.bool true) ∧ Below z.heap.size z w') := by rw [hT8, HT.out]; exact fun z h1 h2 => eqW_v h1 h2 HVS.out
  have HRG8 : Hid (∀ z : World, z.rowIs B1 34 18 (wtc v) → z.rangeAt B1 0 T8.toList) := fun z hz => by rw [hT8]; exact row_range hz rfl
  have SL8 : Hid ((Try.prog.info? 34).map (·.size) = some T8.toList.length) := by rw [hT8]; exact sizeW
  clear hen hrf hT8 HT
  have RG := hidd (HRG8.out w8 HV.out)
  go_wp2_with (refine wpList_load_mid rfl 34 _ rfl B1 0 rfl T8.toList _ RG.out Try.underlying34 rfl SL8.out ?_)
  refine (HEN.out _ HVR.out).mono ?_
  rintro e w9 ⟨u1, c1, rfl, r1, f9⟩
  have R1 := hidd r1
  have HV9 := hidd (row_fresh HV.out f9)
  have HB9 := hidd (row_fresh HB8.out f9)
  have HVR9 := hidd (HVR.out.fresh f9)
  have N1 := hidd (row_fresh M18.out f9)
  have N2 := hidd (row_fresh M28.out f9)
  have N3 := hidd (row_fresh M38.out f9)
  have F9 := hidd (fresh_trans F8.out f9)
  clear RG r1 f9 HV HB8 HVR M18 M28 M38 F8 HEN
  have RG := hidd (HRGT.out w9 HB9.out)
  go_wp2_with (refine wpList_load_mid rfl 34 _ rfl w.heap.size 0 rfl T.toList _ RG.out Try.underlying34 rfl SL.out ?_)
  refine (HRE.out _ (HX.out.fresh F9.out)).mono ?_
  rintro e w10 ⟨u2, c2, rfl, r2, f10⟩
  have HEB := hidd (eqBytes_same (R1.out.fresh f10) r2 (fun _ _ => rfl))
  have HVA := hidd (row_fresh HV9.out f10)
  have HBA := hidd (row_fresh HB9.out f10)
  have HVRA := hidd (HVR9.out.fresh f10)
  have O1 := hidd (row_fresh N1.out f10)
  have O2 := hidd (row_fresh N2.out f10)
  have O3 := hidd (row_fresh N3.out f10)
  have FA := hidd (fresh_trans F9.out f10)
  clear RG r2 f10 HV9 HB9 HVR9 N1 N2 N3 F9 HRE R1
  go_wp2_with fail
  refine HEB.out.mono ?_
  rintro e w11 ⟨rfl, f11⟩
  have HVB := hidd (row_fresh HVA.out f11)
  have HBB := hidd (row_fresh HBA.out f11)
  have HVRB := hidd (HVRA.out.fresh f11)
  have P1 := hidd (row_fresh O1.out f11)
  have P2 := hidd (row_fresh O2.out f11)
  have P3 := hidd (row_fresh O3.out f11)
  have FB := hidd (fresh_trans FA.out f11)
  clear f11 HVA HBA HVRA O1 O2 O3 FA HEB
  have b10 : w11.cell? ⟨w.heap.size, 10, none⟩ = some (.slice x.E.O x.E.n x.E.c) := HBB.out.cell (i := 10) (by decide)
  have s10 : w11.cell? ⟨B1, 10, none⟩ = some (.slice (some ⟨gE, 0, none⟩) x.E.n (x.E.n + 64)) := by rw [← HV10.out.1]; exact HVB.out.cell (i := 10) (by decide)
  have HST := hidd (still_any (HX.out.fresh FB.out).E.rd P1.out (show x.E.n ≤ 2147483647 by omega))
  go_wp2_with fail
  refine HST.out.mono ?_
  rintro e w12 ⟨rfl, f12⟩
  have HVC := hidd (row_fresh HVB.out f12)
  have HBC := hidd (row_fresh HBB.out f12)
  have HVRC := hidd (HVRB.out.fresh f12)
  have Q2 := hidd (row_fresh P2.out f12)
  have Q3 := hidd (row_fresh P3.out f12)
  have FC := hidd (fresh_trans FB.out f12)
  clear b10 s10 HST f12 HVB HBB HVRB P1 P2 P3 FB
  have b13 : w12.cell? ⟨w.heap.size, 13, none⟩ = some (.slice x.F.O x.F.n x.F.c) := HBC.out.cell (i := 13) (by decide)
  have s13 : w12.cell? ⟨B1, 13, none⟩ = some (.slice (some ⟨gF, 0, none⟩) x.F.n (x.F.n + 64)) := by rw [← HV10.out.2.1]; exact HVC.out.cell (i := 13) (by decide)
  have HST := hidd (still_any (HX.out.fresh FC.out).F.rd Q2.out (show x.F.n ≤ 2147483647 by omega))
  go_wp2_with fail
  refine HST.out.mono ?_
  rintro e w13 ⟨rfl, f13⟩
  have HVD := hidd (row_fresh HVC.out f13)
  have HBD := hidd (row_fresh HBC.out f13)
  have HVRD := hidd (HVRC.out.fresh f13)
  have R3 := hidd (row_fresh Q3.out f13)
  have FD := hidd (fresh_trans FC.out f13)
  clear b13 s13 HST f13 HVC HBC HVRC Q2 Q3 FC
  have b16 : w13.cell? ⟨w.heap.size, 16, none⟩ = some (.slice x.Q.O x.Q.n x.Q.c) := HBD.out.cell (i := 16) (by decide)
  have s16 : w13.cell? ⟨B1, 16, none⟩ = some (.slice (some ⟨gQ, 0, none⟩) x.Q.n (x.Q.n + 64)) := by rw [← HV10.out.2.2]; exact HVD.out.cell (i := 16) (by decide)
  have HST := hidd (still_any (HX.out.fresh FD.out).Q.rd R3.out (show x.Q.n ≤ 2147483647 by omega))
  go_wp2_with fail
  refine HST.out.mono ?_
  rintro e w14 ⟨rfl, f14⟩
  have HVE := hidd (row_fresh HVD.out f14)
  have HBE := hidd (row_fresh HBD.out f14)
  have HVRE := hidd (HVRD.out.fresh f14)
  have FE := hidd (fresh_trans FD.out f14)
  clear b16 s16 HST f14 HVD HBD HVRD R3 FD
  have RG := hidd (HRGT.out w14 HBE.out)
  have RG8 := hidd (HRG8.out w14 HVE.out)
  have HQ := hidd (HEQW.out w14 (HX.out.fresh FE.out) HVRE.out)
  have her : (er == er) = true := by simp
  clear HV10 HVE HBE HVRE HEQW HRG8 HRGT HVS HX HB
  go_wp2_with (first | refine wpList_load_midG rfl 34 _ rfl B1 0 rfl T8.toList _ RG8.out Try.underlying34 rfl SL8.out ?_ | refine wpList_load_midG rfl 34 _ rfl w.heap.size 0 rfl T.toList _ RG.out Try.underlying34 rfl SL.out ?_)
  refine HQ.out.mono ?_
  rintro e w15 ⟨rfl, f15⟩
  have FF := hidd (fresh_trans FE.out f15)
  clear f15 FE RG RG8 HQ
  go_wp2
  go_ret
  exact ⟨rfl, FF.out⟩
end Go.Proofs.Ytilghknalbhacaa
