import Derived.Test.YtmhjpfjhppcfoaaGreatDoorEgF
namespace Go.Proofs.YtmhjpfjhppcfoaaGreatDoor
open Go.RowKit
/-! begin. -/
theorem range_head {w : World} {b n : Nat} {t : TypeId} {L1 L2 : List Value} (h : w.rowIs b t n (fun i => (L1 ++ L2).getD i undef)) (hn : L1.length ≤ n) : w.rangeAt b 0 L1 := fun j v hj => by
  have hjl := (List.getElem?_eq_some_iff.1 hj).1
  have hc := h.cell (i := j) (by omega)
  rw [Nat.zero_add, hc, List.getD_eq_getElem?_getD, List.getElem?_append_left hjl, hj]
  rfl
def BgP (w : World) (e : Ending) (w' : World) : Prop := Below w.heap.size w w' ∧ ∃ p, e = .returned (.tuple #[.pointer p, .bool true]) ∧ (p = none ∨ ∃ P E, p = some ⟨P, 0, none⟩ ∧ w'.cell? ⟨P, 25, none⟩ = some (.pointer (some ⟨E, 0, none⟩)) ∧ w'.cell? ⟨E, 10, none⟩ = some (.slice none 0 0))
theorem hu1819 {w : World} {gu : Nat} {A0 A1 A2 A3 A4 A5 A6 A7 A8 A9 A10 A11 A12 A13 A14 A15 A16 A17 A18 A19 A20 A21 A22 A23 A24 : Value} (h : w.cell? ⟨gu, 0, none⟩ = some A0 ∧ w.cell? ⟨gu, 1, none⟩ = some A1 ∧ w.cell? ⟨gu, 2, none⟩ = some A2 ∧ w.cell? ⟨gu, 3, none⟩ = some A3 ∧ w.cell? ⟨gu, 4, none⟩ = some A4 ∧ w.cell? ⟨gu, 5, none⟩ = some A5 ∧ w.cell? ⟨gu, 6, none⟩ = some A6 ∧ w.cell? ⟨gu, 7, none⟩ = some A7 ∧ w.cell? ⟨gu, 8, none⟩ = some A8 ∧ w.cell? ⟨gu, 9, none⟩ = some A9 ∧ w.cell? ⟨gu, 10, none⟩ = some A10 ∧ w.cell? ⟨gu, 11, none⟩ = some A11 ∧ w.cell? ⟨gu, 12, none⟩ = some A12 ∧ w.cell? ⟨gu, 13, none⟩ = some A13 ∧ w.cell? ⟨gu, 14, none⟩ = some A14 ∧ w.cell? ⟨gu, 15, none⟩ = some A15 ∧ w.cell? ⟨gu, 16, none⟩ = some A16 ∧ w.cell? ⟨gu, 17, none⟩ = some A17 ∧ w.cell? ⟨gu, 18, none⟩ = some A18 ∧ w.cell? ⟨gu, 19, none⟩ = some A19 ∧ w.cell? ⟨gu, 20, none⟩ = some A20 ∧ w.cell? ⟨gu, 21, none⟩ = some A21 ∧ w.cell? ⟨gu, 22, none⟩ = some A22 ∧ w.cell? ⟨gu, 23, none⟩ = some A23 ∧ w.cell? ⟨gu, 24, none⟩ = some A24) : w.cell? ⟨gu, 18, none⟩ = some A18 ∧ w.cell? ⟨gu, 19, none⟩ = some A19 := by
  obtain ⟨h0, h1, h2, h3, h4, h5, h6, h7, h8, h9, h10, h11, h12, h13, h14, h15, h16, h17, h18, h19, h20, h21, h22, h23, h24⟩ := h
  exact ⟨h18, h19⟩
theorem hu2024 {w : World} {gu : Nat} {A0 A1 A2 A3 A4 A5 A6 A7 A8 A9 A10 A11 A12 A13 A14 A15 A16 A17 A18 A19 A20 A21 A22 A23 A24 : Value} (h : w.cell? ⟨gu, 0, none⟩ = some A0 ∧ w.cell? ⟨gu, 1, none⟩ = some A1 ∧ w.cell? ⟨gu, 2, none⟩ = some A2 ∧ w.cell? ⟨gu, 3, none⟩ = some A3 ∧ w.cell? ⟨gu, 4, none⟩ = some A4 ∧ w.cell? ⟨gu, 5, none⟩ = some A5 ∧ w.cell? ⟨gu, 6, none⟩ = some A6 ∧ w.cell? ⟨gu, 7, none⟩ = some A7 ∧ w.cell? ⟨gu, 8, none⟩ = some A8 ∧ w.cell? ⟨gu, 9, none⟩ = some A9 ∧ w.cell? ⟨gu, 10, none⟩ = some A10 ∧ w.cell? ⟨gu, 11, none⟩ = some A11 ∧ w.cell? ⟨gu, 12, none⟩ = some A12 ∧ w.cell? ⟨gu, 13, none⟩ = some A13 ∧ w.cell? ⟨gu, 14, none⟩ = some A14 ∧ w.cell? ⟨gu, 15, none⟩ = some A15 ∧ w.cell? ⟨gu, 16, none⟩ = some A16 ∧ w.cell? ⟨gu, 17, none⟩ = some A17 ∧ w.cell? ⟨gu, 18, none⟩ = some A18 ∧ w.cell? ⟨gu, 19, none⟩ = some A19 ∧ w.cell? ⟨gu, 20, none⟩ = some A20 ∧ w.cell? ⟨gu, 21, none⟩ = some A21 ∧ w.cell? ⟨gu, 22, none⟩ = some A22 ∧ w.cell? ⟨gu, 23, none⟩ = some A23 ∧ w.cell? ⟨gu, 24, none⟩ = some A24) : w.cell? ⟨gu, 20, none⟩ = some A20 ∧ w.cell? ⟨gu, 21, none⟩ = some A21 ∧ w.cell? ⟨gu, 22, none⟩ = some A22 ∧ w.cell? ⟨gu, 23, none⟩ = some A23 ∧ w.cell? ⟨gu, 24, none⟩ = some A24 := by
  obtain ⟨h0, h1, h2, h3, h4, h5, h6, h7, h8, h9, h10, h11, h12, h13, h14, h15, h16, h17, h18, h19, h20, h21, h22, h23, h24⟩ := h
  exact ⟨h20, h21, h22, h23, h24⟩
theorem twentynine_c25 (w : World) (A0 A1 A2 A3 A4 A5 A6 A7 A8 A9 A10 A11 A12 A13 A14 A15 A16 A17 A18 A19 A20 A21 A22 A23 A24 A25 A26 A27 A28 : Value) : (w.alloc (.cells #[A0, A1, A2, A3, A4, A5, A6, A7, A8, A9, A10, A11, A12, A13, A14, A15, A16, A17, A18, A19, A20, A21, A22, A23, A24, A25, A26, A27, A28] 78)).cell? ⟨w.heap.size, 25, none⟩ = some A25 :=
  (World.rowIs_list w [A0, A1, A2, A3, A4, A5, A6, A7, A8, A9, A10, A11, A12, A13, A14, A15, A16, A17, A18, A19, A20, A21, A22, A23, A24, A25, A26, A27, A28] 78).cell (i := 25) (by simp)
theorem range_at {w : World} {b n o : Nat} {t : TypeId} {A L1 L2 L : List Value} (h : w.rowIs b t n (fun i => L.getD i undef)) (ho : A.length = o) (e : L = A ++ L1 ++ L2) (hn : o + L1.length ≤ n) : w.rangeAt b o L1 := fun j v hj => by
  have hjl := (List.getElem?_eq_some_iff.1 hj).1
  have hc := h.cell (i := o + j) (by omega)
  rw [hc, e, List.getD_eq_getElem?_getD, List.append_assoc, List.getElem?_append_right (by omega), ho, Nat.add_sub_cancel_left, List.getElem?_append_left hjl, hj]
  rfl
theorem run_load_op {P : Program} {ev : Operand → Value} {o : Oper} {ty : TypeId} {x : Operand} (ho : o.op = .load ty x) {b off : Nat} (hx : ev x = .pointer (some ⟨b, off, none⟩)) {T : Array Value} {d : TypeDesc} {w : World} (hc : w.rangeAt b off T.toList) (hu : P.underlying ty = some d) (hd : d.isRow = true) (hi : (P.info? ty).map (·.size) = some T.toList.length) : (execOp ev o).run P w = .ok (.value (.agg T)) w := by
  unfold execOp
  simp only [ho, hx, Sem.run_bind, Sem.run_pure, Result.andThen_ok, run_loadAt_mid w b off ty T.toList d hc hu hd hi]
theorem size_serve0 : (Tryz.prog.info? 37).map (·.size) = some 5 := by kernel_rfl
theorem size_vocab0 : (Tryz.prog.info? 35).map (·.size) = some 2 := by kernel_rfl
theorem range_fresh {w w' : World} {b o : Nat} {L : List Value} (h : w.rangeAt b o L) (f : Below w.heap.size w w') : w'.rangeAt b o L := fun j v hj => fresh_cell f (h j v hj)
theorem size_setup0 : (Tryz.prog.info? 39).map (·.size) = some 25 := by kernel_rfl
theorem sized_ex (d : VD) : ∃ z, d.sized z := by
  by_cases h : d.Right
  · exact ⟨_, .inl ⟨h, rfl⟩⟩
  · exact ⟨_, .inr ⟨h, rfl⟩⟩
theorem enE_ex (x : WtD) (sz : Int) (c : Me) : ∃ er, EnE x sz c er := by
  by_cases h : sz = x.V
  · by_cases k : okM c x.N
    · exact ⟨0, .inr (.inr ⟨h, k, rfl⟩)⟩
    · exact ⟨200, .inr (.inl ⟨h, k, rfl⟩)⟩
  · exact ⟨50, .inl ⟨h, rfl⟩⟩
/-- what the loops keep: the two lists are the law's own, nothing else changes -/
structure BgI (w5 : World) (b0 b1 : Nat) (vv uu : Value) (nb np : Nat) (wr : World) : Prop where
  chg : Chg w5 wr (fun b => b0 ≤ b ∧ b < b1)
  v : ∃ cs, Own wr b0 5 1 vv nb cs
  u : ∃ cs, Own wr b0 88 2 uu np cs
theorem BgI.setV {w5 wr : World} {b0 b1 nb np g cap : Nat} {uu : Value} (h : BgI w5 b0 b1 (.slice (some ⟨g, 0, none⟩) nb cap) uu nb np wr) (hg : g < b1) (hn : 0 < nb) (j : Nat) (z : Value) : BgI w5 b0 b1 (.slice (some ⟨g, 0, none⟩) nb cap) uu nb np (wr.setCell ⟨g, j, none⟩ z) := by
  obtain ⟨cs, hv⟩ := h.v
  obtain ⟨cu, hu⟩ := h.u
  have hb := (hv.lt g rfl).1
  obtain ⟨g', cap', F, e, _, _, _, hr, _⟩ := hv.row1 hn
  cases e
  exact ⟨h.chg.trans (Chg.of_set wr g j z) (fun y _ e => by omega), ⟨_, hv.put j z⟩, ⟨_, hu.set (hu.apart hr (by decide))⟩⟩
theorem BgI.setU {w5 wr : World} {b0 b1 nb np g cap : Nat} {vv : Value} (h : BgI w5 b0 b1 vv (.slice (some ⟨g, 0, none⟩) np cap) nb np wr) (hg : g < b1) (hn : 0 < np) (j : Nat) (z : Value) : BgI w5 b0 b1 vv (.slice (some ⟨g, 0, none⟩) np cap) nb np (wr.setCell ⟨g, j, none⟩ z) := by
  obtain ⟨cs, hv⟩ := h.v
  obtain ⟨cu, hu⟩ := h.u
  have hb := (hu.lt g rfl).1
  obtain ⟨g', cap', F, e, _, _, _, hr, _⟩ := hu.row hn
  cases e
  exact ⟨h.chg.trans (Chg.of_set wr g j z) (fun y _ e => by omega), ⟨_, hv.set (hv.apart hr (by decide))⟩, ⟨_, hu.put j z⟩⟩
set_option maxRecDepth 100000 in
set_option maxHeartbeats 16000000 in
theorem begin_any {w : World} {x : WtD} (hx : WtR w x) (hB : WtB x) {d : VD} {bo po : Option Addr} {cb cp : Nat} (hb : RdA w bo 1 d.nb cb (fun i => .int .u8 (d.B i))) (hp : RdA w po 2 d.np cp (tcs d.P d.Q)) (n1 : d.nb ≤ 1048576) (n2 : d.np ≤ 1048576) (bs bl bu ch tr : Int) :
    Calls Tryz.prog 4 #[.agg #[.int .i64 x.V, .int .i64 x.W, .int .i64 x.H, .int .i64 x.K, .int .i64 x.L, .int .i64 x.D, .int .i64 x.N, .int .i64 x.M, .int .i64 x.E.R, .int .i64 x.E.C, .slice x.E.O x.E.n x.E.c, .slice x.tO x.tn x.tc, .slice x.yO x.yn x.yc, .slice x.F.O x.F.n x.F.c, .int .i64 x.Q.R, .int .i64 x.Q.C, .slice x.Q.O x.Q.n x.Q.c, .slice x.mO x.mn x.mc, .slice bo d.nb cb, .slice po d.np cp, .int .i64 bs, .int .i64 bl, .int .i64 bu, .int .i64 ch, .int .i64 tr]] w (BgP w) := by
  obtain ⟨er0, he0⟩ : ∃ er, IsE x er := by
    by_cases h1 : x.may
    · by_cases h2 : WtP x
      · exact ⟨0, .inr (.inr ⟨h1, h2, rfl⟩)⟩
      · exact ⟨41, .inr (.inl ⟨h1, h2, rfl⟩)⟩
    · exact ⟨40, .inl ⟨h1, rfl⟩⟩
  obtain ⟨sz, hsz⟩ := sized_ex d
  obtain ⟨er1, he1⟩ := enE_ex x sz ⟨bs, bl, bu, ch, tr⟩
  obtain ⟨T, hT⟩ : ∃ T, T = wtA x := ⟨_, rfl⟩
  have SL : Hid ((Tryz.prog.info? 31).map (·.size) = some T.toList.length) := by rw [hT]; exact sizeW
  have HMO : Hid (∀ z, Below w.heap.size w z → Calls Tryz.prog 17 #[.agg T] z (MoP z x er0)) := fun z hz => by rw [hT]; exact modelOf_any (hx.fresh hz) hB he0
  have HCV := hidd (fun (z : World) (hz : Below w.heap.size w z) => copyV_any (hb.fresh hz) (hp.fresh hz) (by omega) (by omega))
  have HEQ := hidd (fun (z : World) (hz : Below w.heap.size w z) (bo' po' : Option Addr) (cb' cp' : Nat) (h1 : RdA z bo' 1 d.nb cb' (fun i => .int .u8 (d.B i))) (h2 : RdA z po' 2 d.np cp' (tcs d.P d.Q)) => eqVocab_same h1 h2 (hb.fresh hz) (hp.fresh hz))
  have HRF : Hid (x.may → ∀ z, Below w.heap.size w z → Calls Tryz.prog 20 #[.agg T, .agg #[.slice bo d.nb cb, .slice po d.np cp], .agg #[.int .i64 bs, .int .i64 bl, .int .i64 bu, .int .i64 ch, .int .i64 tr]] z fun e w' => e = .returned (.int .i64 er1) ∧ Below z.heap.size z w') := fun hm z hz => by rw [hT]; exact refused_any hm (hb.fresh hz) (hp.fresh hz) n2 sz hsz ⟨bs, bl, bu, ch, tr⟩ er1 he1
  have HNW : Hid (x.may → ∀ (z : World) (g : Nat) (y : WtD) (bo' po' : Option Addr) (cb' cp' : Nat), Mdl z g x y → RdA z bo' 1 d.nb cb' (fun i => .int .u8 (d.B i)) → RdA z po' 2 d.np cp' (tcs d.P d.Q) → Calls Tryz.prog 19 #[.pointer (some ⟨g, 0, none⟩), .agg #[.slice bo' d.nb cb', .slice po' d.np cp'], .agg #[.int .i64 bs, .int .i64 bl, .int .i64 bu, .int .i64 ch, .int .i64 tr]] z (EnP z er1)) := fun hm z g y bo' po' cb' cp' h1 h2 h3 => enew_any h1 hm h2 h3 n1 n2 sz hsz ⟨bs, bl, bu, ch, tr⟩ er1 he1
  have HMY : Hid (er0 = 0 → x.may) := fun h => by
    rcases he0 with ⟨_, k⟩ | ⟨_, _, k⟩ | ⟨k, _, _⟩
    · omega
    · omega
    · exact k
  have HOK : Hid (er1 = 0 → okM ⟨bs, bl, bu, ch, tr⟩ x.N) := fun h => by
    rcases he1 with ⟨_, k⟩ | ⟨_, _, k⟩ | ⟨_, k, _⟩
    · omega
    · omega
    · exact k
  have HRU : Hid ((w.alloc (.cells #[.int .i64 x.V, .int .i64 x.W, .int .i64 x.H, .int .i64 x.K, .int .i64 x.L, .int .i64 x.D, .int .i64 x.N, .int .i64 x.M, .int .i64 x.E.R, .int .i64 x.E.C, .slice x.E.O x.E.n x.E.c, .slice x.tO x.tn x.tc, .slice x.yO x.yn x.yc, .slice x.F.O x.F.n x.F.c, .int .i64 x.Q.R, .int .i64 x.Q.C, .slice x.Q.O x.Q.n x.Q.c, .slice x.mO x.mn x.mc, .slice bo d.nb cb, .slice po d.np cp, .int .i64 bs, .int .i64 bl, .int .i64 bu, .int .i64 ch, .int .i64 tr] 39)).rowIs w.heap.size 39 25 (fun i => ([.int .i64 x.V, .int .i64 x.W, .int .i64 x.H, .int .i64 x.K, .int .i64 x.L, .int .i64 x.D, .int .i64 x.N, .int .i64 x.M, .int .i64 x.E.R, .int .i64 x.E.C, .slice x.E.O x.E.n x.E.c, .slice x.tO x.tn x.tc, .slice x.yO x.yn x.yc, .slice x.F.O x.F.n x.F.c, .int .i64 x.Q.R, .int .i64 x.Q.C, .slice x.Q.O x.Q.n x.Q.c, .slice x.mO x.mn x.mc, .slice bo d.nb cb, .slice po d.np cp, .int .i64 bs, .int .i64 bl, .int .i64 bu, .int .i64 ch, .int .i64 tr] : List Value).getD i undef)) := World.rowIs_list w [.int .i64 x.V, .int .i64 x.W, .int .i64 x.H, .int .i64 x.K, .int .i64 x.L, .int .i64 x.D, .int .i64 x.N, .int .i64 x.M, .int .i64 x.E.R, .int .i64 x.E.C, .slice x.E.O x.E.n x.E.c, .slice x.tO x.tn x.tc, .slice x.yO x.yn x.yc, .slice x.F.O x.F.n x.F.c, .int .i64 x.Q.R, .int .i64 x.Q.C, .slice x.Q.O x.Q.n x.Q.c, .slice x.mO x.mn x.mc, .slice bo d.nb cb, .slice po d.np cp, .int .i64 bs, .int .i64 bl, .int .i64 bu, .int .i64 ch, .int .i64 tr] 39
  have HF := hidd (fresh_alloc w (.cells #[.int .i64 x.V, .int .i64 x.W, .int .i64 x.H, .int .i64 x.K, .int .i64 x.L, .int .i64 x.D, .int .i64 x.N, .int .i64 x.M, .int .i64 x.E.R, .int .i64 x.E.C, .slice x.E.O x.E.n x.E.c, .slice x.tO x.tn x.tc, .slice x.yO x.yn x.yc, .slice x.F.O x.F.n x.F.c, .int .i64 x.Q.R, .int .i64 x.Q.C, .slice x.Q.O x.Q.n x.Q.c, .slice x.mO x.mn x.mc, .slice bo d.nb cb, .slice po d.np cp, .int .i64 bs, .int .i64 bl, .int .i64 bu, .int .i64 ch, .int .i64 tr] 39))
  have HRG : Hid (∀ z, Below (w.alloc (.cells #[.int .i64 x.V, .int .i64 x.W, .int .i64 x.H, .int .i64 x.K, .int .i64 x.L, .int .i64 x.D, .int .i64 x.N, .int .i64 x.M, .int .i64 x.E.R, .int .i64 x.E.C, .slice x.E.O x.E.n x.E.c, .slice x.tO x.tn x.tc, .slice x.yO x.yn x.yc, .slice x.F.O x.F.n x.F.c, .int .i64 x.Q.R, .int .i64 x.Q.C, .slice x.Q.O x.Q.n x.Q.c, .slice x.mO x.mn x.mc, .slice bo d.nb cb, .slice po d.np cp, .int .i64 bs, .int .i64 bl, .int .i64 bu, .int .i64 ch, .int .i64 tr] 39)).heap.size (w.alloc (.cells #[.int .i64 x.V, .int .i64 x.W, .int .i64 x.H, .int .i64 x.K, .int .i64 x.L, .int .i64 x.D, .int .i64 x.N, .int .i64 x.M, .int .i64 x.E.R, .int .i64 x.E.C, .slice x.E.O x.E.n x.E.c, .slice x.tO x.tn x.tc, .slice x.yO x.yn x.yc, .slice x.F.O x.F.n x.F.c, .int .i64 x.Q.R, .int .i64 x.Q.C, .slice x.Q.O x.Q.n x.Q.c, .slice x.mO x.mn x.mc, .slice bo d.nb cb, .slice po d.np cp, .int .i64 bs, .int .i64 bl, .int .i64 bu, .int .i64 ch, .int .i64 tr] 39)) z → z.rangeAt w.heap.size 0 T.toList) := fun z hz => by
    rw [hT]
    exact range_head (L1 := wtL x) (L2 := [.slice bo d.nb cb, .slice po d.np cp, .int .i64 bs, .int .i64 bl, .int .i64 bu, .int .i64 ch, .int .i64 tr]) (row_fresh HRU.out hz) (by show 18 ≤ 25; omega)
  have HU : Hid (∀ z, Below (w.alloc (.cells #[.int .i64 x.V, .int .i64 x.W, .int .i64 x.H, .int .i64 x.K, .int .i64 x.L, .int .i64 x.D, .int .i64 x.N, .int .i64 x.M, .int .i64 x.E.R, .int .i64 x.E.C, .slice x.E.O x.E.n x.E.c, .slice x.tO x.tn x.tc, .slice x.yO x.yn x.yc, .slice x.F.O x.F.n x.F.c, .int .i64 x.Q.R, .int .i64 x.Q.C, .slice x.Q.O x.Q.n x.Q.c, .slice x.mO x.mn x.mc, .slice bo d.nb cb, .slice po d.np cp, .int .i64 bs, .int .i64 bl, .int .i64 bu, .int .i64 ch, .int .i64 tr] 39)).heap.size (w.alloc (.cells #[.int .i64 x.V, .int .i64 x.W, .int .i64 x.H, .int .i64 x.K, .int .i64 x.L, .int .i64 x.D, .int .i64 x.N, .int .i64 x.M, .int .i64 x.E.R, .int .i64 x.E.C, .slice x.E.O x.E.n x.E.c, .slice x.tO x.tn x.tc, .slice x.yO x.yn x.yc, .slice x.F.O x.F.n x.F.c, .int .i64 x.Q.R, .int .i64 x.Q.C, .slice x.Q.O x.Q.n x.Q.c, .slice x.mO x.mn x.mc, .slice bo d.nb cb, .slice po d.np cp, .int .i64 bs, .int .i64 bl, .int .i64 bu, .int .i64 ch, .int .i64 tr] 39)) z → z.cell? ⟨w.heap.size, 0, none⟩ = some (.int .i64 x.V) ∧ z.cell? ⟨w.heap.size, 1, none⟩ = some (.int .i64 x.W) ∧ z.cell? ⟨w.heap.size, 2, none⟩ = some (.int .i64 x.H) ∧ z.cell? ⟨w.heap.size, 3, none⟩ = some (.int .i64 x.K) ∧ z.cell? ⟨w.heap.size, 4, none⟩ = some (.int .i64 x.L) ∧ z.cell? ⟨w.heap.size, 5, none⟩ = some (.int .i64 x.D) ∧ z.cell? ⟨w.heap.size, 6, none⟩ = some (.int .i64 x.N) ∧ z.cell? ⟨w.heap.size, 7, none⟩ = some (.int .i64 x.M) ∧ z.cell? ⟨w.heap.size, 8, none⟩ = some (.int .i64 x.E.R) ∧ z.cell? ⟨w.heap.size, 9, none⟩ = some (.int .i64 x.E.C) ∧ z.cell? ⟨w.heap.size, 10, none⟩ = some (.slice x.E.O x.E.n x.E.c) ∧ z.cell? ⟨w.heap.size, 11, none⟩ = some (.slice x.tO x.tn x.tc) ∧ z.cell? ⟨w.heap.size, 12, none⟩ = some (.slice x.yO x.yn x.yc) ∧ z.cell? ⟨w.heap.size, 13, none⟩ = some (.slice x.F.O x.F.n x.F.c) ∧ z.cell? ⟨w.heap.size, 14, none⟩ = some (.int .i64 x.Q.R) ∧ z.cell? ⟨w.heap.size, 15, none⟩ = some (.int .i64 x.Q.C) ∧ z.cell? ⟨w.heap.size, 16, none⟩ = some (.slice x.Q.O x.Q.n x.Q.c) ∧ z.cell? ⟨w.heap.size, 17, none⟩ = some (.slice x.mO x.mn x.mc) ∧ z.cell? ⟨w.heap.size, 18, none⟩ = some (.slice bo d.nb cb) ∧ z.cell? ⟨w.heap.size, 19, none⟩ = some (.slice po d.np cp) ∧ z.cell? ⟨w.heap.size, 20, none⟩ = some (.int .i64 bs) ∧ z.cell? ⟨w.heap.size, 21, none⟩ = some (.int .i64 bl) ∧ z.cell? ⟨w.heap.size, 22, none⟩ = some (.int .i64 bu) ∧ z.cell? ⟨w.heap.size, 23, none⟩ = some (.int .i64 ch) ∧ z.cell? ⟨w.heap.size, 24, none⟩ = some (.int .i64 tr)) := fun z hz => ⟨fresh_cell hz (HRU.out.cell (i := 0) (by decide)), fresh_cell hz (HRU.out.cell (i := 1) (by decide)), fresh_cell hz (HRU.out.cell (i := 2) (by decide)), fresh_cell hz (HRU.out.cell (i := 3) (by decide)), fresh_cell hz (HRU.out.cell (i := 4) (by decide)), fresh_cell hz (HRU.out.cell (i := 5) (by decide)), fresh_cell hz (HRU.out.cell (i := 6) (by decide)), fresh_cell hz (HRU.out.cell (i := 7) (by decide)), fresh_cell hz (HRU.out.cell (i := 8) (by decide)), fresh_cell hz (HRU.out.cell (i := 9) (by decide)), fresh_cell hz (HRU.out.cell (i := 10) (by decide)), fresh_cell hz (HRU.out.cell (i := 11) (by decide)), fresh_cell hz (HRU.out.cell (i := 12) (by decide)), fresh_cell hz (HRU.out.cell (i := 13) (by decide)), fresh_cell hz (HRU.out.cell (i := 14) (by decide)), fresh_cell hz (HRU.out.cell (i := 15) (by decide)), fresh_cell hz (HRU.out.cell (i := 16) (by decide)), fresh_cell hz (HRU.out.cell (i := 17) (by decide)), fresh_cell hz (HRU.out.cell (i := 18) (by decide)), fresh_cell hz (HRU.out.cell (i := 19) (by decide)), fresh_cell hz (HRU.out.cell (i := 20) (by decide)), fresh_cell hz (HRU.out.cell (i := 21) (by decide)), fresh_cell hz (HRU.out.cell (i := 22) (by decide)), fresh_cell hz (HRU.out.cell (i := 23) (by decide)), fresh_cell hz (HRU.out.cell (i := 24) (by decide))⟩
  clear hx hB hb hp he0 he1 hsz hT
  go_enter Tryz.func4, Tryz.ntmps4
  go_upto_region 1 with fail
  have HGW : Hid (w.heap.size < (w.alloc (.cells #[.int .i64 x.V, .int .i64 x.W, .int .i64 x.H, .int .i64 x.K, .int .i64 x.L, .int .i64 x.D, .int .i64 x.N, .int .i64 x.M, .int .i64 x.E.R, .int .i64 x.E.C, .slice x.E.O x.E.n x.E.c, .slice x.tO x.tn x.tc, .slice x.yO x.yn x.yc, .slice x.F.O x.F.n x.F.c, .int .i64 x.Q.R, .int .i64 x.Q.C, .slice x.Q.O x.Q.n x.Q.c, .slice x.mO x.mn x.mc, .slice bo d.nb cb, .slice po d.np cp, .int .i64 bs, .int .i64 bl, .int .i64 bu, .int .i64 ch, .int .i64 tr] 39)).heap.size) := hidd (by simp)
  generalize (w.alloc (.cells #[.int .i64 x.V, .int .i64 x.W, .int .i64 x.H, .int .i64 x.K, .int .i64 x.L, .int .i64 x.D, .int .i64 x.N, .int .i64 x.M, .int .i64 x.E.R, .int .i64 x.E.C, .slice x.E.O x.E.n x.E.c, .slice x.tO x.tn x.tc, .slice x.yO x.yn x.yc, .slice x.F.O x.F.n x.F.c, .int .i64 x.Q.R, .int .i64 x.Q.C, .slice x.Q.O x.Q.n x.Q.c, .slice x.mO x.mn x.mc, .slice bo d.nb cb, .slice po d.np cp, .int .i64 bs, .int .i64 bl, .int .i64 bu, .int .i64 ch, .int .i64 tr] 39)) = w1 at *
  obtain ⟨gu, HGU⟩ : ∃ g, Hid (g = w.heap.size) := ⟨_, rfl⟩
  rw [← HGU.out] at HRU HU HRG ⊢
  have RG := hidd (HRG.out w1 (Below.refl _ _))
  go_wp2_with (refine wpList_load_mid rfl 31 _ rfl gu 0 rfl T.toList _ RG.out Tryz.underlying31 rfl SL.out ?_)
  refine (HMO.out _ HF.out).mono ?_
  rintro e w2 ⟨hb2, p, rfl, hp1, hp2⟩
  have HP1 := hidd hp1
  have HP2 := hidd hp2
  have HB2 := hidd hb2
  have HW2 := hidd (HF.out.trans (hb2.mono HF.out.size))
  clear hp1 hp2 hb2 RG HMO
  have HCV2 := hidd (HCV.out w2 HW2.out)
  clear HCV
  obtain ⟨c18, c19⟩ := (hu1819 (HU.out w2 HB2.out))
  go_wp2_with fail
  refine HCV2.out.mono ?_
  rintro e w3 ⟨vv, uu, rfl, ov, ou, _, hb3⟩
  obtain ⟨vo, vc, rfl, rv⟩ := ov.rd
  obtain ⟨uo, uc, rfl, ru⟩ := ou.rd
  go_upto_region 5 with fail
  have HOV := hidd ov
  have HOU := hidd ou
  have HB3 := hidd hb3
  have HRB : Hid ((w3.alloc (.cells #[.slice vo d.nb vc, .slice uo d.np uc] 35)).rowIs w3.heap.size 35 2 (fun i => ([.slice vo d.nb vc, .slice uo d.np uc] : List Value).getD i undef)) := World.rowIs_list w3 [.slice vo d.nb vc, .slice uo d.np uc] 35
  have HB4 := hidd (fresh_alloc w3 (.cells #[.slice vo d.nb vc, .slice uo d.np uc] 35))
  have HW3 := hidd (HW2.out.trans (hb3.mono HW2.out.size))
  have HW4 := hidd (HW3.out.trans (HB4.out.mono HW3.out.size))
  have H14 := hidd ((HB2.out.trans (hb3.mono HB2.out.size)).trans (HB4.out.mono (HB2.out.trans (hb3.mono HB2.out.size)).size))
  have H24 := hidd (HB3.out.trans (HB4.out.mono HB3.out.size))
  clear ov ou rv ru hb3 HCV2 c18 c19
  obtain ⟨gb, HGB⟩ : ∃ g, Hid (g = w3.heap.size) := ⟨_, rfl⟩
  rw [← HGB.out] at HRB ⊢
  have HGL : Hid (w3.heap.size < (w3.alloc (.cells #[.slice vo d.nb vc, .slice uo d.np uc] 35)).heap.size) := hidd (by simp)
  generalize w3.alloc (.cells #[.slice vo d.nb vc, .slice uo d.np uc] 35) = w4 at *
  have HRD : Hid (∀ z, Below w4.heap.size w4 z → RdA z vo 1 d.nb vc (fun i => .int .u8 (d.B i)) ∧ RdA z uo 2 d.np uc (tcs d.P d.Q)) := fun z hz => ⟨(HOV.out.kept HB4.out).rda.fresh hz, (HOU.out.kept HB4.out).rda.fresh hz⟩
  have HG : Hid (∀ z, Below w4.heap.size w4 z → (z.cell? ⟨gb, 0, none⟩ = some (.slice vo d.nb vc) ∧ z.cell? ⟨gb, 1, none⟩ = some (.slice uo d.np uc)) ∧ (z.cell? ⟨gu, 18, none⟩ = some (.slice bo d.nb cb) ∧ z.cell? ⟨gu, 19, none⟩ = some (.slice po d.np cp)) ∧ (z.cell? ⟨gu, 20, none⟩ = some (.int .i64 bs) ∧ z.cell? ⟨gu, 21, none⟩ = some (.int .i64 bl) ∧ z.cell? ⟨gu, 22, none⟩ = some (.int .i64 bu) ∧ z.cell? ⟨gu, 23, none⟩ = some (.int .i64 ch) ∧ z.cell? ⟨gu, 24, none⟩ = some (.int .i64 tr))) := fun z hz => ⟨⟨fresh_cell hz (HRB.out.cell (i := 0) (by decide)), fresh_cell hz (HRB.out.cell (i := 1) (by decide))⟩, hu1819 (HU.out z (H14.out.trans (hz.mono H14.out.size))), hu2024 (HU.out z (H14.out.trans (hz.mono H14.out.size)))⟩
  obtain ⟨⟨g0, g1⟩, _, s0, s1, s2, s3, s4⟩ := HG.out w4 (Below.refl _ _)
  by_cases h0 : er0 = 0
  · obtain ⟨g, y, rfl, hmd⟩ := HP2.out h0
    have hmy := HMY.out h0
    have HEN := hidd (HNW.out hmy w4 g y vo uo vc uc (hmd.fresh H24.out) (HRD.out w4 (Below.refl _ _)).1 (HRD.out w4 (Below.refl _ _)).2)
    have HRF1 := hidd (fun z hz => HRF.out hmy z hz)
    clear HP1 HP2 HMY HNW hmy hmd HRF h0
    go_wp2_with fail
    refine HEN.out.mono ?_
    rintro e w5 ⟨hb5, q, rfl, hq1, hq2⟩
    have HQ1 := hidd hq1
    have HQ2 := hidd hq2
    have HB5 := hidd hb5
    have HW5 := hidd (HW4.out.trans (hb5.mono HW4.out.size))
    have H15 := hidd (H14.out.trans (hb5.mono H14.out.size))
    clear hq1 hq2 hb5 HEN g0 g1 s0 s1 s2 s3 s4
    obtain ⟨⟨g0, g1⟩, ⟨c18, c19⟩, s0, s1, s2, s3, s4⟩ := HG.out w5 HB5.out
    have RG := hidd (HRG.out w5 H15.out)
    go_wp2_with (refine wpList_load_mid rfl 31 _ rfl gu 0 rfl T.toList _ RG.out Tryz.underlying31 rfl SL.out ?_)
    refine (HRF1.out _ HW5.out).mono ?_
    rintro e w6 ⟨rfl, hb6⟩
    have HB6 := hidd (HB5.out.trans (hb6.mono HB5.out.size))
    have HW6 := hidd (HW5.out.trans (hb6.mono HW5.out.size))
    have H56 := hidd hb6
    clear hb6 HRF1 g0 g1 c18 c19 s0 s1 s2 s3 s4 RG
    obtain ⟨⟨g0, g1⟩, ⟨c18, c19⟩, s0, s1, s2, s3, s4⟩ := HG.out w6 HB6.out
    have HEQ6 := hidd (HEQ.out w6 HW6.out vo uo vc uc (HRD.out w6 HB6.out).1 (HRD.out w6 HB6.out).2)
    clear HEQ
    by_cases h1 : er1 = 0
    · obtain ⟨E, rfl, hE1, hE2⟩ := HQ2.out h1
      have HE1 := hidd hE1
      have HE2 := hidd hE2
      have hok := HOK.out h1
      subst h1
      clear HQ1 HQ2 HOK hE1 hE2
      go_upto_region 13 with (go_at_call 21; with_reducible refine HEQ6.out.mono ?_; rintro e w7 ⟨rfl, hb7⟩)
      have HB7 := hidd (HB6.out.trans (hb7.mono HB6.out.size))
      have HW7 := hidd (HW6.out.trans (hb7.mono HW6.out.size))
      have H17 := hidd ((H15.out.trans (H56.out.mono H15.out.size)).trans (hb7.mono (H15.out.trans (H56.out.mono H15.out.size)).size))
      have HEC : Hid (w7.cell? ⟨E, 10, none⟩ = some (.slice none 0 0)) := fresh_cell hb7 (fresh_cell H56.out HE2.out)
      have HGE : Hid (gb < E) := by have h1 := HGB.out; have h2 := HE1.out; have h3 := HB4.out.size; have h4 := HGL.out; show gb < E; omega
      have HG27 := hidd (fun (b : Nat) (h : w2.heap.size ≤ b ∧ b < gb) => h.1)
      have HGU2 : Hid (gu < w2.heap.size) := by have h1 := HGU.out; have h2 := HB2.out.size; have h3 := HGW.out; show gu < w2.heap.size; omega
      have HI0 : Hid (BgI w7 w2.heap.size gb (.slice vo d.nb vc) (.slice uo d.np uc) d.nb d.np w7) := ⟨Chg.refl _ _, ⟨_, (HOV.out.kept HB4.out).kept HB7.out⟩, ⟨_, (HOU.out.kept HB4.out).kept HB7.out⟩⟩
      have HLV : Hid (∀ k, (Value.slice vo d.nb vc).ownBlock = some k → k < gb) := fun k hk => by have := (HOV.out.lt k hk).2; have h1 := HGB.out; omega
      have HLU : Hid (∀ k, (Value.slice uo d.np uc).ownBlock = some k → k < gb) := fun k hk => by have := (HOU.out.lt k hk).2; have h1 := HGB.out; omega
      have HGC : Hid (∀ wr, Hid (BgI w7 w2.heap.size gb (.slice vo d.nb vc) (.slice uo d.np uc) d.nb d.np wr) → wr.cell? ⟨gb, 0, none⟩ = some (.slice vo d.nb vc) ∧ wr.cell? ⟨gb, 1, none⟩ = some (.slice uo d.np uc)) := fun wr h => ⟨h.out.chg.cell (HG.out w7 HB7.out).1.1 (fun q => by omega), h.out.chg.cell (HG.out w7 HB7.out).1.2 (fun q => by omega)⟩
      have HUC : Hid (∀ wr, Hid (BgI w7 w2.heap.size gb (.slice vo d.nb vc) (.slice uo d.np uc) d.nb d.np wr) → wr.rowIs gu 39 25 (fun i => ([.int .i64 x.V, .int .i64 x.W, .int .i64 x.H, .int .i64 x.K, .int .i64 x.L, .int .i64 x.D, .int .i64 x.N, .int .i64 x.M, .int .i64 x.E.R, .int .i64 x.E.C, .slice x.E.O x.E.n x.E.c, .slice x.tO x.tn x.tc, .slice x.yO x.yn x.yc, .slice x.F.O x.F.n x.F.c, .int .i64 x.Q.R, .int .i64 x.Q.C, .slice x.Q.O x.Q.n x.Q.c, .slice x.mO x.mn x.mc, .slice bo d.nb cb, .slice po d.np cp, .int .i64 bs, .int .i64 bl, .int .i64 bu, .int .i64 ch, .int .i64 tr] : List Value).getD i undef) ∧ wr.cell? ⟨E, 10, none⟩ = some (.slice none 0 0) ∧ Below w.heap.size w wr) := fun wr h => ⟨h.out.chg.row (row_fresh HRU.out H17.out) (fun q => by have := HGU2.out; omega), h.out.chg.cell HEC.out (fun q => by have := HGE.out; omega), h.out.chg.below HW7.out HW7.out.size (fun y q => by have := HW2.out.size; omega)⟩
      clear hb7 HEQ6 g0 g1 c18 c19 s0 s1 s2 s3 s4 HOV HOU HRD HRG HU HE2 HE1 HB6 HW6 H56 H15 HB5 HW5 HG
      go_wp2
      go_loopw [9] (fun i wr => ∃ k : Nat, k ≤ d.nb ∧ i = .int .i64 k ∧ Hid (BgI w7 w2.heap.size gb (.slice vo d.nb vc) (.slice uo d.np uc) d.nb d.np wr)) (fun i _ => d.nb - (intOf i).toNat)
      case atStart => exact ⟨0, by omega, rfl, HI0⟩
      case round =>
        obtain ⟨k, hk, rfl, HI⟩ := hrel
        obtain ⟨g0, g1⟩ := HGC.out wr HI
        by_cases hlt : k < d.nb
        · obtain ⟨cs, hv⟩ := HI.out.v
          obtain ⟨gv, cap, F, ev, _, _, _, hr, _⟩ := hv.row1 (by omega)
          have hgv := HLV.out gv (by rw [ev]; rfl)
          have hcap := hv.rda.le
          cases ev
          have x1 := hr.cell (i := k) (by omega)
          have xf := hr.frozen
          have HI2 := hidd (HI.out.setV hgv (by omega) k (.int .u8 122))
          have k1 : (k : Int) < (d.nb : Int) := by omega
          have k0 : (0 : Int) ≤ (k : Int) := by omega
          clear hv hr
          generalize F k = fk at *
          go_wp2
          go_roundw
          case rel => exact ⟨k + 1, by omega, by go_num, HI2⟩
          case measure => simp [intOf]; omega
        · obtain rfl : k = d.nb := by omega
          clear HI0
          go_upto_region 17 with fail
          go_cut [1, 5, 6, 10] from 0 to 68 (fun v1 v5 v6 v10 wx => v1 = .pointer (some ⟨gu, 0, none⟩) ∧ v5 = .pointer (some ⟨gb, 0, none⟩) ∧ v6 = .pointer (some ⟨E, 0, none⟩) ∧ v10 = .int .i64 0 ∧ Hid (BgI w7 w2.heap.size gb (.slice vo d.nb vc) (.slice uo d.np uc) d.nb d.np wx))
          case first =>
            go_wp2_with fail
            go_meet
            case rel => exact ⟨rfl, rfl, rfl, rfl, HI⟩
          case rest =>
          clear HI g0 g1
          obtain ⟨rfl, rfl, rfl, rfl, HI⟩ := hcut
          generalize wc = w8 at *
          go_wp2
          go_loopw [10] (fun i wr => ∃ k : Nat, k ≤ d.np ∧ i = .int .i64 k ∧ Hid (BgI w7 w2.heap.size gb (.slice vo d.nb vc) (.slice uo d.np uc) d.nb d.np wr)) (fun i _ => d.np - (intOf i).toNat)
          case atStart => exact ⟨0, by omega, rfl, HI⟩
          case round =>
            clear HI
            obtain ⟨k, hk, rfl, HI⟩ := hrel
            obtain ⟨g0, g1⟩ := HGC.out wr HI
            by_cases hlt2 : k < d.np
            · obtain ⟨cs, hv⟩ := HI.out.u
              obtain ⟨gv, cap, F, ev, _, _, _, hr, _⟩ := hv.row (by omega)
              have hgv := HLU.out gv (by rw [ev]; rfl)
              have hcap := hv.rda.le
              cases ev
              have x1 := hr.cell (i := k * 2) (by omega)
              have x2 := hr.cell (i := k * 2 + 1) (by omega)
              have xf := hr.frozen
              have HI2 := hidd ((HI.out.setU hgv (by omega) (k * 2) (.int .i64 1)).setU hgv (by omega) (k * 2 + 1) (.int .i64 1))
              have k1 : (k : Int) < (d.np : Int) := by omega
              have k0 : (0 : Int) ≤ (k : Int) := by omega
              clear hv hr
              generalize F (k * 2) = fk at *
              generalize F (k * 2 + 1) = fk1 at *
              go_wp2
              go_roundw
              case rel => exact ⟨k + 1, by omega, by go_num, HI2⟩
              case measure => simp [intOf]; omega
            · obtain rfl : k = d.np := by omega
              generalize wr = w9 at *
              obtain ⟨hru, hec, hbw⟩ := HUC.out w9 HI
              obtain ⟨bn, rfl⟩ : ∃ n : Nat, bs = (n : Int) := ⟨bs.toNat, by have := hok.2.2.1; simp only at this; omega⟩
              obtain ⟨sn, rfl⟩ : ∃ n : Nat, bl = (n : Int) := ⟨bl.toNat, by have := hok.2.2.2.2.1; simp only at this; omega⟩
              have hbn : 1 ≤ bn ∧ bn ≤ 256 := by have h1 := hok.2.2.1; have h2 := hok.2.2.2.1; simp only at h1 h2; omega
              have hsn : 1 ≤ sn ∧ sn ≤ 16 := by have h1 := hok.2.2.2.2.1; have h2 := hok.2.2.2.2.2.1; simp only at h1 h2; omega
              have HEC9 := hidd hec
              have HBW9 := hidd hbw
              obtain ⟨T25, hT25⟩ : ∃ T : Array Value, T = #[.int .i64 x.V, .int .i64 x.W, .int .i64 x.H, .int .i64 x.K, .int .i64 x.L, .int .i64 x.D, .int .i64 x.N, .int .i64 x.M, .int .i64 x.E.R, .int .i64 x.E.C, .slice x.E.O x.E.n x.E.c, .slice x.tO x.tn x.tc, .slice x.yO x.yn x.yc, .slice x.F.O x.F.n x.F.c, .int .i64 x.Q.R, .int .i64 x.Q.C, .slice x.Q.O x.Q.n x.Q.c, .slice x.mO x.mn x.mc, .slice bo d.nb cb, .slice po d.np cp, .int .i64 (bn : Int), .int .i64 (sn : Int), .int .i64 bu, .int .i64 ch, .int .i64 tr] := ⟨_, rfl⟩
              obtain ⟨T18, hT18⟩ : ∃ T : Array Value, T = #[.int .i64 x.V, .int .i64 x.W, .int .i64 x.H, .int .i64 x.K, .int .i64 x.L, .int .i64 x.D, .int .i64 x.N, .int .i64 x.M, .int .i64 x.E.R, .int .i64 x.E.C, .slice x.E.O x.E.n x.E.c, .slice x.tO x.tn x.tc, .slice x.yO x.yn x.yc, .slice x.F.O x.F.n x.F.c, .int .i64 x.Q.R, .int .i64 x.Q.C, .slice x.Q.O x.Q.n x.Q.c, .slice x.mO x.mn x.mc] := ⟨_, rfl⟩
              have HR9 : Hid (∀ z, Below w9.heap.size w9 z → z.rangeAt gu 0 T25.toList ∧ z.rangeAt gu 0 T18.toList ∧ z.rangeAt gu 18 [.slice bo d.nb cb, .slice po d.np cp] ∧ z.rangeAt gu 20 [.int .i64 (bn : Int), .int .i64 (sn : Int), .int .i64 bu, .int .i64 ch, .int .i64 tr]) := fun z hz => by
                rw [hT25, hT18]
                have q := row_fresh hru hz
                exact ⟨range_at (A := []) (L1 := [.int .i64 x.V, .int .i64 x.W, .int .i64 x.H, .int .i64 x.K, .int .i64 x.L, .int .i64 x.D, .int .i64 x.N, .int .i64 x.M, .int .i64 x.E.R, .int .i64 x.E.C, .slice x.E.O x.E.n x.E.c, .slice x.tO x.tn x.tc, .slice x.yO x.yn x.yc, .slice x.F.O x.F.n x.F.c, .int .i64 x.Q.R, .int .i64 x.Q.C, .slice x.Q.O x.Q.n x.Q.c, .slice x.mO x.mn x.mc, .slice bo d.nb cb, .slice po d.np cp, .int .i64 (bn : Int), .int .i64 (sn : Int), .int .i64 bu, .int .i64 ch, .int .i64 tr]) (L2 := []) q (by simp) rfl (by simp), range_at (A := []) (L1 := [.int .i64 x.V, .int .i64 x.W, .int .i64 x.H, .int .i64 x.K, .int .i64 x.L, .int .i64 x.D, .int .i64 x.N, .int .i64 x.M, .int .i64 x.E.R, .int .i64 x.E.C, .slice x.E.O x.E.n x.E.c, .slice x.tO x.tn x.tc, .slice x.yO x.yn x.yc, .slice x.F.O x.F.n x.F.c, .int .i64 x.Q.R, .int .i64 x.Q.C, .slice x.Q.O x.Q.n x.Q.c, .slice x.mO x.mn x.mc]) (L2 := [.slice bo d.nb cb, .slice po d.np cp, .int .i64 (bn : Int), .int .i64 (sn : Int), .int .i64 bu, .int .i64 ch, .int .i64 tr]) q (by simp) rfl (by simp), range_at (A := [.int .i64 x.V, .int .i64 x.W, .int .i64 x.H, .int .i64 x.K, .int .i64 x.L, .int .i64 x.D, .int .i64 x.N, .int .i64 x.M, .int .i64 x.E.R, .int .i64 x.E.C, .slice x.E.O x.E.n x.E.c, .slice x.tO x.tn x.tc, .slice x.yO x.yn x.yc, .slice x.F.O x.F.n x.F.c, .int .i64 x.Q.R, .int .i64 x.Q.C, .slice x.Q.O x.Q.n x.Q.c, .slice x.mO x.mn x.mc]) (L1 := [.slice bo d.nb cb, .slice po d.np cp]) (L2 := [.int .i64 (bn : Int), .int .i64 (sn : Int), .int .i64 bu, .int .i64 ch, .int .i64 tr]) q (by simp) rfl (by simp), range_at (A := [.int .i64 x.V, .int .i64 x.W, .int .i64 x.H, .int .i64 x.K, .int .i64 x.L, .int .i64 x.D, .int .i64 x.N, .int .i64 x.M, .int .i64 x.E.R, .int .i64 x.E.C, .slice x.E.O x.E.n x.E.c, .slice x.tO x.tn x.tc, .slice x.yO x.yn x.yc, .slice x.F.O x.F.n x.F.c, .int .i64 x.Q.R, .int .i64 x.Q.C, .slice x.Q.O x.Q.n x.Q.c, .slice x.mO x.mn x.mc, .slice bo d.nb cb, .slice po d.np cp]) (L1 := [.int .i64 (bn : Int), .int .i64 (sn : Int), .int .i64 bu, .int .i64 ch, .int .i64 tr]) (L2 := []) q (by simp) rfl (by simp)⟩
              have HSN : Hid (∀ z, Below w9.heap.size w9 z → Calls Tryz.prog 22 #[.agg T18, .agg #[.slice bo d.nb cb, .slice po d.np cp], .agg #[.int .i64 (bn : Int), .int .i64 (sn : Int), .int .i64 bu, .int .i64 ch, .int .i64 tr]] z fun e w' => ∃ s, e = .returned (.pointer (some ⟨s, 0, none⟩)) ∧ (w'.rangeAt gu 0 T25.toList ∧ w'.rangeAt gu 0 T18.toList ∧ w'.rangeAt gu 18 [.slice bo d.nb cb, .slice po d.np cp] ∧ w'.rangeAt gu 20 [.int .i64 (bn : Int), .int .i64 (sn : Int), .int .i64 bu, .int .i64 ch, .int .i64 tr]) ∧ Hid (Below w9.heap.size w9 w')) := fun z hz => by
                rw [hT18]
                refine (simnew_any z _ _ _ _ _ _ _ _ _ _ _ _ _ _ _ _ _ _ _ _ _ _ _ hbn hsn).mono ?_
                rintro e w' ⟨s, h1, h2⟩
                have h3 : Below w9.heap.size w9 w' := hz.trans (h2.mono hz.size)
                rw [← hT18]
                exact ⟨s, h1, HR9.out _ h3, h3⟩
              have SZ25 : Hid ((Tryz.prog.info? 39).map (·.size) = some T25.toList.length) := by rw [hT25]; exact size_setup0
              have SZ18 : Hid ((Tryz.prog.info? 31).map (·.size) = some T18.toList.length) := by rw [hT18]; exact sizeW
              have HT25 := hidd hT25
              clear hru hec hbw HGC HUC HI hok HRU HEC HLV HLU hT25 hT18
              clear HB2 HW2 HB3 HB4 HW3 HW4 H14 H24 HGL HGB HGW HB7 HW7 H17 HGE HG27 HGU2 HRB SL HF HGU
              go_upto_region 21 with fail
              have HD9 : Hid (Below w9.heap.size w9 w9.drew) := (Below.refl _ w9).drew
              have s0 := HR9.out _ HD9.out
              refine wp_region_held_drew (S := fun z => z.rangeAt gu 0 T25.toList ∧ z.rangeAt gu 0 T18.toList ∧ z.rangeAt gu 18 [.slice bo d.nb cb, .slice po d.np cp] ∧ z.rangeAt gu 20 [.int .i64 (bn : Int), .int .i64 (sn : Int), .int .i64 bu, .int .i64 ch, .int .i64 tr]) (by kernel_rfl) s0 (fun hHeld => ?_)
              refine wpAnyH_take (i := 0) (v := .agg T25) rfl (by kernel_rfl) (by kernel_rfl) (by kernel_rfl) (fun _ _ _ h => h) (Or.inl ⟨by rfl, ?y0⟩) s0 ?r0
              case y0 =>
                intro z hz
                obtain ⟨z0, z1, z2, z3⟩ := hz
                exact run_load_op rfl rfl z0 Tryz.underlying39 rfl SZ25.out
              change wpAnyH _ _ _ _ _ _ _ (Act.put _ (some 81) _) _
              rw [put_list]
              simp only [List.set_cons_succ, List.set_cons_zero]
              refine wpAnyH_take (i := 1) (v := .pointer (some ⟨E, 0, none⟩)) rfl (by kernel_rfl) (by kernel_rfl) (by kernel_rfl) (fun _ _ _ h => h) (Or.inl ⟨by rfl, ?y1⟩) s0 ?r1
              case y1 =>
                intro z hz
                obtain ⟨z0, z1, z2, z3⟩ := hz
                go_simp
                try with_reducible rfl
              change wpAnyH _ _ _ _ _ _ _ (Act.put _ (some 82) _) _
              rw [put_list]
              simp only [List.set_cons_succ, List.set_cons_zero]
              refine wpAnyH_take (i := 2) (v := .pointer (some ⟨gu, 0, none⟩)) rfl (by kernel_rfl) (by kernel_rfl) (by kernel_rfl) (fun _ _ _ h => h) (Or.inl ⟨by rfl, ?y2⟩) s0 ?r2
              case y2 =>
                intro z hz
                obtain ⟨z0, z1, z2, z3⟩ := hz
                go_simp
                try with_reducible rfl
              change wpAnyH _ _ _ _ _ _ _ (Act.put _ (some 83) _) _
              rw [put_list]
              simp only [List.set_cons_succ, List.set_cons_zero]
              refine wpAnyH_take (i := 3) (v := .agg T18) rfl (by kernel_rfl) (by kernel_rfl) (by kernel_rfl) (fun _ _ _ h => h) (Or.inl ⟨by rfl, ?y3⟩) s0 ?r3
              case y3 =>
                intro z hz
                obtain ⟨z0, z1, z2, z3⟩ := hz
                exact run_load_op rfl rfl z1 Tryz.underlying31 rfl SZ18.out
              change wpAnyH _ _ _ _ _ _ _ (Act.put _ (some 84) _) _
              rw [put_list]
              simp only [List.set_cons_succ, List.set_cons_zero]
              refine wpAnyH_take (i := 4) (v := .pointer (some ⟨gu, 18, none⟩)) rfl (by kernel_rfl) (by kernel_rfl) (by kernel_rfl) (fun _ _ _ h => h) (Or.inl ⟨by rfl, ?y4⟩) s0 ?r4
              case y4 =>
                intro z hz
                obtain ⟨z0, z1, z2, z3⟩ := hz
                go_simp
                try with_reducible rfl
              change wpAnyH _ _ _ _ _ _ _ (Act.put _ (some 85) _) _
              rw [put_list]
              simp only [List.set_cons_succ, List.set_cons_zero]
              refine wpAnyH_take (i := 5) (v := .agg #[.slice bo d.nb cb, .slice po d.np cp]) rfl (by kernel_rfl) (by kernel_rfl) (by kernel_rfl) (fun _ _ _ h => h) (Or.inl ⟨by rfl, ?y5⟩) s0 ?r5
              case y5 =>
                intro z hz
                obtain ⟨z0, z1, z2, z3⟩ := hz
                exact run_load_op rfl rfl z2 Tryz.underlying35 rfl size_vocab0
              change wpAnyH _ _ _ _ _ _ _ (Act.put _ (some 86) _) _
              rw [put_list]
              simp only [List.set_cons_succ, List.set_cons_zero]
              refine wpAnyH_take (i := 6) (v := .pointer (some ⟨gu, 20, none⟩)) rfl (by kernel_rfl) (by kernel_rfl) (by kernel_rfl) (fun _ _ _ h => h) (Or.inl ⟨by rfl, ?y6⟩) s0 ?r6
              case y6 =>
                intro z hz
                obtain ⟨z0, z1, z2, z3⟩ := hz
                go_simp
                try with_reducible rfl
              change wpAnyH _ _ _ _ _ _ _ (Act.put _ (some 87) _) _
              rw [put_list]
              simp only [List.set_cons_succ, List.set_cons_zero]
              refine wpAnyH_take (i := 7) (v := .agg #[.int .i64 (bn : Int), .int .i64 (sn : Int), .int .i64 bu, .int .i64 ch, .int .i64 tr]) rfl (by kernel_rfl) (by kernel_rfl) (by kernel_rfl) (fun _ _ _ h => h) (Or.inl ⟨by rfl, ?y7⟩) s0 ?r7
              case y7 =>
                intro z hz
                obtain ⟨z0, z1, z2, z3⟩ := hz
                exact run_load_op rfl rfl z3 Tryz.underlying37 rfl size_serve0
              change wpAnyH _ _ _ _ _ _ _ (Act.put _ (some 88) _) _
              rw [put_list]
              simp only [List.set_cons_succ, List.set_cons_zero]
              refine wpAnyH_ready (rs := [8]) (by kernel_rfl) (by simp) (AllReadyH.cons rfl (fun K hK => ?_) AllReadyH.nil)
              go_simp
              refine (HSN.out _ HD9.out).mono ?_
              rintro e wx ⟨sp, rfl, s9, H9⟩
              refine hK.out _ _ s9 (fun hH5 => ?_)
              clear hK K
              have HBX := hidd (HBW9.out.trans (H9.out.mono HBW9.out.size))
              have HEX := hidd (fresh_cell H9.out HEC9.out)
              obtain rfl := HT25.out
              clear HSN SZ25 SZ18 HT25
              refine wpAnyH_take (i := 9) (v := .agg #[.int .i64 x.V, .int .i64 x.W, .int .i64 x.H, .int .i64 x.K, .int .i64 x.L, .int .i64 x.D, .int .i64 x.N, .int .i64 x.M, .int .i64 x.E.R, .int .i64 x.E.C, .slice x.E.O x.E.n x.E.c, .slice x.tO x.tn x.tc, .slice x.yO x.yn x.yc, .slice x.F.O x.F.n x.F.c, .int .i64 x.Q.R, .int .i64 x.Q.C, .slice x.Q.O x.Q.n x.Q.c, .slice x.mO x.mn x.mc, .slice bo d.nb cb, .slice po d.np cp, .int .i64 (bn : Int), .int .i64 (sn : Int), .int .i64 bu, .int .i64 ch, .int .i64 tr, .pointer (some ⟨E, 0, none⟩), .pointer (some ⟨sp, 0, none⟩), .int .i64 0, .slice none 0 0]) rfl (by kernel_rfl) (by kernel_rfl) (by kernel_rfl) (fun _ _ _ h => h) (Or.inl ⟨by rfl, ?y9⟩) s9 ?r9
              case y9 =>
                intro z hz
                clear hz
                go_simp
                try with_reducible rfl
              change wpAnyH _ _ _ _ _ _ _ (Act.put _ (some 90) _) _
              rw [put_list]
              simp only [List.set_cons_succ, List.set_cons_zero]
              refine wpAnyH_ready (rs := [10]) (by kernel_rfl) (by simp) (AllReadyH.cons rfl (fun K hK => ?_) AllReadyH.nil)
              go_simp
              refine hK.out _ _ ⟨range_fresh s9.1 (fresh_alloc _ _), range_fresh s9.2.1 (fresh_alloc _ _), range_fresh s9.2.2.1 (fresh_alloc _ _), range_fresh s9.2.2.2 (fresh_alloc _ _)⟩ (fun hH6 => ?_)
              clear hK K
              refine wpAnyH_take (i := 11) (v := .pointer (some ⟨wx.heap.size, 0, none⟩)) rfl (by kernel_rfl) (by kernel_rfl) (by kernel_rfl) (fun _ _ _ h => h) (Or.inl ⟨by rfl, ?y11⟩) hH6 ?r11
              case y11 =>
                intro z hz
                clear hz
                go_simp
                try with_reducible rfl
              change wpAnyH _ _ _ _ _ _ _ (Act.put _ (some 2) _) _
              rw [put_list]
              simp only [List.set_cons_succ, List.set_cons_zero]
              refine wpAnyH_take (i := 12) (v := .bool true) rfl (by kernel_rfl) (by kernel_rfl) (by kernel_rfl) (fun _ _ _ h => h) (Or.inl ⟨by rfl, ?y12⟩) hH6 ?r12
              case y12 =>
                intro z hz
                clear hz
                go_simp
                try with_reducible rfl
              change wpAnyH _ _ _ _ _ _ _ (Act.put _ (some 3) _) _
              rw [put_list]
              simp only [List.set_cons_succ, List.set_cons_zero]
              refine wpAnyH_done (by kernel_rfl) ?_ _
              clear hH6 s9 s0 hHeld
              go_wp2
              go_ret2
              exact ⟨HBX.out.alloc HBX.out.size _, _, rfl, .inr ⟨_, E, rfl, twentynine_c25 _ _ _ _ _ _ _ _ _ _ _ _ _ _ _ _ _ _ _ _ _ _ _ _ _ _ _ _ _ _, fresh_cell (fresh_alloc _ _) HEX.out⟩⟩
    · obtain rfl := HQ1.out h1
      have hd : (er1 == 0) = false := by simp; exact h1
      clear HQ1 HQ2 HOK
      go_wp2_with (go_at_call 21; with_reducible refine HEQ6.out.mono ?_; rintro e w7 ⟨rfl, hb7⟩)
      go_ret2
      exact ⟨HW6.out.trans (hb7.mono HW6.out.size), none, rfl, .inl rfl⟩
  · obtain rfl := HP1.out h0
    clear HP1 HP2 HMY HNW HRF HOK h0
    have HEN := hidd (fun z => enew_nil z (.slice vo d.nb vc) (.slice uo d.np uc) (.int .i64 bs) (.int .i64 bl) (.int .i64 bu) (.int .i64 ch) (.int .i64 tr))
    go_wp2_with fail
    refine (HEN.out w4).mono ?_
    rintro e w5 ⟨rfl, hb5⟩
    have HB5 := hidd hb5
    have HW5 := hidd (HW4.out.trans (hb5.mono HW4.out.size))
    clear hb5 HEN g0 g1 s0 s1 s2 s3 s4
    obtain ⟨⟨g0, g1⟩, ⟨c18, c19⟩, s0, s1, s2, s3, s4⟩ := HG.out w5 HB5.out
    have HEQ5 := hidd (HEQ.out w5 HW5.out vo uo vc uc (HRD.out w5 HB5.out).1 (HRD.out w5 HB5.out).2)
    clear HEQ
    go_wp2_with (go_at_call 21; with_reducible refine HEQ5.out.mono ?_; rintro e w7 ⟨rfl, hb7⟩)
    go_ret2
    exact ⟨HW5.out.trans (hb7.mono HW5.out.size), none, rfl, .inl rfl⟩
end Go.Proofs.YtmhjpfjhppcfoaaGreatDoor

