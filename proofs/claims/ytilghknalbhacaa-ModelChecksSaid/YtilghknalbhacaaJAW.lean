import Derived.Test.YtilghknalbhacaaJAU
import Derived.Test.YtilghknalbhacaaDdB
namespace Go.Proofs.Ytilghknalbhacaa
open Go.RowKit
/-! Weights that were read from a file are the file's weights. -/
theorem mod_eq {a b : Int} (ha : 0 ≤ a ∧ a ≤ 255) (hb : 0 ≤ b ∧ b ≤ 255) (h : a % 256 = b % 256) : a = b := by omega
theorem cfL_inj {x y : WtD} (hx : x.may) (hy : y.may) (h : cfL x.V x.W x.H x.K x.L x.D x.N x.M = cfL y.V y.W y.H y.K y.L y.D y.N y.M) : x.V = y.V ∧ x.W = y.W ∧ x.H = y.H ∧ x.K = y.K ∧ x.L = y.L ∧ x.D = y.D ∧ x.N = y.N ∧ x.M = y.M := by
  obtain ⟨⟨v0, v1⟩, ⟨w0, w1⟩, ⟨h0, h1⟩, _, ⟨k0, k1⟩, _, ⟨l0, l1⟩, ⟨d0, d1⟩, ⟨n0, n1⟩, ⟨m0, m1⟩⟩ := hx
  obtain ⟨⟨v2, v3⟩, ⟨w2, w3⟩, ⟨h2, h3⟩, _, ⟨k2, k3⟩, _, ⟨l2, l3⟩, ⟨d2, d3⟩, ⟨n2, n3⟩, ⟨m2, m3⟩⟩ := hy
  unfold cfL at h
  injection h with a0 h
  injection h with a1 h
  injection h with a2 h
  injection h with a3 h
  injection h with a4 h
  injection h with a5 h
  injection h with a6 h
  injection h with a7 h
  exact ⟨mod_eq (by omega) (by omega) a0, mod_eq (by omega) (by omega) a1, mod_eq (by omega) (by omega) a2, mod_eq (by omega) (by omega) a3, mod_eq (by omega) (by omega) a4, mod_eq (by omega) (by omega) a5, mod_eq (by omega) (by omega) a6, mod_eq (by omega) (by omega) a7⟩
theorem lastL_len (L : List Int) : (lastL L).length = 13 := by unfold lastL; rw [secL_len, num_len]
/-- one file, the same measures and numbers -/
theorem file_inj {x y : WtD} (hx : x.may) (hy : y.may) (px : WtP x) (py : WtP y) (ix : WtI x) (iy : WtI y) (e : fileL x = fileL y) : ∃ V H K L D N M kv nW nL nM tn P a b c, WtL V H K L D N M kv nW nL nM tn P a b c x ∧ WtL V H K L D N M kv nW nL nM tn P a b c y ∧ Al x y nW nL nM tn P a b c := by
  rw [file_eq, file_eq] at e
  obtain ⟨e1, _⟩ := app_same e (by rw [lastL_len, lastL_len])
  obtain ⟨e2, e3⟩ := pre_same e1 (by rw [headL_len, headL_len])
  obtain ⟨_, e4⟩ := pre_same e2 rfl
  have e5 := secL_inj e4 rfl
  obtain ⟨k0, k1, k2, k3, k4, k5, k6, k7⟩ := cfL_inj hx hy e5
  obtain ⟨kv, nW, nL, nM, tn, P, a, b, c, hW, hd⟩ := dm_of hy
  have ly := py.l hd ⟨rfl, hW, rfl, rfl, rfl, rfl, rfl, rfl⟩
  have lx := px.l hd ⟨k0, k1.trans hW, k2, k3, k4, k5, k6, k7⟩
  exact ⟨_, _, _, _, _, _, _, kv, nW, nL, nM, tn, P, a, b, c, lx, ly, al_of lx ly ix iy e3⟩
/-- x with the numbers of y -/
def like (x y : WtD) : WtD := { x with E := { x.E with f := y.E.f }, tC := y.tC, tS := y.tS, ly := fun j => ⟨⟨(x.ly j).n1.O, (x.ly j).n1.n, (x.ly j).n1.c, (y.ly j).n1.f⟩, ⟨(x.ly j).n2.O, (x.ly j).n2.n, (x.ly j).n2.c, (y.ly j).n2.f⟩, { (x.ly j).q with f := (y.ly j).q.f }, { (x.ly j).k with f := (y.ly j).k.f }, { (x.ly j).v with f := (y.ly j).v.f }, { (x.ly j).o with f := (y.ly j).o.f }, { (x.ly j).g with f := (y.ly j).g.f }, { (x.ly j).u with f := (y.ly j).u.f }, { (x.ly j).d with f := (y.ly j).d.f }, (y.ly j).sh⟩, F := { x.F with f := y.F.f }, Q := { x.Q with f := y.Q.f }, md := fun j => { x.md j with f := (y.md j).f } }
theorem like_A (x y : WtD) : wtA (like x y) = wtA x := rfl
theorem MtR.like {w : World} {m : MtD} {f : Nat → Int} (h : MtR w m) (e : ∀ i, i < m.n → m.f i = f i) : MtR w { m with f := f } :=
  ⟨h.rd.congr (fun j hj => by rw [e j (by omega)]), fun i hi => by show -128 ≤ f i ∧ f i ≤ 127; rw [← e i hi]; exact h.bd i hi⟩
theorem LsR.like {w : World} {m : LsD} {f : Nat → Int} (h : LsR w m) (e : ∀ i, i < m.n → m.f i = f i) : LsR w ⟨m.O, m.n, m.c, f⟩ :=
  ⟨h.rd.congr (fun j hj => by rw [e j (by omega)]), fun i hi => by show -128 ≤ f i ∧ f i ≤ 127; rw [← e i hi]; exact h.bd i hi⟩
theorem like_rd {w : World} {V H K L D N M kv : Int} {nW nL nM tn P a b c : Nat} {x y : WtD} (h : WtR w x) (hx : WtL V H K L D N M kv nW nL nM tn P a b c x) (al : Al x y nW nL nM tn P a b c) : WtR w (like x y) := by
  refine ⟨h.E.like (fun i hi => al.E i (by rw [hx.E.2.2] at hi; exact hi)), h.T.congr (fun j hj => ?_), h.F.like (fun i hi => al.F i (by rw [hx.F] at hi; exact hi)), h.Q.like (fun i hi => al.Q i (by rw [hx.Q.2.2] at hi; exact hi)), h.yle, h.ytop, fun h0 => ?_, fun k hk => ?_, h.mle, h.mtop, fun h0 => ?_, fun k hk => ?_⟩
  · rw [hx.T] at hj
    have := al.T (j / 2) (by omega)
    unfold tcs
    show _ = (if j % 2 = 0 then Value.int .i64 (y.tC (j / 2)) else .int .i64 (y.tS (j / 2)))
    rw [this.1, this.2]
  · obtain ⟨b', off, e, hc⟩ := h.yat h0
    refine ⟨b', off, e, fun k hk => ?_⟩
    have hk' : k < nL := by have h9 : k < x.yn := hk; rw [hx.yn] at h9; exact h9
    have s := (al.ly k hk').sh
    have := hc k hk
    unfold LyC at this ⊢
    rw [s 0 (by decide), s 1 (by decide), s 2 (by decide), s 3 (by decide), s 4 (by decide), s 5 (by decide), s 6 (by decide)] at this
    exact this
  · have hk' : k < nL := by have h9 : k < x.yn := hk; rw [hx.yn] at h9; exact h9
    have al2 := al.ly k hk'
    have ym := hx.ym k hk'
    have r := h.yr k hk
    have mt : ∀ q, q < 7 → ∀ i, i < (mtI (x.ly k) q).n → (mtI (x.ly k) q).f i = (mtI (y.ly k) q).f i := fun q hq i hi => al2.mt q hq i (by rw [(ym q hq).2.2] at hi; exact hi)
    exact ⟨r.n1.like (fun i hi => al2.n1 i (by rw [hx.y1 k hk'] at hi; exact hi)), r.n2.like (fun i hi => al2.n2 i (by rw [hx.y2 k hk'] at hi; exact hi)), r.q.like (mt 0 (by decide)), r.k.like (mt 1 (by decide)), r.v.like (mt 2 (by decide)), r.o.like (mt 3 (by decide)), r.g.like (mt 4 (by decide)), r.u.like (mt 5 (by decide)), r.d.like (mt 6 (by decide))⟩
  · exact h.mat h0
  · have hk' : k < nM := by have h9 : k < x.mn := hk; rw [hx.mn] at h9; exact h9
    exact (h.mr k hk).like (fun i hi => al.md k hk' i (by rw [(hx.m k hk').2.2] at hi; exact hi))
theorem like_sm {V H K L D N M kv : Int} {nW nL nM tn P a b c : Nat} {x y : WtD} (hx : WtL V H K L D N M kv nW nL nM tn P a b c x) (hy : WtL V H K L D N M kv nW nL nM tn P a b c y) : Sm y (like x y) := by
  obtain ⟨c0, c1, c2, c3, c4, c5, c6, c7⟩ := hx.cf
  obtain ⟨d0, d1, d2, d3, d4, d5, d6, d7⟩ := hy.cf
  refine ⟨⟨⟨c0.trans d0.symm, c1.trans d1.symm, c2.trans d2.symm, c3.trans d3.symm, c4.trans d4.symm, c5.trans d5.symm, c6.trans d6.symm, c7.trans d7.symm⟩, ⟨hx.E.1.trans hy.E.1.symm, hx.E.2.1.trans hy.E.2.1.symm, hx.E.2.2.trans hy.E.2.2.symm, rfl⟩, ⟨hx.Q.1.trans hy.Q.1.symm, hx.Q.2.1.trans hy.Q.2.1.symm, hx.Q.2.2.trans hy.Q.2.2.symm, rfl⟩, ⟨hx.F.trans hy.F.symm, rfl⟩, ⟨hx.T.trans hy.T.symm, rfl, rfl⟩, hx.yn.trans hy.yn.symm, hx.mn.trans hy.mn.symm⟩, fun j hj => ?_, fun j hj => ?_⟩
  · rw [hy.yn] at hj
    have h1 := hx.ym j hj
    have h2 := hy.ym j hj
    refine ⟨⟨(hx.y1 j hj).trans (hy.y1 j hj).symm, rfl⟩, ⟨(hx.y2 j hj).trans (hy.y2 j hj).symm, rfl⟩, fun q hq => ?_, rfl⟩
    have e := h1 q hq
    have e2 := h2 q hq
    match q, hq with
    | 0, _ | 1, _ | 2, _ | 3, _ | 4, _ | 5, _ | 6, _ => exact ⟨e.1.trans e2.1.symm, e.2.1.trans e2.2.1.symm, e.2.2.trans e2.2.2.symm, rfl⟩
  · rw [hy.mn] at hj
    have h1 := hx.m j hj
    have h2 := hy.m j hj
    exact ⟨h1.1.trans h2.1.symm, h1.2.1.trans h2.2.1.symm, h1.2.2.trans h2.2.2.symm, rfl⟩
theorem Got.alike {w' : World} {b0 : Nat} {B : List Int} {x y : WtD} (h : Got w' b0 B x) (hm : y.may) (hp : WtP y) (hi : WtI y) (e : B = fileL y) : ∃ x', wtA x' = wtA x ∧ WtR w' x' ∧ Sm y x' := by
  obtain ⟨V, H, K, L, D, N, M, kv, nW, nL, nM, tn, P, a, b, c, lx, ly, al⟩ := file_inj h.may hm h.fit hp h.i hi (h.file.symm.trans e)
  exact ⟨like x y, rfl, like_rd (h.own.rd h.i) lx al, like_sm lx ly⟩
/-- weights that fit and can be read have numbers of 8 and 16 bits -/
theorem wtI_of {w : World} {x : WtD} (h : WtR w x) (hp : WtP x) : WtI x := by
  refine ⟨h.E.bd, h.Q.bd, h.F.bd, fun i hi => ?_, fun j hj => (h.yr j hj).n1.bd, fun j hj => (h.yr j hj).n2.bd, fun j hj q hq => ?_, fun j hj i hi => ?_, fun j hj => (h.mr j hj).bd⟩
  · have := hp.T.2 i hi
    omega
  · have r := h.yr j hj
    match q, hq with
    | 0, _ => exact r.q.bd
    | 1, _ => exact r.k.bd
    | 2, _ => exact r.v.bd
    | 3, _ => exact r.o.bd
    | 4, _ => exact r.g.bd
    | 5, _ => exact r.u.bd
    | 6, _ => exact r.d.bd
  · have := (hp.y j hj).sh i hi
    omega
end Go.Proofs.Ytilghknalbhacaa
namespace Go.Proofs.Ytilghknalbhacaa
open Go.RowKit
/-! works: the least weights are taken, written and read. -/
theorem Own.rdb {w : World} {b0 : Nat} {u : Option Addr} {c : Nat} {L : List Int} (h : OwB w b0 (.slice u L.length c) L) : RdA w u 1 L.length c (bV L) := Own.rda h
theorem fileL_byt (x : WtD) : Byt (fileL x) := by
  rw [file_eq]
  have h : Byt (headL x ++ midL x) := by rw [← mid_eq]; exact mL_byt x x.mn
  exact h.app (secL_byt (by decide) (num_byt _ _))
theorem SmM.symm {a b : MtD} (h : SmM a b) : SmM b a := ⟨h.1.symm, h.2.1.symm, h.2.2.1.symm, h.2.2.2.symm⟩
theorem SmS.symm {a b : LsD} (h : SmS a b) : SmS b a := ⟨h.1.symm, h.2.symm⟩
theorem SmL.symm {a b : LyD} (h : SmL a b) : SmL b a := ⟨h.1.symm, h.2.1.symm, fun q hq => (h.2.2.1 q hq).symm, h.2.2.2.symm⟩
theorem Sm.symm {x y : WtD} (h : Sm x y) : Sm y x := by
  have b := h.bs
  obtain ⟨a1, a2, a3, a4, a5, a6, a7, a8⟩ := b.cfg
  exact ⟨⟨⟨a1.symm, a2.symm, a3.symm, a4.symm, a5.symm, a6.symm, a7.symm, a8.symm⟩, b.E.symm, b.Q.symm, b.F.symm, ⟨b.T.1.symm, b.T.2.1.symm, b.T.2.2.symm⟩, b.Y.symm, b.M.symm⟩, fun j hj => (h.yy j (by rw [← b.Y]; exact hj)).symm, fun j hj => (h.mm j (by rw [← b.M]; exact hj)).symm⟩
set_option maxRecDepth 100000 in
set_option maxHeartbeats 8000000 in
theorem works_any (w : World) :
    Calls Try.prog 11 #[] w fun e w' => e = .returned (.bool true) ∧ Below w.heap.size w w' := by
  have HL := hidd (least_any w)
  go_enter Try.func11, Try.ntmps11
  go_upto_region 2 with (first
    | (go_at_call 28; refine HL.out.mono ?_; rintro e w1 ⟨y, rfl, hsm, hrd, hlow⟩; have HSM := hidd hsm; have HRD := hidd hrd; have F1 := hidd hlow; clear hsm hrd hlow)
    | (refine wpList_store_row rfl 34 _ _ rfl w1.heap.size (wtA y) rfl rfl 34 _ (heap_new _ _) sizeW rfl (wtA_one _) ?_))
  try rw [World.setRow_alloc_new]
  try simp only [Act.put]
  have f2 := fresh_alloc w1 (.cells (wtA y) 34)
  have HR2 := hidd (HRD.out.fresh f2)
  have F2 := hidd (fresh_trans F1.out f2)
  have HX2 : Hid ((w1.alloc (.cells (wtA y) 34)).rowIs w1.heap.size 34 18 (wtc y)) := World.rowIs_list w1 (wtL y) 34
  have HMAY := hidd (HSM.out.may lst_may)
  have HFIT := hidd (HSM.out.wtp lst_fit)
  have HWI := hidd (wtI_of HR2.out HFIT.out)
  have HWB := hidd (WtP.b HMAY.out HFIT.out)
  have HWZ := hidd (WtP.z HMAY.out HFIT.out HWB.out)
  clear f2 HRD F1 HL
  generalize (w1.alloc (.cells (wtA y) 34)) = w2 at *
  generalize w1.heap.size = b1 at *
  obtain ⟨T, hT⟩ : ∃ T, T = wtA y := ⟨_, rfl⟩
  have RGz : Hid (∀ z : World, Below w2.heap.size w2 z → z.rangeAt b1 0 T.toList) := fun z hz => by rw [hT]; exact row_range (L := wtL y) (row_fresh HX2.out hz) rfl
  have SL : Hid ((Try.prog.info? 34).map (·.size) = some T.toList.length) := by rw [hT]; exact sizeW
  have HNEW : Hid (Calls Try.prog 23 #[.agg T] w2 fun e w' => ∃ y' g, e = .returned (.tuple #[.pointer (some ⟨g, 0, none⟩), .int .i64 0]) ∧ Mdl w' g y y' ∧ w2.heap.size ≤ g ∧ Below w2.heap.size w2 w') := by rw [hT]; exact new_ok HR2.out HMAY.out HFIT.out
  have HENC : Hid (∀ z, Below w2.heap.size w2 z → Calls Try.prog 12 #[.agg T] z fun e w' => ∃ u c, e = .returned (.tuple #[.slice u (fileL y).length c, .int .i64 0]) ∧ OwB w' (z.heap.size + 1) (.slice u (fileL y).length c) (fileL y) ∧ Below z.heap.size z w') := fun z hz => by rw [hT]; exact enc_ok (HR2.out.fresh hz) HWZ.out HMAY.out HFIT.out
  have RG2 := hidd (RGz.out w2 (Below.refl _ _))
  clear hT
  go_upto_region 3 with (first
    | refine wpList_load_mid rfl 34 _ rfl b1 0 rfl T.toList _ RG2.out Try.underlying34 rfl SL.out ?_
    | (go_at_call 23; refine HNEW.out.mono ?_; rintro e w3 ⟨y', g, rfl, _, _, f3⟩; have F3 := hidd f3; clear f3))
  have RG3 := hidd (RGz.out w3 F3.out)
  obtain ⟨FL, HFL⟩ : ∃ l, Hid (l = fileL y) := ⟨_, rfl⟩
  rw [← HFL.out] at HENC
  go_upto_region 4 with (first
    | refine wpList_load_mid rfl 34 _ rfl b1 0 rfl T.toList _ RG3.out Try.underlying34 rfl SL.out ?_
    | (go_at_call 12; refine (HENC.out _ F3.out).mono ?_; rintro e w4 ⟨u, c, rfl, ho, f4⟩; have HO4 := hidd ho; have F4 := hidd (fresh_trans F3.out f4); clear ho f4))
  have HDE := hidd (decode_any (Own.rdb HO4.out) (by rw [HFL.out]; exact fileL_byt y))
  obtain ⟨nF, HNF⟩ : ∃ n, Hid (n = FL.length) := ⟨_, rfl⟩
  rw [← HNF.out] at HDE ⊢
  go_upto_region 5 with (first
    | (go_at_call 13; refine HDE.out.mono ?_; rintro e w5 hq; obtain ⟨x, er, rfl, f5, hor⟩ := hq.one; have HOR := hidd hor; have F5 := hidd (fresh_trans F4.out f5); clear hq hor f5)
    | (refine wpList_store_row rfl 34 _ _ rfl w5.heap.size (wtA x) rfl rfl 34 _ (heap_new _ _) sizeW rfl (wtA_one _) ?_))
  try rw [World.setRow_alloc_new]
  try simp only [Act.put]
  rcases HOR.out with ⟨rfl, hg⟩ | ⟨_, _, hn⟩
  case inr => exact absurd HFL.out (hn y HMAY.out HFIT.out HWI.out)
  obtain ⟨x', hxa, hxr, hxs⟩ := hg.alike HMAY.out HFIT.out HWI.out HFL.out
  have f6 := fresh_alloc w5 (.cells (wtA x) 34)
  have HXR := hidd (hxr.fresh f6)
  have HXA := hidd hxa
  have HXS := hidd (HSM.out.trans hxs)
  have F6 := hidd (fresh_trans F5.out f6)
  have F06 := hidd (fresh_trans F2.out F6.out)
  have HX6 : Hid ((w5.alloc (.cells (wtA x) 34)).rowIs w5.heap.size 34 18 (wtc x)) := World.rowIs_list w5 (wtL x) 34
  clear hg hxa hxr hxs f6 HOR F5 HDE HENC HNEW RGz RG2 RG3 SL HO4 F3 F4 F6 F2 HR2 HX2
  generalize (w5.alloc (.cells (wtA x) 34)) = w6 at *
  generalize w5.heap.size = b2 at *
  have s0 : Below w6.heap.size w6 w6.drew := (Below.refl _ _).drew
  refine wp_region_held_drew (S := fun z => Below w6.heap.size w6 z) (by kernel_rfl) s0 (fun _ => ?_)
  refine wpAnyH_take (i := 0) (v := ?va) rfl (by kernel_rfl) (by kernel_rfl) (by kernel_rfl) (fun _ _ _ h => h) (Or.inl ⟨by rfl, ?ya⟩) s0 ?ra
  case ya =>
    intro z hz
    have hzr := row_fresh HX6.out hz
    have c0 : z.cell? ⟨b2, 0, none⟩ = some (.int .i64 x.V) := hzr.cell (i := 0) (by decide)
    have c1 : z.cell? ⟨b2, 1, none⟩ = some (.int .i64 x.W) := hzr.cell (i := 1) (by decide)
    have c2 : z.cell? ⟨b2, 2, none⟩ = some (.int .i64 x.H) := hzr.cell (i := 2) (by decide)
    have c3 : z.cell? ⟨b2, 3, none⟩ = some (.int .i64 x.K) := hzr.cell (i := 3) (by decide)
    have c4 : z.cell? ⟨b2, 4, none⟩ = some (.int .i64 x.L) := hzr.cell (i := 4) (by decide)
    have c5 : z.cell? ⟨b2, 5, none⟩ = some (.int .i64 x.D) := hzr.cell (i := 5) (by decide)
    have c6 : z.cell? ⟨b2, 6, none⟩ = some (.int .i64 x.N) := hzr.cell (i := 6) (by decide)
    have c7 : z.cell? ⟨b2, 7, none⟩ = some (.int .i64 x.M) := hzr.cell (i := 7) (by decide)
    have c8 : z.cell? ⟨b2, 8, none⟩ = some (.int .i64 x.E.R) := hzr.cell (i := 8) (by decide)
    have c9 : z.cell? ⟨b2, 9, none⟩ = some (.int .i64 x.E.C) := hzr.cell (i := 9) (by decide)
    have c10 : z.cell? ⟨b2, 10, none⟩ = some (.slice x.E.O x.E.n x.E.c) := hzr.cell (i := 10) (by decide)
    have c11 : z.cell? ⟨b2, 11, none⟩ = some (.slice x.tO x.tn x.tc) := hzr.cell (i := 11) (by decide)
    have c12 : z.cell? ⟨b2, 12, none⟩ = some (.slice x.yO x.yn x.yc) := hzr.cell (i := 12) (by decide)
    have c13 : z.cell? ⟨b2, 13, none⟩ = some (.slice x.F.O x.F.n x.F.c) := hzr.cell (i := 13) (by decide)
    have c14 : z.cell? ⟨b2, 14, none⟩ = some (.int .i64 x.Q.R) := hzr.cell (i := 14) (by decide)
    have c15 : z.cell? ⟨b2, 15, none⟩ = some (.int .i64 x.Q.C) := hzr.cell (i := 15) (by decide)
    have c16 : z.cell? ⟨b2, 16, none⟩ = some (.slice x.Q.O x.Q.n x.Q.c) := hzr.cell (i := 16) (by decide)
    have c17 : z.cell? ⟨b2, 17, none⟩ = some (.slice x.mO x.mn x.mc) := hzr.cell (i := 17) (by decide)
    go_simp
    try with_reducible rfl
  refine wpAnyH_ready (rs := [1]) (by kernel_rfl) (by simp) (AllReadyH.cons rfl (fun KK hK => ?_) AllReadyH.nil)
  go_simp
  refine (least_any _).mono ?_
  rintro e w7 ⟨y2, rfl, hsm2, hrd2, f7⟩
  have s7 : Below w6.heap.size w6 w7 := s0.trans (f7.mono s0.size)
  refine hK.out _ _ s7 (fun _ => ?_)
  clear hK KK
  have HEQ : Hid (Calls Try.prog 16 #[.agg #[.int .i64 x.V, .int .i64 x.W, .int .i64 x.H, .int .i64 x.K, .int .i64 x.L, .int .i64 x.D, .int .i64 x.N, .int .i64 x.M, .int .i64 x.E.R, .int .i64 x.E.C, .slice x.E.O x.E.n x.E.c, .slice x.tO x.tn x.tc, .slice x.yO x.yn x.yc, .slice x.F.O x.F.n x.F.c, .int .i64 x.Q.R, .int .i64 x.Q.C, .slice x.Q.O x.Q.n x.Q.c, .slice x.mO x.mn x.mc], .agg (wtA y2)] w7 fun e w' => e = .returned (.bool true) ∧ Below w7.heap.size w7 w') := by
    have := eqW_v hrd2 (HXR.out.fresh s7) (hsm2.symm.trans HXS.out)
    rw [HXA.out] at this
    exact this
  refine wpAnyH_ready (rs := [2]) (by kernel_rfl) (by simp) (AllReadyH.cons rfl (fun KK hK => ?_) AllReadyH.nil)
  go_simp
  refine HEQ.out.mono ?_
  rintro e w8 ⟨rfl, f8⟩
  have s8 : Below w6.heap.size w6 w8 := fresh_trans s7 f8
  refine hK.out _ _ s8 (fun _ => ?_)
  clear hK KK
  refine wpAnyH_ready (rs := [3]) (by kernel_rfl) (by simp) (AllReadyH.cons rfl (fun KK hK => ?_) AllReadyH.nil)
  go_simp
  refine hK.out _ _ s8 (fun _ => ?_)
  clear hK KK
  refine wpAnyH_done (by kernel_rfl) ?_ _
  have HFN := hidd (fresh_trans F06.out s8)
  clear s0 s7 s8 HEQ hsm2 hrd2 f7 f8 HX6 HXR HXA HXS F06
  go_wp2
  go_ret
  exact ⟨rfl, HFN.out⟩
end Go.Proofs.Ytilghknalbhacaa
