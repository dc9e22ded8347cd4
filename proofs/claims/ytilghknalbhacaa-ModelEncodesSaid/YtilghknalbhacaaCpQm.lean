import Derived.Test.YtilghknalbhacaaCPX
namespace Go.Proofs.Ytilghknalbhacaa
open Go.RowKit
/-! A copy of weights is read as weights; models in memory. -/
theorem shp_le {R C : Int} {n : Nat} (h : shp R C n = true) (hR : R ≤ 1024) (hC : C ≤ 1024) : n ≤ 1048576 := by
  unfold shp at h
  simp only [Bool.and_eq_true, decide_eq_true_eq, beq_iff_eq] at h
  obtain ⟨h1, h2, h3, h4⟩ := h
  have h5 := Int.emod_add_mul_ediv (n : Int) C
  rw [h3, h4] at h5
  have h6 : C * R ≤ 1024 * 1024 := Int.mul_le_mul hC hR (by omega) (by omega)
  omega
theorem MtD.isa.le {m : MtD} {r c : Int} (h : m.isa r c) (hr : r ≤ 1024) (hc : c ≤ 1024) : m.n ≤ 1048576 := by
  obtain ⟨⟨h1, _⟩, h2, h3⟩ := h
  exact shp_le h1 (by omega) (by omega)
theorem WtP.b {x : WtD} (hm : x.may) (hp : WtP x) : WtB x := by
  obtain ⟨⟨v0, v1⟩, ⟨w0, w1⟩, ⟨h0, h1⟩, _, ⟨k0, k1⟩, _, ⟨l0, l1⟩, ⟨d0, d1⟩, _, ⟨m0, m1⟩⟩ := hm
  have hkv := kv_bd h0 k0 k1 w0 w1
  have t1 := hp.T.1
  have f1 : (x.F.n : Int) = x.W := hp.F.1
  have y1 := hp.yn
  have q1 := hp.mn
  have hT : x.W / x.H / 2 ≤ 32 := by
    have a1 : x.W / x.H ≤ x.W := Int.ediv_le_self _ (by omega)
    have a2 : 0 ≤ x.W / x.H := Int.ediv_nonneg (by omega) (by omega)
    omega
  refine ⟨hp.E.le (by omega) (by omega), hp.Q.le (by omega) (by omega), by omega, by omega, by omega, by omega, fun k hk => (hp.m k hk).le (by omega) (by omega), fun k hk => ?_, fun k hk => ?_, fun k hk => ?_⟩
  · have : ((x.ly k).n1.n : Int) = x.W := (hp.y k hk).n1.1
    omega
  · have : ((x.ly k).n2.n : Int) = x.W := (hp.y k hk).n2.1
    omega
  · have h9 := hp.y k hk
    exact ⟨h9.q.le (by omega) (by omega), h9.k.le (by omega) (by omega), h9.v.le (by omega) (by omega), h9.o.le (by omega) (by omega), h9.g.le (by omega) (by omega), h9.u.le (by omega) (by omega), h9.d.le (by omega) (by omega)⟩
theorem Cpy.lift {w w1 w2 w3 : World} {x y : WtD} (h : Cpy w1 w2 x y) (f : Below w.heap.size w w1) (k : Below w2.heap.size w2 w3) : Cpy w w3 x y := by
  have hs := f.size
  have s : ∀ {e9 : TypeId} {sz9 n9 : Nat} {v9 : Value} {cs9 : Nat → Value}, Own w2 (w1.heap.size + 2) e9 sz9 v9 n9 cs9 → Own w3 (w.heap.size + 2) e9 sz9 v9 n9 cs9 := fun ho => (ho.kept k).weaken (by omega)
  exact ⟨h.bs, s h.E, s h.Q, s h.F, s h.T, s h.Y, s h.M, fun j hj => ⟨⟨s (h.yy j hj).1.1, s (h.yy j hj).1.2.1, fun q hq => s ((h.yy j hj).1.2.2 q hq)⟩, (h.yy j hj).2⟩, fun j hj => ⟨s (h.mm j hj).1, (h.mm j hj).2⟩, fresh_trans (f.trans (h.low.mono hs)) k⟩
theorem Own.rda {w : World} {base : Nat} {e : TypeId} {sz n c : Nat} {u : Option Addr} {cs : Nat → Value} (h : Own w base e sz (.slice u n c) n cs) : RdA w u sz n c cs := by
  obtain ⟨ao, cap, e1, hr⟩ := h.rd
  injection e1 with e2 _ e3
  subst e2 e3
  exact hr
/-- all but addresses is alike -/
structure Sm (x y : WtD) : Prop where
  bs : BS x y
  yy : ∀ j, j < x.yn → SmL (x.ly j) (y.ly j)
  mm : ∀ j, j < x.mn → SmM (x.md j) (y.md j)
theorem SmM.trans {a b c : MtD} (h : SmM a b) (k : SmM b c) : SmM a c := ⟨k.1.trans h.1, k.2.1.trans h.2.1, k.2.2.1.trans h.2.2.1, k.2.2.2.trans h.2.2.2⟩
theorem SmS.trans {a b c : LsD} (h : SmS a b) (k : SmS b c) : SmS a c := ⟨k.1.trans h.1, k.2.trans h.2⟩
theorem SmL.trans {a b c : LyD} (h : SmL a b) (k : SmL b c) : SmL a c := ⟨h.1.trans k.1, h.2.1.trans k.2.1, fun q hq => (h.2.2.1 q hq).trans (k.2.2.1 q hq), k.2.2.2.trans h.2.2.2⟩
theorem BS.trans {x y z : WtD} (h : BS x y) (k : BS y z) : BS x z := by
  obtain ⟨a1, a2, a3, a4, a5, a6, a7, a8⟩ := h.cfg
  obtain ⟨b1, b2, b3, b4, b5, b6, b7, b8⟩ := k.cfg
  exact ⟨⟨b1.trans a1, b2.trans a2, b3.trans a3, b4.trans a4, b5.trans a5, b6.trans a6, b7.trans a7, b8.trans a8⟩, h.E.trans k.E, h.Q.trans k.Q, h.F.trans k.F, ⟨k.T.1.trans h.T.1, k.T.2.1.trans h.T.2.1, k.T.2.2.trans h.T.2.2⟩, k.Y.trans h.Y, k.M.trans h.M⟩
theorem Sm.trans {x y z : WtD} (h : Sm x y) (k : Sm y z) : Sm x z := ⟨h.bs.trans k.bs, fun j hj => (h.yy j hj).trans (k.yy j (by rw [h.bs.Y]; exact hj)), fun j hj => (h.mm j hj).trans (k.mm j (by rw [h.bs.M]; exact hj))⟩
theorem Cpy.sm {w w' : World} {x y : WtD} (h : Cpy w w' x y) : Sm x y := ⟨h.bs, fun j hj => (h.yy j hj).2, fun j hj => (h.mm j hj).2⟩
theorem SmM.isa {a b : MtD} (h : SmM a b) {r c : Int} (k : a.isa r c) : b.isa r c := by
  obtain ⟨h1, h2, h3, h4⟩ := h
  unfold MtD.isa at k ⊢
  rw [h1, h2, h3, h4]
  exact k
theorem SmS.gains {a b : LsD} (h : SmS a b) {r : Int} (k : a.gains r) : b.gains r := by
  obtain ⟨h1, h2⟩ := h
  unfold LsD.gains at k ⊢
  rw [h1, h2]
  exact k
theorem SmL.lyp {a b : LyD} (h : SmL a b) {W kv D : Int} (k : LyP a W kv D) : LyP b W kv D := by
  obtain ⟨h1, h2, h3, h4⟩ := h
  exact ⟨h1.gains k.n1, h2.gains k.n2, (h3 0 (by decide)).isa k.q, (h3 3 (by decide)).isa k.o, (h3 1 (by decide)).isa k.k, (h3 2 (by decide)).isa k.v, (h3 4 (by decide)).isa k.g, (h3 5 (by decide)).isa k.u, (h3 6 (by decide)).isa k.d, fun i hi => by rw [h4]; exact k.sh i hi⟩
theorem Sm.may {x y : WtD} (h : Sm x y) (k : x.may) : y.may := by
  obtain ⟨a1, a2, a3, a4, a5, a6, a7, a8⟩ := h.bs.cfg
  unfold WtD.may at k ⊢
  rw [a1, a2, a3, a4, a5, a6, a7, a8]
  exact k
theorem Sm.wtp {x y : WtD} (h : Sm x y) (k : WtP x) : WtP y := by
  obtain ⟨a1, a2, a3, a4, a5, a6, a7, a8⟩ := h.bs.cfg
  refine ⟨?_, ?_, ?_, ?_, ?_, ?_, fun j hj => ?_, fun j hj => ?_⟩
  · rw [a1, a2]; exact h.bs.E.isa k.E
  · rw [a1, a2]; exact h.bs.Q.isa k.Q
  · rw [a2]; exact h.bs.F.gains k.F
  · rw [a2, a3, h.bs.T.1, h.bs.T.2.1, h.bs.T.2.2]; exact k.T
  · rw [a5, h.bs.Y]; exact k.yn
  · rw [a8, h.bs.M]; exact k.mn
  · rw [a2, a3, a4, a6]
    rw [h.bs.Y] at hj
    exact (h.yy j hj).lyp (k.y j hj)
  · rw [a1, a2]
    rw [h.bs.M] at hj
    exact (h.mm j hj).isa (k.m j hj)
theorem OwM.mtr {w w' : World} {m m' : MtD} {w0 : World} (h : OwM w w' m') (s : SmM m m') (k : MtR w0 m) : MtR w' m' := ⟨Own.rda h, fun i hi => by rw [s.2.2.2]; rw [s.2.2.1] at hi; exact k.bd i hi⟩
theorem OwS.lsr {w w' : World} {m m' : LsD} {w0 : World} (h : OwS w w' m') (s : SmS m m') (k : LsR w0 m) : LsR w' m' := ⟨Own.rda h, fun i hi => by rw [s.2]; rw [s.1] at hi; exact k.bd i hi⟩
theorem LyO.lyr {w w' : World} {l l' : LyD} {w0 : World} (h : LyO w w' l') (s : SmL l l') (k : LyR w0 l) : LyR w' l' :=
  ⟨OwS.lsr h.1 s.1 k.n1, OwS.lsr h.2.1 s.2.1 k.n2, OwM.mtr (h.2.2 0 (by decide)) (s.2.2.1 0 (by decide)) k.q, OwM.mtr (h.2.2 1 (by decide)) (s.2.2.1 1 (by decide)) k.k, OwM.mtr (h.2.2 2 (by decide)) (s.2.2.1 2 (by decide)) k.v, OwM.mtr (h.2.2 3 (by decide)) (s.2.2.1 3 (by decide)) k.o, OwM.mtr (h.2.2 4 (by decide)) (s.2.2.1 4 (by decide)) k.g, OwM.mtr (h.2.2 5 (by decide)) (s.2.2.1 5 (by decide)) k.u, OwM.mtr (h.2.2 6 (by decide)) (s.2.2.1 6 (by decide)) k.d⟩
theorem lyC_of {w : World} {b off : Nat} {l : LyD} (h : ∀ t, t < 30 → w.cell? ⟨b, off + t, none⟩ = some ((lyL l).getD t undef)) : LyC w b off l :=
  ⟨h 0 (by decide), h 1 (by decide), h 2 (by decide), h 3 (by decide), h 4 (by decide), h 5 (by decide), h 6 (by decide), h 7 (by decide), h 8 (by decide), h 9 (by decide), h 10 (by decide), h 11 (by decide), h 12 (by decide), h 13 (by decide), h 14 (by decide), h 15 (by decide), h 16 (by decide), h 17 (by decide), h 18 (by decide), h 19 (by decide), h 20 (by decide), h 21 (by decide), h 22 (by decide), h 23 (by decide), h 24 (by decide), h 25 (by decide), h 26 (by decide), h 27 (by decide), h 28 (by decide), h 29 (by decide)⟩
theorem Cpy.wtr {w w' : World} {x y : WtD} {w0 : World} (h : Cpy w w' x y) (k : WtR w0 x) : WtR w' y := by
  have hY := h.Y.rda
  have hM := h.M.rda
  refine ⟨OwM.mtr h.E h.bs.E k.E, h.T.rda, OwS.lsr h.F h.bs.F k.F, OwM.mtr h.Q h.bs.Q k.Q, hY.le, hY.top, fun h0 => ?_, fun j hj => ?_, hM.le, hM.top, fun h0 => ?_, fun j hj => ?_⟩
  · obtain ⟨b, off, e, hc⟩ := hY.at_ h0
    refine ⟨b, off, e, fun j hj => lyC_of (fun t ht => ?_)⟩
    rw [Nat.add_assoc, hc (j * 30 + t) (by omega)]
    unfold lyc
    rw [show (j * 30 + t) / 30 = j by omega, show (j * 30 + t) % 30 = t by omega]
  · rw [h.bs.Y] at hj
    exact LyO.lyr (h.yy j hj).1 (h.yy j hj).2 (k.yr j hj)
  · obtain ⟨b, off, e, hc⟩ := hM.at_ h0
    refine ⟨b, off, e, fun j hj => ?_⟩
    have hc' : ∀ t, t < 3 → w'.cell? ⟨b, off + j * 3 + t, none⟩ = some ((mtL (y.md j)).getD t undef) := fun t ht => by
      rw [Nat.add_assoc, hc (j * 3 + t) (by omega)]
      unfold mtc
      rw [show (j * 3 + t) / 3 = j by omega, show (j * 3 + t) % 3 = t by omega]
    exact ⟨hc' 0 (by decide), hc' 1 (by decide), hc' 2 (by decide)⟩
  · rw [h.bs.M] at hj
    exact OwM.mtr (h.mm j hj).1 (h.mm j hj).2 (k.mr j hj)
end Go.Proofs.Ytilghknalbhacaa
