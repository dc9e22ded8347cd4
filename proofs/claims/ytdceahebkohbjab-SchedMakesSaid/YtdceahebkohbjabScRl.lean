import Derived.Test.YtdceahebkohbjabScRk
namespace Go.Proofs.Ytdceahebkohbjab
open Go.RowKit
/-! The reference's Make, where all may be. -/
/-- what the loop keeps: the Work in its box g, the plan's cell, the slices in v -/
structure RmI (w : World) (g : Nat) (c : Me) (so : Option Addr) (n sc : Nat) (L : Nat → Se) (st : Pn) (v : Value) (wr : World) : Prop where
  low : Below w.heap.size w wr
  gle : w.heap.size + 2 ≤ g
  glt : g < wr.heap.size
  wk : ∃ (Q : List Int) (oo : Option Addr) (oc : Nat), WkA wr g c so n sc (.slice oo Q.length oc) st.given st.left ∧ Own wr w.heap.size 3 1 (.slice oo Q.length oc) Q.length (fun i => .int .i64 (lI Q i)) ∧ StR L n Q st.given st.left st
  own : Own wr w.heap.size 45 3 v st.Z.length (slF L st.Z)
  res : wr.rowIs (w.heap.size + 1) 28 2 (two (.slice none 0 0) (.slice none 0 0))
theorem RmI.fresh {w wr wz : World} {g : Nat} {c : Me} {so : Option Addr} {n sc : Nat} {L : Nat → Se} {st : Pn} {v : Value} (h : RmI w g c so n sc L st v wr) (f : Below wr.heap.size wr wz) : RmI w g c so n sc L st v wz := by
  obtain ⟨Q, oo, oc, k1, k2, k3⟩ := h.wk
  exact ⟨h.low.trans (f.mono h.low.size), h.gle, Nat.lt_of_lt_of_le h.glt f.size, ⟨Q, oo, oc, k1.fresh f, k2.kept f, k3⟩, h.own.kept f, h.res.of_block (f.block _ h.res.lt)⟩
/-- where a list of numbers says the places -/
theorem q_own {w : World} {base : Nat} {L : Nat → Se} {n : Nat} {Q : List Int} {gv lf : Int} {st : Pn} {oo : Option Addr} {oc : Nat} (h : StR L n Q gv lf st) (ho : Own w base 3 1 (.slice oo Q.length oc) Q.length (fun i => .int .i64 (lI Q i))) : Own w base 3 1 (.slice oo Q.length oc) st.O.length (idF L st.O) := by
  have hl : Q.length = st.O.length := by rw [h.q]; simp
  rw [← hl]
  refine ho.congr (fun j hj => ?_)
  have hj2 : j < st.O.length := by omega
  unfold lI idF
  rw [h.q]
  simp [hj2]
/-- what stands behind serve: st' the state, Z the slices so far -/
structure RmP (w : World) (g : Nat) (c : Me) (so : Option Addr) (n sc : Nat) (L : Nat → Se) (st : Pn) (Z : List (Nat × Int)) (v : Value) (wr : World) : Prop where
  low : Below w.heap.size w wr
  gle : w.heap.size + 2 ≤ g
  glt : g < wr.heap.size
  wk : ∃ (Q : List Int) (oo : Option Addr) (oc : Nat), WkA wr g c so n sc (.slice oo Q.length oc) st.given st.left ∧ Own wr w.heap.size 3 1 (.slice oo Q.length oc) Q.length (fun i => .int .i64 (lI Q i)) ∧ StR L n Q st.given st.left st
  own : Own wr w.heap.size 45 3 v Z.length (slF L Z)
  res : wr.rowIs (w.heap.size + 1) 28 2 (two (.slice none 0 0) (.slice none 0 0))
theorem RmP.fresh {w wr wz : World} {g : Nat} {c : Me} {so : Option Addr} {n sc : Nat} {L : Nat → Se} {st : Pn} {Z : List (Nat × Int)} {v : Value} (h : RmP w g c so n sc L st Z v wr) (f : Below wr.heap.size wr wz) : RmP w g c so n sc L st Z v wz := by
  obtain ⟨Q, oo, oc, k1, k2, k3⟩ := h.wk
  exact ⟨h.low.trans (f.mono h.low.size), h.gle, Nat.lt_of_lt_of_le h.glt f.size, ⟨Q, oo, oc, k1.fresh f, k2.kept f, k3⟩, h.own.kept f, h.res.of_block (f.block _ h.res.lt)⟩
theorem RmP.all {w wr : World} {g : Nat} {c : Me} {so : Option Addr} {n sc : Nat} {L : Nat → Se} {st : Pn} {Z : List (Nat × Int)} {v : Value} (h : RmP w g c so n sc L st Z v wr) (hz : st.Z = Z) : RmI w g c so n sc L st v wr := by
  subst hz
  exact ⟨h.low, h.gle, h.glt, h.wk, h.own, h.res⟩
theorem RmI.serve {w w7 w8 : World} {g : Nat} {c : Me} {so : Option Addr} {n sc : Nat} {L : Nat → Se} {st : Pn} {v : Value} {t : Nat} {a1 a2 a3 : Int} {b : Bool} (h : RmI w g c so n sc L st v w7) (k : SvA w7 w.heap.size g c so n sc L t st w8 a1 a2 a3 b) : RmP w g c so n sc L (lok c L n t st) st.Z v w8 := by
  obtain ⟨hc, Q, oo, oc, gv, lf, k1, k2, k3, _⟩ := k
  obtain ⟨_, _, _, k0, _, _⟩ := h.wk
  have e1 := k3.given
  have e2 := k3.left
  subst e1
  subst e2
  exact ⟨hc.below h.low h.low.size (fun x e => by have := h.gle; omega), h.gle, Nat.lt_of_lt_of_le h.glt hc.size, ⟨Q, oo, oc, k1, k2, k3⟩, h.own.chg hc (fun x hx e => h.own.apart k0 (by decide) (by rw [hx, e])), hc.row h.res (by have := h.gle; omega)⟩
/-- the slice is put behind -/
theorem RmP.put {w wr wz : World} {g : Nat} {c : Me} {so : Option Addr} {n sc : Nat} {L : Nat → Se} {st : Pn} {Z : List (Nat × Int)} {v v' : Value} (h : RmP w g c so n sc L st Z v wr) (ha : App wr wz v v') (ho : Own wz w.heap.size 45 3 v' st.Z.length (slF L st.Z)) : RmI w g c so n sc L st v' wz := by
  obtain ⟨Q, oo, oc, k1, k2, k3⟩ := h.wk
  exact ⟨ha.below h.low h.own (Nat.le_refl _) h.low.size, h.gle, Nat.lt_of_lt_of_le h.glt ha.grown.size, ⟨Q, oo, oc, ha.row k1 (h.own.apart k1 (by decide)), ha.own k2 (h.own.offT k2 (by decide)), k3⟩, ho, ha.row h.res (h.own.apart h.res (by decide))⟩
set_option maxRecDepth 20000 in
set_option maxHeartbeats 8000000 in
theorem rmake_ok {w : World} {c : Me} {so : Option Addr} {n sc : Nat} {S L : Nat → Se} (hS : SeA w so n sc S) (hn : n ≤ 16) (hc : okM c 1) (hA : okA c n S) (hp : PO n S L) {po : Option Addr} {m pc : Nat} {P : Nat → Int} (hP : RdA w po 1 m pc (fun i => .int .i64 (P i))) :
    Calls Try.prog 14 #[mV c, .slice so n sc, .slice po m pc] w fun e w' => ∃ vO vZ, e = .returned (.tuple #[.agg #[vO, vZ], .int .i64 0]) ∧ Below w.heap.size w w' ∧ Own w' w.heap.size 3 1 vO (mkN c L n (hasI P m) n).O.length (idF L (mkN c L n (hasI P m) n).O) ∧ Own w' w.heap.size 45 3 vZ (mkN c L n (hasI P m) n).Z.length (slF L (mkN c L n (hasI P m) n).Z) := by
  have HCK := hidd (fun z => rcheck_any z c 1 0 (fun _ => rfl) (fun h => absurd hc h))
  have HSK := hidd (fun (z : World) (hz : Below w.heap.size w z) => rseats_any c hc (hS.fresh hz) 0 (fun _ => rfl) (fun h => absurd hA h))
  have HF : Hid (Below w.heap.size w ((w.alloc (.cells #[.int .i64 c.bs, .int .i64 c.bl, .int .i64 c.bu, .int .i64 c.ch, .int .i64 c.tr] 23)).alloc (.cells #[.slice none 0 0, .slice none 0 0] 28))) := (fresh_alloc w _).trans ((fresh_alloc _ _).mono (fresh_alloc w _).size)
  have HR0 : Hid (((w.alloc (.cells #[.int .i64 c.bs, .int .i64 c.bl, .int .i64 c.bu, .int .i64 c.ch, .int .i64 c.tr] 23)).alloc (.cells #[.slice none 0 0, .slice none 0 0] 28)).rowIs (w.heap.size + 1) 28 2 (two (.slice none 0 0) (.slice none 0 0))) := by
    have := two_new (w.alloc (.cells #[.int .i64 c.bs, .int .i64 c.bl, .int .i64 c.bu, .int .i64 c.ch, .int .i64 c.tr] 23)) (.slice none 0 0) (.slice none 0 0) 28
    rwa [show (w.alloc (.cells #[.int .i64 c.bs, .int .i64 c.bl, .int .i64 c.bu, .int .i64 c.ch, .int .i64 c.tr] 23)).heap.size = w.heap.size + 1 by simp] at this
  have HBX : Hid (let z := ((w.alloc (.cells #[.int .i64 c.bs, .int .i64 c.bl, .int .i64 c.bu, .int .i64 c.ch, .int .i64 c.tr] 23)).alloc (.cells #[.slice none 0 0, .slice none 0 0] 28)); z.cell? ⟨w.heap.size, 0, none⟩ = some (.int .i64 c.bs) ∧ z.cell? ⟨w.heap.size, 1, none⟩ = some (.int .i64 c.bl) ∧ z.cell? ⟨w.heap.size, 2, none⟩ = some (.int .i64 c.bu) ∧ z.cell? ⟨w.heap.size, 3, none⟩ = some (.int .i64 c.ch) ∧ z.cell? ⟨w.heap.size, 4, none⟩ = some (.int .i64 c.tr)) := by
    obtain ⟨e0, e1, e2, e3, e4⟩ := box5 w (.int .i64 c.bs) (.int .i64 c.bl) (.int .i64 c.bu) (.int .i64 c.ch) (.int .i64 c.tr) 23
    have f := fresh_alloc (w.alloc (.cells #[.int .i64 c.bs, .int .i64 c.bl, .int .i64 c.bu, .int .i64 c.ch, .int .i64 c.tr] 23)) (.cells #[.slice none 0 0, .slice none 0 0] 28)
    exact ⟨fresh_cell f e0, fresh_cell f e1, fresh_cell f e2, fresh_cell f e3, fresh_cell f e4⟩
  have HSZ : Hid (((w.alloc (.cells #[.int .i64 c.bs, .int .i64 c.bl, .int .i64 c.bu, .int .i64 c.ch, .int .i64 c.tr] 23)).alloc (.cells #[.slice none 0 0, .slice none 0 0] 28)).heap.size = w.heap.size + 2) := by show _ = _; simp
  have HMV : Hid (mV c = .agg #[.int .i64 c.bs, .int .i64 c.bl, .int .i64 c.bu, .int .i64 c.ch, .int .i64 c.tr]) := rfl
  have HS := hidd hS
  have HPR := hidd hP
  have HPO := hidd hp
  have HOM := hidd hc
  have HOA := hidd hA
  clear hS hP hp hc hA
  rw [HMV.out] at HCK HSK ⊢
  obtain ⟨PP, HPP⟩ : ∃ X : Ending → World → Prop, Hid (X = fun e w' => ∃ vO vZ, e = .returned (.tuple #[.agg #[vO, vZ], .int .i64 0]) ∧ Below w.heap.size w w' ∧ Own w' w.heap.size 3 1 vO (mkN c L n (hasI P m) n).O.length (idF L (mkN c L n (hasI P m) n).O) ∧ Own w' w.heap.size 45 3 vZ (mkN c L n (hasI P m) n).Z.length (slF L (mkN c L n (hasI P m) n).Z)) := ⟨_, rfl⟩
  rw [← HPP.out]
  go_enter Try.func14, Try.ntmps14
  go_upto_region 1 with fail
  generalize (w.alloc (.cells #[.int .i64 c.bs, .int .i64 c.bl, .int .i64 c.bu, .int .i64 c.ch, .int .i64 c.tr] 23)).alloc (.cells #[.slice none 0 0, .slice none 0 0] 28) = w1 at *
  obtain ⟨e0, e1, e2, e3, e4⟩ := HBX.out
  go_upto_region 4 with (go_at_call 22; with_reducible refine (HCK.out _).mono ?_; rintro e w2 ⟨rfl, hb2⟩; have HB2 := hidd hb2; clear hb2)
  have HF2 := hidd (HF.out.trans (HB2.out.mono HF.out.size))
  have HR2 := hidd (HR0.out.of_block (HB2.out.block _ HR0.out.lt))
  replace e0 := fresh_cell HB2.out e0
  replace e1 := fresh_cell HB2.out e1
  replace e2 := fresh_cell HB2.out e2
  replace e3 := fresh_cell HB2.out e3
  replace e4 := fresh_cell HB2.out e4
  have HS2 := hidd (HSK.out w2 HF2.out)
  go_upto_region 7 with (go_at_call 23; with_reducible refine HS2.out.mono ?_; rintro e w3 ⟨rfl, hb3⟩; have HB3 := hidd hb3; clear hb3)
  have HF3 := hidd (HF2.out.trans (HB3.out.mono HF2.out.size))
  have HR3 := hidd (HR2.out.of_block (HB3.out.block _ HR2.out.lt))
  replace e0 := fresh_cell HB3.out e0
  replace e1 := fresh_cell HB3.out e1
  replace e2 := fresh_cell HB3.out e2
  replace e3 := fresh_cell HB3.out e3
  replace e4 := fresh_cell HB3.out e4
  have HZ3 : Hid (w.heap.size + 2 ≤ w3.heap.size) := by have := HSZ.out; have := HB2.out.size; have := HB3.out.size; show _ ≤ _; omega
  clear HCK HSK HS2 HB2 HB3 HF HF2 HR0 HR2 HBX HSZ
  go_upto_region 9 with fail
  have HI4 : Hid (RmI w w3.heap.size c so n sc L (mkN c L n (hasI P m) 0) (.slice none 0 0) (w3.alloc (.cells #[.int .i64 c.bs, .int .i64 c.bl, .int .i64 c.bu, .int .i64 c.ch, .int .i64 c.tr, .slice so n sc, .slice none 0 0, .int .i64 0, .int .i64 c.bu] 59))) := by
    have f := fresh_alloc w3 (.cells #[.int .i64 c.bs, .int .i64 c.bl, .int .i64 c.bu, .int .i64 c.ch, .int .i64 c.tr, .slice so n sc, .slice none 0 0, .int .i64 0, .int .i64 c.bu] 59)
    have r := World.rowIs_alloc w3 #[.int .i64 c.bs, .int .i64 c.bl, .int .i64 c.bu, .int .i64 c.ch, .int .i64 c.tr, .slice so n sc, .slice none 0 0, .int .i64 0, .int .i64 c.bu] 59 (wkC c so n sc (.slice none 0 0) 0 c.bu) (fun i hi => by
      simp at hi
      rcases nine hi with rfl | rfl | rfl | rfl | rfl | rfl | rfl | rfl | rfl <;> rfl)
    exact ⟨HF3.out.trans (f.mono HF3.out.size), HZ3.out, by simp, ⟨[], none, 0, r, own_nil _ _ _ _ _, ⟨rfl, fun _ _ => rfl, rfl, rfl⟩⟩, own_nil _ _ _ _ _, HR3.out.of_block (f.block _ HR3.out.lt)⟩
  generalize w3.alloc (.cells #[.int .i64 c.bs, .int .i64 c.bl, .int .i64 c.bu, .int .i64 c.ch, .int .i64 c.tr, .slice so n sc, .slice none 0 0, .int .i64 0, .int .i64 c.bu] 59) = w4 at *
  obtain ⟨g, HG⟩ : ∃ g, Hid (g = w3.heap.size) := ⟨_, rfl⟩
  rw [← HG.out] at HI4 ⊢
  clear HR3 HF3 HZ3 HG e0 e1 e2 e3 e4
  have HNX : Hid (∀ (z : World) (st : Pn) (v : Value), RmI w g c so n sc L st v z → ∀ (id : Int) (fst : Bool), Calls Try.prog 29 #[.pointer (some ⟨g, 0, none⟩), .slice po m pc, .int .i64 id, .bool fst] z fun e w' => ∃ b, e = .returned (.int .i64 b) ∧ NxR S n id fst (hasI P m) b ∧ Below z.heap.size z w') := fun z st v h id fst => by
    obtain ⟨Q, oo, oc, k1, _⟩ := h.wk
    exact rnext_any k1 (HS.out.fresh h.low) hn (HPR.out.fresh h.low) id fst
  have HOS : Hid (∀ i, i < n → okS c (L i)) := fun i hi => by
    obtain ⟨j, hj, e⟩ := HPO.out.of_mem hi
    exact (okS_er e).2 (HOA.out.2.1 j hj)
  have HIV : Hid (∀ t, t ≤ n → Inv c L n (hasI P m) t (mkN c L n (hasI P m) t)) := mkN_inv HOM.out HOS.out hn
  have HEX : Hid (∀ (t : Nat) (wr : World) (av : Option Addr) (kv : Nat), RmI w g c so n sc L (mkN c L n (hasI P m) t) (.slice av (mkN c L n (hasI P m) t).Z.length kv) wr → mkN c L n (hasI P m) n = mkN c L n (hasI P m) t → ∀ (Q : List Int) (oo : Option Addr) (oc : Nat), Own wr w.heap.size 3 1 (.slice oo Q.length oc) Q.length (fun i => .int .i64 (lI Q i)) → StR L n Q (mkN c L n (hasI P m) t).given (mkN c L n (hasI P m) t).left (mkN c L n (hasI P m) t) → PP (.returned (.tuple #[.agg #[.slice oo Q.length oc, .slice av (mkN c L n (hasI P m) t).Z.length kv], .int .i64 0])) ((wr.setCell ⟨w.heap.size + 1, 0, none⟩ (.slice oo Q.length oc)).setCell ⟨w.heap.size + 1, 1, none⟩ (.slice av (mkN c L n (hasI P m) t).Z.length kv))) := fun t wr av kv hI he Q oo oc ho hst => by
    rw [HPP.out]
    have hq := q_own hst ho
    have hz := hI.own
    have hchg := (Chg.of_set wr (w.heap.size + 1) 0 (.slice oo Q.length oc)).trans (Chg.of_set _ (w.heap.size + 1) 1 (.slice av (mkN c L n (hasI P m) t).Z.length kv)) (fun _ _ t => t)
    refine ⟨_, _, rfl, (hI.low.setCell (by simp) _).setCell (by simp) _, ?_, ?_⟩
    · rw [he]
      exact hq.chg hchg (fun x hx e => hq.apart hI.res (by decide) (by rw [hx, e]))
    · rw [he]
      exact hz.chg hchg (fun x hx e => hz.apart hI.res (by decide) (by rw [hx, e]))
  clear HPP
  have HN4 := hidd (HNX.out w4 _ _ HI4.out 0 true)
  go_wp2_with (go_at_call 29; with_reducible refine HN4.out.mono ?_; rintro e w5 ⟨b0, rfl, hnx, hb5⟩)
  have HI5 := hidd (HI4.out.fresh hb5)
  have HX5 := hidd hnx
  clear hnx hb5 HN4 HI4
  go_loopw [10, 11] (fun v i wr => ∃ (b : Int) (t : Nat), i = .int .i64 b ∧ t ≤ n ∧ Hid (RmI w g c so n sc L (mkN c L n (hasI P m) t) v wr) ∧ ((b = -1 ∧ Hid (mkN c L n (hasI P m) n = mkN c L n (hasI P m) t)) ∨ ∃ j : Nat, b = (j : Int) ∧ j < n ∧ t < n ∧ Hid (er (L t) = er (S j)) ∧ Hid (hasI P m (L t).id = true))) (fun _ i _ => plc S L n (intOf i))
  case atStart =>
    rcases nx_first (c := c) HPO.out HX5.out with ⟨h1, h2⟩ | ⟨j, q, h1, h2, _, h3, h4, h5, h6⟩
    · exact ⟨b0, 0, rfl, Nat.zero_le _, HI5, .inl ⟨h1, h2⟩⟩
    · exact ⟨b0, q, rfl, by omega, by rw [h6]; exact HI5, .inr ⟨j, h1, h2, h3, h4, h5⟩⟩
  case round =>
    clear HI5 HX5
    obtain ⟨b, t, rfl, ht, HI, hcase⟩ := hrel
    obtain ⟨Q, oo, oc, k1, k2, k3⟩ := HI.out.wk
    have HWK := hidd k1
    have HOW := hidd k2
    have HST := hidd k3
    have inv := HIV.out t ht
    have i1 := inv.left0
    have i2 : (mkN c L n (hasI P m) t).left ≤ 1024 := by have := inv.sum; have := tot_nn (fun z hz => (inv.zs z hz).2.2.2.2.1); have := HOM.out.2.2.2.2.2.2.2.2.2.1; omega
    have g8 : wr.cell? ⟨g, 8, none⟩ = some (.int .i64 (mkN c L n (hasI P m) t).left) := World.rowIs.cell k1 (i := 8) (by decide)
    clear k1 k2 k3
    rcases hcase with ⟨rfl, HE⟩ | ⟨j, rfl, hj, htn, HER, HPK⟩
    · clear i1 i2
      obtain ⟨av, kv, rfl, _⟩ := HI.out.own.rd
      have g6 : wr.cell? ⟨g, 6, none⟩ = some (.slice oo Q.length oc) := World.rowIs.cell HWK.out (i := 6) (by decide)
      have r0 := HI.out.res.cell (i := 0) (by decide)
      have r1 := HI.out.res.cell (i := 1) (by decide)
      have fr := HI.out.res.frozen
      go_wp2
      (try simp only [Exit.inBlock, Exit.then]); refine bodyPost_ret (ret_plan rfl _ _ (w.heap.size + 1) _ _ _ rfl (two_set2 HI.out.res _ _) rfl) rfl ?_
      exact HEX.out t wr _ _ HI.out HE.out Q oo oc HOW.out HST.out
    · by_cases hl : 0 < (mkN c L n (hasI P m) t).left
      · have dl : decide (0 < (mkN c L n (hasI P m) t).left) = true := decide_eq_true hl
        have j0 : (0 : Int) ≤ (j : Int) := by omega
        have j1 : (j : Int) < (n : Int) := by omega
        have HRN : Hid (∀ (z : World) (v : Value) (b8 : Int), RmI w g c so n sc L (mkN c L n (hasI P m) (t + 1)) v z → NxR S n (S j).id false (hasI P m) b8 → (∃ (b : Int) (t' : Nat), Value.int .i64 b8 = .int .i64 b ∧ t' ≤ n ∧ Hid (RmI w g c so n sc L (mkN c L n (hasI P m) t') v z) ∧ ((b = -1 ∧ Hid (mkN c L n (hasI P m) n = mkN c L n (hasI P m) t')) ∨ ∃ j : Nat, b = (j : Int) ∧ j < n ∧ t' < n ∧ Hid (er (L t') = er (S j)) ∧ Hid (hasI P m (L t').id = true))) ∧ plc S L n (intOf (.int .i64 b8)) < plc S L n (intOf (.int .i64 (j : Int)))) := fun z v b8 hz hx => by
          rw [← er_id HER.out] at hx
          have hpj : plc S L n (intOf (.int .i64 (j : Int))) = n - t := plc_eq HPO.out htn HER.out
          rw [hpj]
          rcases nx_next (c := c) HPO.out htn hx with ⟨h1, h2⟩ | ⟨i, q, h1, h2, h3, h4, h5, h6, h7⟩
          · refine ⟨⟨b8, t + 1, rfl, htn, hz, .inl ⟨h1, h2⟩⟩, ?_⟩
            have : plc S L n (intOf (.int .i64 b8)) = 0 := by subst h1; rfl
            omega
          · refine ⟨⟨b8, q, rfl, by omega, by rw [h7]; exact hz, .inr ⟨i, h1, h2, h4, h5, h6⟩⟩, ?_⟩
            have : plc S L n (intOf (.int .i64 b8)) = n - q := by subst h1; exact plc_eq HPO.out h4 h5
            omega
        obtain ⟨av, kv, rfl, _⟩ := HI.out.own.rd
        obtain ⟨b1, o1, hso, hc1⟩ := (HS.out.fresh HI.out.low).rd.seat (by omega)
        obtain ⟨x0, x1, x2, x3, x4⟩ := hc1 j hj
        clear hc1
        subst hso
        go_upto_region 12 with fail
        have HF6 := hidd (fresh_alloc wr (.cells #[.int .i64 (S j).id, .int .i64 (S j).kn, .int .i64 (S j).ca, .int .i64 (S j).wa, .slice (S j).ho (S j).hn (S j).hc] 32))
        obtain ⟨t0, t1, t2, t3, t4⟩ := box5 wr (.int .i64 (S j).id) (.int .i64 (S j).kn) (.int .i64 (S j).ca) (.int .i64 (S j).wa) (.slice (S j).ho (S j).hn (S j).hc) 32
        have HI6 := hidd (HI.out.fresh HF6.out)
        have HXR6 := hidd (sbC_new wr (S j))
        have HWK6 := hidd (HWK.out.fresh HF6.out)
        have HOW6 := hidd (HOW.out.kept HF6.out)
        clear x0 x1 x2 x3 x4 g8
        generalize wr.alloc (.cells #[.int .i64 (S j).id, .int .i64 (S j).kn, .int .i64 (S j).ca, .int .i64 (S j).wa, .slice (S j).ho (S j).hn (S j).hc] 32) = w6 at *
        obtain ⟨xb, HXB⟩ : ∃ x, Hid (x = wr.heap.size) := ⟨_, rfl⟩
        rw [← HXB.out] at t0 t1 t2 t3 t4 HXR6 ⊢
        have g6 : w6.cell? ⟨g, 6, none⟩ = some (.slice oo Q.length oc) := World.rowIs.cell HWK6.out (i := 6) (by decide)
        have l0 := later_cell t0
        have l6 := later_cell g6
        have ne := later_some w6
        have A1 := hidd (fun z : Later w6 => ramong_any ((own_rda HOW6.out).fresh z.fresh) (S j).id)
        have hout : hasI (lI Q) Q.length (S j).id = (mkN c L n (hasI P m) t).out t := by rw [← er_id HER.out]; exact HST.out.out t htn
        rw [hout] at A1
        have HSTP := hidd (mkN_step (c := c) (L := L) (n := n) (q := t) (show (mkN c L n (hasI P m) t).left ≠ 0 by omega) HPK.out)
        cases hot : (mkN c L n (hasI P m) t).out t with
        | true =>
          rw [hot] at A1
          have HM1 : Hid (mkN c L n (hasI P m) (t + 1) = mkN c L n (hasI P m) t) := by rw [HSTP.out, hot]; rfl
          clear hout hot HSTP
          refine wp_region_later (by kernel_rfl) (by kernel_rfl) ?_
          repeat (go_big_quiet_step (fail))
          go_big_quiet_step (exact later_same (A1.out _))
          repeat (go_big_quiet_step (fail))
          refine wpQuiet_nil ?_
          rintro _ ⟨z, rfl⟩
          have HI7 := hidd (HI6.out.fresh z.fresh)
          have HWK7 := hidd (HWK6.out.fresh z.fresh)
          have HXR7 := hidd (HXR6.out.of_block (z.fresh.block _ HXR6.out.lt))
          have HOW7 := hidd (HOW6.out.kept z.fresh)
          have HT7 : Hid (z.val.cell? ⟨xb, 0, none⟩ = some (.int .i64 (S j).id) ∧ z.val.cell? ⟨xb, 1, none⟩ = some (.int .i64 (S j).kn) ∧ z.val.cell? ⟨xb, 2, none⟩ = some (.int .i64 (S j).ca) ∧ z.val.cell? ⟨xb, 3, none⟩ = some (.int .i64 (S j).wa) ∧ z.val.cell? ⟨xb, 4, none⟩ = some (.slice (S j).ho (S j).hn (S j).hc)) := ⟨later_cell t0 z, later_cell t1 z, later_cell t2 z, later_cell t3 z, later_cell t4 z⟩
          clear l0 l6 ne A1 t0 t1 t2 t3 t4 g6 HI6 HWK6 HOW6
          generalize z.val = w7 at *
          obtain ⟨t0, t1, t2, t3, t4⟩ := HT7.out
          have HII : Hid (RmI w g c (some ⟨b1, o1, none⟩) n sc L (mkN c L n (hasI P m) (t + 1)) (.slice av (mkN c L n (hasI P m) t).Z.length kv) w7) := by rw [HM1.out]; exact HI7
          have HNN := hidd (HNX.out w7 _ _ HII.out (S j).id false)
          go_wp2_with (go_at_call 29; with_reducible refine HNN.out.mono ?_; rintro e wn ⟨bn, rfl, hnx, hbn⟩)
          have HZN := hidd (HRN.out _ _ _ (HII.out.fresh hbn) hnx)
          clear hnx hbn
          go_roundw
          case rel => exact HZN.out.1
          case measure => exact HZN.out.2
        | false =>
          rw [hot] at A1
          have HM1 : Hid (mkN c L n (hasI P m) (t + 1) = lok c L n t (mkN c L n (hasI P m) t)) := by rw [HSTP.out, hot]; rfl
          clear hout hot HSTP
          refine wp_region_later (by kernel_rfl) (by kernel_rfl) ?_
          repeat (go_big_quiet_step (fail))
          go_big_quiet_step (exact later_same (A1.out _))
          repeat (go_big_quiet_step (fail))
          refine wpQuiet_nil ?_
          rintro _ ⟨z, rfl⟩
          have HI7 := hidd (HI6.out.fresh z.fresh)
          have HWK7 := hidd (HWK6.out.fresh z.fresh)
          have HXR7 := hidd (HXR6.out.of_block (z.fresh.block _ HXR6.out.lt))
          have HOW7 := hidd (HOW6.out.kept z.fresh)
          have HT7 : Hid (z.val.cell? ⟨xb, 0, none⟩ = some (.int .i64 (S j).id) ∧ z.val.cell? ⟨xb, 1, none⟩ = some (.int .i64 (S j).kn) ∧ z.val.cell? ⟨xb, 2, none⟩ = some (.int .i64 (S j).ca) ∧ z.val.cell? ⟨xb, 3, none⟩ = some (.int .i64 (S j).wa) ∧ z.val.cell? ⟨xb, 4, none⟩ = some (.slice (S j).ho (S j).hn (S j).hc)) := ⟨later_cell t0 z, later_cell t1 z, later_cell t2 z, later_cell t3 z, later_cell t4 z⟩
          clear l0 l6 ne A1 t0 t1 t2 t3 t4 g6 HI6 HWK6 HOW6
          generalize z.val = w7 at *
          obtain ⟨t0, t1, t2, t3, t4⟩ := HT7.out
          have hql : Q.length ≤ 1000 := by
            have e : Q.length = (mkN c L n (hasI P m) t).O.length := by rw [HST.out.q]; simp
            have := inv.olen
            omega
          have i3 := inv.g0
          have i4 := inv.gbd
          have hj7 : (S j).hn ≤ 256 := by
            have h1 := HOA.out.2.1 j hj
            have h2 := okB_le h1.2.2.2.2.2 HOM.out.2.2.2.1 HOM.out.2.2.1
            have := HOM.out.2.2.2.1
            omega
          have HSV := hidd (serve_any HWK7.out (fun z hz => HS.out.fresh (hz.below HI7.out.low HI7.out.low.size (fun x e => by have := HI7.out.gle; omega))) hn HOM.out i3 (by omega) hl i2 HOW7.out HI7.out.low.size hql (S j) (HOA.out.2.1 j hj) hj7 HPO.out (fun q hq => (HOS.out q hq).2.2.2.2.2) htn HER.out.symm HST.out inv.free)
          have HSE : Hid (seV (S j) = .agg #[.int .i64 (S j).id, .int .i64 (S j).kn, .int .i64 (S j).ca, .int .i64 (S j).wa, .slice (S j).ho (S j).hn (S j).hc]) := rfl
          rw [HSE.out] at HSV
          go_upto_region 14 with (go_at_call 31; with_reducible refine HSV.out.mono ?_; rintro e w8 ⟨a1, a2, a3, bb, rfl, HSA⟩)
          have hxg : ¬ xb = g := by have := HXB.out; have := HI.out.glt; omega
          have HXR8 := hidd (HSA.out.1.row HXR7.out hxg)
          have HXR9 := hidd (HXR8.out.of_block ((fresh_alloc w8 (.cells #[.int .i64 a1, .int .i64 a2, .int .i64 a3] 45)).block _ HXR8.out.lt))
          have HP9 := hidd ((HI7.out.serve HSA.out).fresh (fresh_alloc w8 (.cells #[.int .i64 a1, .int .i64 a2, .int .i64 a3] 45)))
          replace t0 := fresh_cell (fresh_alloc w8 (.cells #[.int .i64 a1, .int .i64 a2, .int .i64 a3] 45)) (HSA.out.1.cell t0 hxg)
          have y0 : (w8.alloc (.cells #[.int .i64 a1, .int .i64 a2, .int .i64 a3] 45)).cell? ⟨w8.heap.size, 0, none⟩ = some (.int .i64 a1) := (tri_new w8 a1 a2 a3).cell (i := 0) (by decide)
          have y1 : (w8.alloc (.cells #[.int .i64 a1, .int .i64 a2, .int .i64 a3] 45)).cell? ⟨w8.heap.size, 1, none⟩ = some (.int .i64 a2) := (tri_new w8 a1 a2 a3).cell (i := 1) (by decide)
          have y2 : (w8.alloc (.cells #[.int .i64 a1, .int .i64 a2, .int .i64 a3] 45)).cell? ⟨w8.heap.size, 2, none⟩ = some (.int .i64 a3) := (tri_new w8 a1 a2 a3).cell (i := 2) (by decide)
          have hcs : (bb = false ∧ (lok c L n t (mkN c L n (hasI P m) t)).Z = (mkN c L n (hasI P m) t).Z) ∨ (bb = true ∧ ∃ am, (lok c L n t (mkN c L n (hasI P m) t)).Z = (mkN c L n (hasI P m) t).Z ++ [(t, am)] ∧ slc L (t, am) = (a1, a2, a3)) := by
            obtain ⟨_, _, _, _, _, _, _, _, _, h⟩ := HSA.out
            exact h
          clear t1 t2 t3 t4 HSA HSV HI7 HWK7 HOW7 HT7
          generalize w8.alloc (.cells #[.int .i64 a1, .int .i64 a2, .int .i64 a3] 45) = w9 at *
          obtain ⟨yb, HYB⟩ : ∃ x, Hid (x = w8.heap.size) := ⟨_, rfl⟩
          rw [← HYB.out] at y0 y1 y2 ⊢
          rcases hcs with ⟨rfl, hz⟩ | ⟨rfl, am, hz, hsl⟩
          · have HII : Hid (RmI w g c (some ⟨b1, o1, none⟩) n sc L (mkN c L n (hasI P m) (t + 1)) (.slice av (mkN c L n (hasI P m) t).Z.length kv) w9) := by rw [HM1.out]; exact HP9.out.all hz
            clear hz y0 y1 y2
            have HNN := hidd (HNX.out w9 _ _ HII.out (S j).id false)
            go_wp2_with (go_at_call 29; with_reducible refine HNN.out.mono ?_; rintro e wn ⟨bn, rfl, hnx, hbn⟩)
            have HZN := hidd (HRN.out _ _ _ (HII.out.fresh hbn) hnx)
            clear hnx hbn
            go_roundw
            case rel => exact HZN.out.1
            case measure => exact HZN.out.2
          · have hzl : (mkN c L n (hasI P m) t).Z.length ≤ 16 := by have := inv.zlen; omega
            have HLN : Hid ((lok c L n t (mkN c L n (hasI P m) t)).Z.length = (mkN c L n (hasI P m) t).Z.length + 1) := by rw [hz]; show _ = _; simp
            have HZZ := hidd hz
            have HOX : Hid (Own w9 w.heap.size 45 3 (.slice av (mkN c L n (hasI P m) t).Z.length kv) (mkN c L n (hasI P m) t).Z.length (slF L ((mkN c L n (hasI P m) t).Z ++ [(t, am)]))) := HP9.out.own.congr (fun j hj => (slF_app L _ _ (by omega)).symm)
            have HCX : Hid (∀ j, j < 1 * 3 → (w9.alloc (.cells #[.int .i64 a1, .int .i64 a2, .int .i64 a3] 45)).cell? ⟨w9.heap.size, j, none⟩ = some (slF L ((mkN c L n (hasI P m) t).Z ++ [(t, am)]) ((mkN c L n (hasI P m) t).Z.length * 3 + j))) := fun j hj => by
              obtain ⟨f0, f1, f2⟩ := slF_new L (mkN c L n (hasI P m) t).Z (t, am)
              rw [hsl] at f0 f1 f2
              have hr := tri_new w9 a1 a2 a3
              have : j = 0 ∨ j = 1 ∨ j = 2 := by omega
              rcases this with rfl | rfl | rfl
              · rw [f0]; exact hr.cell (i := 0) (by decide)
              · rw [f1]; exact hr.cell (i := 1) (by decide)
              · rw [f2]; exact hr.cell (i := 2) (by decide)
            have hs9 : w.heap.size ≤ w9.heap.size := HP9.out.low.size
            clear hz hsl
            go_upto_region 16 with (at_builtin; refine wpList_app _ rfl _ _ 26 rfl w.heap.size 45 (.agg #[.int .i64 0, .int .i64 0, .int .i64 0]) 3 24 Try.underlying26 infoSl rfl (by decide) _ (mkN c L n (hasI P m) t).Z.length (slF L ((mkN c L n (hasI P m) t).Z ++ [(t, am)])) rfl (HOX.out.kept (fresh_alloc _ _)) w9.heap.size 1 1 rfl HCX.out (fun j _ => slF_one _ _ _) (by decide) (by unfold maxLen; omega) (by omega) (by simp; omega) ?_; intro v10 w10 ho10 ha10)
            obtain ⟨av2, kv2, rfl, _⟩ := ho10.rd
            have HII : Hid (RmI w g c (some ⟨b1, o1, none⟩) n sc L (mkN c L n (hasI P m) (t + 1)) (.slice av2 ((mkN c L n (hasI P m) t).Z.length + 1) kv2) w10) := by
              rw [HM1.out]
              refine (HP9.out.fresh (fresh_alloc w9 _)).put ha10 ?_
              rw [HLN.out, HZZ.out]
              exact ho10
            have HTT := hidd (HP9.out.fresh (fresh_alloc w9 (.cells #[.int .i64 a1, .int .i64 a2, .int .i64 a3] 45)))
            have HXRA := hidd (HXR9.out.of_block ((fresh_alloc w9 (.cells #[.int .i64 a1, .int .i64 a2, .int .i64 a3] 45)).block _ HXR9.out.lt))
            replace t0 : w10.cell? ⟨xb, 0, none⟩ = some (.int .i64 (S j).id) := (ha10.row HXRA.out (HTT.out.own.apart HXRA.out (by decide))).cell (i := 0) (by decide)
            clear ho10 ha10 y0 y1 y2
            have HNN := hidd (HNX.out w10 _ _ HII.out (S j).id false)
            go_wp2_with (go_at_call 29; with_reducible refine HNN.out.mono ?_; rintro e wn ⟨bn, rfl, hnx, hbn⟩)
            have HZN := hidd (HRN.out _ _ _ (HII.out.fresh hbn) hnx)
            clear hnx hbn
            go_roundw
            case rel => exact HZN.out.1
            case measure => exact HZN.out.2
      · have HE : Hid (mkN c L n (hasI P m) n = mkN c L n (hasI P m) t) := mkN_over (by omega) n ht
        have j0 : (0 : Int) ≤ (j : Int) := by omega
        have dl : decide (0 < (mkN c L n (hasI P m) t).left) = false := decide_eq_false hl
        obtain ⟨av, kv, rfl, _⟩ := HI.out.own.rd
        have g6 : wr.cell? ⟨g, 6, none⟩ = some (.slice oo Q.length oc) := World.rowIs.cell HWK.out (i := 6) (by decide)
        have r0 := HI.out.res.cell (i := 0) (by decide)
        have r1 := HI.out.res.cell (i := 1) (by decide)
        have fr := HI.out.res.frozen
        go_wp2
        (try simp only [Exit.inBlock, Exit.then]); refine bodyPost_ret (ret_plan rfl _ _ (w.heap.size + 1) _ _ _ rfl (two_set2 HI.out.res _ _) rfl) rfl ?_
        exact HEX.out t wr _ _ HI.out HE.out Q oo oc HOW.out HST.out
end Go.Proofs.Ytdceahebkohbjab
