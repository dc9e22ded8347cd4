import Derived.Test.YtilghknalbhacaaJAP
import Derived.Test.YtilghknalbhacaaJAK
namespace Go.Proofs.Ytilghknalbhacaa
open Go.RowKit
/-! Weights that are put together in a block of their own: the program's reader. -/
theorem wtc_E (x : WtD) (m : MtD) (t : Nat) (ht : t < 18) : (if t = 10 then Value.slice m.O m.n m.c else if t = 9 then .int .i64 m.C else if t = 8 then .int .i64 m.R else wtc x t) = wtc { x with E := m } t := by
  match t, ht with
  | 0, _ | 1, _ | 2, _ | 3, _ | 4, _ | 5, _ | 6, _ | 7, _ | 8, _ | 9, _ | 10, _ | 11, _ | 12, _ | 13, _ | 14, _ | 15, _ | 16, _ | 17, _ => rfl
  | j + 18, h => exact absurd h (by omega)
theorem wtc_Q (x : WtD) (m : MtD) (t : Nat) (ht : t < 18) : (if t = 16 then Value.slice m.O m.n m.c else if t = 15 then .int .i64 m.C else if t = 14 then .int .i64 m.R else wtc x t) = wtc { x with Q := m } t := by
  match t, ht with
  | 0, _ | 1, _ | 2, _ | 3, _ | 4, _ | 5, _ | 6, _ | 7, _ | 8, _ | 9, _ | 10, _ | 11, _ | 12, _ | 13, _ | 14, _ | 15, _ | 16, _ | 17, _ => rfl
  | j + 18, h => exact absurd h (by omega)
theorem wtc_F (x : WtD) (m : LsD) (t : Nat) (ht : t < 18) : (if t = 13 then Value.slice m.O m.n m.c else wtc x t) = wtc { x with F := m } t := by
  match t, ht with
  | 0, _ | 1, _ | 2, _ | 3, _ | 4, _ | 5, _ | 6, _ | 7, _ | 8, _ | 9, _ | 10, _ | 11, _ | 12, _ | 13, _ | 14, _ | 15, _ | 16, _ | 17, _ => rfl
  | j + 18, h => exact absurd h (by omega)
theorem wtc_T (x : WtD) (o : Option Addr) (n c : Nat) (C S : Nat → Int) (t : Nat) (ht : t < 18) : (if t = 11 then Value.slice o n c else wtc x t) = wtc { x with tO := o, tn := n, tc := c, tC := C, tS := S } t := by
  match t, ht with
  | 0, _ | 1, _ | 2, _ | 3, _ | 4, _ | 5, _ | 6, _ | 7, _ | 8, _ | 9, _ | 10, _ | 11, _ | 12, _ | 13, _ | 14, _ | 15, _ | 16, _ | 17, _ => rfl
  | j + 18, h => exact absurd h (by omega)
theorem Own.putCells {base : Nat} {e : TypeId} {sz g cap n : Nat} : ∀ (vs : List Value) (o : Nat) (w : World) (cs : Nat → Value), Own w base e sz (.slice (some ⟨g, 0, none⟩) n cap) n cs → Own (w.setCells g o vs) base e sz (.slice (some ⟨g, 0, none⟩) n cap) n (fun i => if o ≤ i ∧ i < o + vs.length then vs.getD (i - o) undef else cs i)
  | [], o, w, cs, h => h.congr (fun j _ => (if_neg (by simp)).symm)
  | v :: r, o, w, cs, h => by
    refine (Own.putCells r (o + 1) (w.setCell ⟨g, o, none⟩ v) _ (h.put o v)).congr (fun j _ => ?_)
    by_cases e1 : j = o
    · subst e1
      rw [if_neg (by omega), if_pos rfl, if_pos (by simp), Nat.sub_self]
      rfl
    · by_cases e2 : o + 1 ≤ j ∧ j < o + 1 + r.length
      · rw [if_pos e2, if_pos (by rw [List.length_cons]; omega), show j - o = (j - (o + 1)) + 1 by omega]
        rfl
      · rw [if_neg e2, if_neg e1, if_neg (by rw [List.length_cons]; omega)]
theorem lyc_upd (ly : Nat → LyD) (k : Nat) (l : LyD) (j : Nat) : (if k * 30 ≤ j ∧ j < k * 30 + (lyL l).length then (lyL l).getD (j - k * 30) undef else lyc ly j) = lyc (updY ly k l) j := by
  have hl : (lyL l).length = 30 := rfl
  rw [hl]
  unfold lyc updY
  by_cases h : j / 30 = k
  · rw [if_pos (by omega), if_pos h, show j - k * 30 = j % 30 by omega]
  · rw [if_neg (by omega), if_neg h]
structure Ws (w wx : World) (r wl : Nat) (cf : List Int) (x : WtD) : Prop where
  box : wx.rowIs w.heap.size 23 8 (fun i => .int .i64 (cf.getD i 0))
  res : wx.rowIs (w.heap.size + 1) 34 18 (fun i => wtZ.getD i undef)
  loc : wx.rowIs wl 34 18 (wtc x)
  oE : OwM w wx x.E
  oQ : OwM w wx x.Q
  oF : OwS w wx x.F
  oT : Own wx (w.heap.size + 2) 97 2 (.slice x.tO x.tn x.tc) x.tn (tcs x.tC x.tS)
  oY : Own wx (w.heap.size + 2) 67 30 (.slice x.yO x.yn x.yc) x.yn (lyc x.ly)
  oM : Own wx (w.heap.size + 2) 29 3 (.slice x.mO x.mn x.mc) x.mn (mtc x.md)
  dY : ∀ j, j < x.yn → Lo wx (w.heap.size + 2) (x.ly j)
  dM : ∀ j, j < x.mn → OwM w wx (x.md j)
  chg : Chg w wx (fun b => b = r)
  hl : w.heap.size + 2 ≤ wl
theorem Ws.size {w wx : World} {r wl : Nat} {cf : List Int} {x : WtD} (h : Ws w wx r wl cf x) : wl < wx.heap.size := h.loc.lt
/-- what a call that changes T alone leaves -/
theorem Ws.mv {w wx wy : World} {r wl : Nat} {cf : List Int} {x : WtD} {T : Nat → Prop} (h : Ws w wx r wl cf x) (c : Chg wx wy T) (t0 : ¬ T w.heap.size) (t1 : ¬ T (w.heap.size + 1)) (t2 : ¬ T wl) (hT : ∀ b, w.heap.size + 2 ≤ b → b ≠ wl → ¬ T b) (hr : ∀ b, b < w.heap.size → T b → b = r) : Ws w wy r wl cf x := by
  have k : ∀ {e : TypeId} {sz n : Nat} {v : Value} {cs : Nat → Value}, e ≠ 34 → Own wx (w.heap.size + 2) e sz v n cs → Own wy (w.heap.size + 2) e sz v n cs := fun he ho => ho.chg c (fun b e => hT b (ho.lt b e).1 (fun e2 => ho.apart h.loc he (e2 ▸ e)))
  exact ⟨c.row h.box t0, c.row h.res t1, c.row h.loc t2, k (by decide) h.oE, k (by decide) h.oQ, k (by decide) h.oF, k (by decide) h.oT, k (by decide) h.oY, k (by decide) h.oM, fun j hj => ⟨k (by decide) (h.dY j hj).n1, k (by decide) (h.dY j hj).n2, fun q hq => k (by decide) ((h.dY j hj).mt q hq)⟩, fun j hj => k (by decide) (h.dM j hj), h.chg.trans c hr, h.hl⟩
theorem Ws.call {w wx wy : World} {r wl : Nat} {cf : List Int} {x : WtD} (h : Ws w wx r wl cf x) (hr : r < w.heap.size) (c : Chg wx wy (fun b => b = r)) : Ws w wy r wl cf x := by
  have := h.hl
  exact h.mv c (by omega) (by omega) (by omega) (fun b hb _ => by omega) (fun _ _ e => e)
theorem Ws.fresh {w wx wy : World} {r wl : Nat} {cf : List Int} {x : WtD} (h : Ws w wx r wl cf x) (f : Below wx.heap.size wx wy) : Ws w wy r wl cf x := h.mv (Chg.of_below (fun _ => False) f) (fun e => e) (fun e => e) (fun e => e) (fun _ _ _ e => e) (fun _ _ e => e.elim)
/-- a field of the box is written -/
theorem Ws.fld {w wx wy : World} {r wl : Nat} {cf : List Int} {x y : WtD} (h : Ws w wx r wl cf x) (c : Chg wx wy (fun b => b = wl)) (hl : wy.rowIs wl 34 18 (wtc y)) (oE : OwM w wx y.E) (oQ : OwM w wx y.Q) (oF : OwS w wx y.F) (oT : Own wx (w.heap.size + 2) 97 2 (.slice y.tO y.tn y.tc) y.tn (tcs y.tC y.tS)) (hy : y.yO = x.yO ∧ y.yn = x.yn ∧ y.yc = x.yc ∧ y.ly = x.ly) (hm : y.mO = x.mO ∧ y.mn = x.mn ∧ y.mc = x.mc ∧ y.md = x.md) : Ws w wy r wl cf y := by
  have k : ∀ {e : TypeId} {sz n : Nat} {v : Value} {cs : Nat → Value}, e ≠ 34 → Own wx (w.heap.size + 2) e sz v n cs → Own wy (w.heap.size + 2) e sz v n cs := fun he ho => ho.chg c (fun b e e2 => ho.apart h.loc he (e2 ▸ e))
  have := h.hl
  obtain ⟨y1, y2, y3, y4⟩ := hy
  obtain ⟨m1, m2, m3, m4⟩ := hm
  refine ⟨c.row h.box (by omega), c.row h.res (by omega), hl, k (by decide) oE, k (by decide) oQ, k (by decide) oF, k (by decide) oT, ?_, ?_, ?_, ?_, h.chg.trans c (fun b hb e => by omega), h.hl⟩
  · rw [y1, y2, y3, y4]; exact k (by decide) h.oY
  · rw [m1, m2, m3, m4]; exact k (by decide) h.oM
  · rw [y2, y4]; exact fun j hj => ⟨k (by decide) (h.dY j hj).n1, k (by decide) (h.dY j hj).n2, fun q hq => k (by decide) ((h.dY j hj).mt q hq)⟩
  · rw [m2, m4]; exact fun j hj => k (by decide) (h.dM j hj)
theorem chg3 (wx : World) (g a b c : Nat) (u v t : Value) : Chg wx (((wx.setCell ⟨g, a, none⟩ u).setCell ⟨g, b, none⟩ v).setCell ⟨g, c, none⟩ t) (fun x => x = g) := ((Chg.of_set wx _ _ _).trans (Chg.of_set _ _ _ _) (fun _ _ e => e)).trans (Chg.of_set _ _ _ _) (fun _ _ e => e)
theorem Ws.setE {w wx : World} {r wl : Nat} {cf : List Int} {x : WtD} (h : Ws w wx r wl cf x) (m : MtD) (hm : OwM w wx m) : Ws w (((wx.setCell ⟨wl, 8, none⟩ (.int .i64 m.R)).setCell ⟨wl, 9, none⟩ (.int .i64 m.C)).setCell ⟨wl, 10, none⟩ (.slice m.O m.n m.c)) r wl cf { x with E := m } :=
  h.fld (chg3 wx wl 8 9 10 _ _ _) ((((h.loc.set 8 _).set 9 _).set 10 _).congr (fun t ht => wtc_E x m t ht)) hm h.oQ h.oF h.oT ⟨rfl, rfl, rfl, rfl⟩ ⟨rfl, rfl, rfl, rfl⟩
theorem Ws.setQ {w wx : World} {r wl : Nat} {cf : List Int} {x : WtD} (h : Ws w wx r wl cf x) (m : MtD) (hm : OwM w wx m) : Ws w (((wx.setCell ⟨wl, 14, none⟩ (.int .i64 m.R)).setCell ⟨wl, 15, none⟩ (.int .i64 m.C)).setCell ⟨wl, 16, none⟩ (.slice m.O m.n m.c)) r wl cf { x with Q := m } :=
  h.fld (chg3 wx wl 14 15 16 _ _ _) ((((h.loc.set 14 _).set 15 _).set 16 _).congr (fun t ht => wtc_Q x m t ht)) h.oE hm h.oF h.oT ⟨rfl, rfl, rfl, rfl⟩ ⟨rfl, rfl, rfl, rfl⟩
theorem Ws.setF {w wx : World} {r wl : Nat} {cf : List Int} {x : WtD} (h : Ws w wx r wl cf x) (m : LsD) (hm : OwS w wx m) : Ws w (wx.setCell ⟨wl, 13, none⟩ (.slice m.O m.n m.c)) r wl cf { x with F := m } :=
  h.fld (Chg.of_set wx wl 13 _) ((h.loc.set 13 _).congr (fun t ht => wtc_F x m t ht)) h.oE h.oQ hm h.oT ⟨rfl, rfl, rfl, rfl⟩ ⟨rfl, rfl, rfl, rfl⟩
theorem Ws.setT {w wx : World} {r wl : Nat} {cf : List Int} {x : WtD} (h : Ws w wx r wl cf x) (o : Option Addr) (n c : Nat) (C S : Nat → Int) (ht : Own wx (w.heap.size + 2) 97 2 (.slice o n c) n (tcs C S)) : Ws w (wx.setCell ⟨wl, 11, none⟩ (.slice o n c)) r wl cf { x with tO := o, tn := n, tc := c, tC := C, tS := S } :=
  h.fld (Chg.of_set wx wl 11 _) ((h.loc.set 11 _).congr (fun t ht => wtc_T x o n c C S t ht)) h.oE h.oQ h.oF ht ⟨rfl, rfl, rfl, rfl⟩ ⟨rfl, rfl, rfl, rfl⟩
theorem Ws.setM {w wx : World} {r wl : Nat} {cf : List Int} {x : WtD} (h : Ws w wx r wl cf x) {g : Nat} (hg : x.mO = some ⟨g, 0, none⟩) (k : Nat) (m : MtD) (hm : OwM w wx m) : Ws w (((wx.setCell ⟨g, k * 3, none⟩ (.int .i64 m.R)).setCell ⟨g, k * 3 + 1, none⟩ (.int .i64 m.C)).setCell ⟨g, k * 3 + 2, none⟩ (.slice m.O m.n m.c)) r wl cf { x with md := updM x.md k m } := by
  have oM := h.oM
  rw [hg] at oM
  have hb := (oM.lt g (by simp [Value.ownBlock])).1
  have c := chg3 wx g (k * 3) (k * 3 + 1) (k * 3 + 2) (.int .i64 m.R) (.int .i64 m.C) (.slice m.O m.n m.c)
  have hw : ¬ wl = g := fun e => oM.apart h.loc (by decide) (by simp [Value.ownBlock, e])
  have kk : ∀ {e : TypeId} {sz n : Nat} {v : Value} {cs : Nat → Value}, e ≠ 29 → Own wx (w.heap.size + 2) e sz v n cs → Own (((wx.setCell ⟨g, k * 3, none⟩ (.int .i64 m.R)).setCell ⟨g, k * 3 + 1, none⟩ (.int .i64 m.C)).setCell ⟨g, k * 3 + 2, none⟩ (.slice m.O m.n m.c)) (w.heap.size + 2) e sz v n cs := fun he ho => ho.chg c (fun b e e2 => ne_of_T ho oM he (e2 ▸ e))
  refine ⟨c.row h.box (by omega), c.row h.res (by omega), c.row h.loc hw, kk (by decide) h.oE, kk (by decide) h.oQ, kk (by decide) h.oF, kk (by decide) h.oT, kk (by decide) h.oY, ?_, fun j hj => ⟨kk (by decide) (h.dY j hj).n1, kk (by decide) (h.dY j hj).n2, fun q hq => kk (by decide) ((h.dY j hj).mt q hq)⟩, fun j hj => ?_, h.chg.trans c (fun b hb2 e => by omega), h.hl⟩
  · show Own _ _ _ _ (.slice x.mO x.mn x.mc) _ _
    rw [hg]
    exact (((oM.put (k * 3) (.int .i64 m.R)).put (k * 3 + 1) (.int .i64 m.C)).put (k * 3 + 2) (.slice m.O m.n m.c)).congr (fun j _ => mtc_upd x.md k m j)
  · show OwM w _ (updM x.md k m j)
    unfold updM
    by_cases e : j = k
    · rw [if_pos e]; exact kk (by decide) hm
    · rw [if_neg e]; exact kk (by decide) (h.dM j hj)
theorem Ws.setY {w wx : World} {r wl : Nat} {cf : List Int} {x : WtD} (h : Ws w wx r wl cf x) {g : Nat} (hg : x.yO = some ⟨g, 0, none⟩) (k : Nat) (l : LyD) (hm : Lo wx (w.heap.size + 2) l) : Ws w (wx.setCells g (k * 30) (lyL l)) r wl cf { x with ly := updY x.ly k l } := by
  have oY := h.oY
  rw [hg] at oY
  have hb := (oY.lt g (by simp [Value.ownBlock])).1
  have c := Chg.of_setCells g (lyL l) (k * 30) wx
  have hw : ¬ wl = g := fun e => oY.apart h.loc (by decide) (by simp [Value.ownBlock, e])
  have kk : ∀ {e : TypeId} {sz n : Nat} {v : Value} {cs : Nat → Value}, e ≠ 67 → Own wx (w.heap.size + 2) e sz v n cs → Own (wx.setCells g (k * 30) (lyL l)) (w.heap.size + 2) e sz v n cs := fun he ho => ho.chg c (fun b e e2 => ne_of_T ho oY he (e2 ▸ e))
  refine ⟨c.row h.box (by omega), c.row h.res (by omega), c.row h.loc hw, kk (by decide) h.oE, kk (by decide) h.oQ, kk (by decide) h.oF, kk (by decide) h.oT, ?_, kk (by decide) h.oM, fun j hj => ?_, fun j hj => kk (by decide) (h.dM j hj), h.chg.trans c (fun b hb2 e => by omega), h.hl⟩
  · show Own _ _ _ _ (.slice x.yO x.yn x.yc) _ _
    rw [hg]
    exact (Own.putCells (lyL l) (k * 30) wx _ oY).congr (fun j _ => lyc_upd x.ly k l j)
  · show Lo _ _ (updY x.ly k l j)
    unfold updY
    by_cases e : j = k
    · rw [if_pos e]; exact ⟨kk (by decide) hm.n1, kk (by decide) hm.n2, fun q hq => kk (by decide) (hm.mt q hq)⟩
    · rw [if_neg e]; exact ⟨kk (by decide) (h.dY j hj).n1, kk (by decide) (h.dY j hj).n2, fun q hq => kk (by decide) ((h.dY j hj).mt q hq)⟩
/-! The bytes between the measures and the digest. -/
def Rep (S : List Int → Prop) : Nat → List Int → Prop
  | 0 => fun X => X = []
  | k + 1 => Two (Rep S k) S
def yB (ly : Nat → LyD) : Nat → List Int
  | 0 => []
  | k + 1 => yB ly k ++ secL 76 (lyB (ly k))
def mdB (md : Nat → MtD) : Nat → List Int
  | 0 => []
  | k + 1 => mdB md k ++ secL 77 (nbL (md k).f (md k).n)
theorem yB_upd (ly : Nat → LyD) (i : Nat) (l : LyD) : ∀ k, k ≤ i → yB (updY ly i l) k = yB ly k
  | 0, _ => rfl
  | k + 1, h => by
    show yB (updY ly i l) k ++ secL 76 (lyB (updY ly i l k)) = yB ly k ++ secL 76 (lyB (ly k))
    rw [yB_upd ly i l k (by omega), show updY ly i l k = ly k from if_neg (by omega)]
theorem yB_next (ly : Nat → LyD) (k : Nat) (l : LyD) : yB (updY ly k l) (k + 1) = yB ly k ++ secL 76 (lyB l) := by
  show yB (updY ly k l) k ++ secL 76 (lyB (updY ly k l k)) = _
  rw [yB_upd ly k l k (Nat.le_refl _), show updY ly k l k = l from if_pos rfl]
theorem mdB_upd (md : Nat → MtD) (i : Nat) (m : MtD) : ∀ k, k ≤ i → mdB (updM md i m) k = mdB md k
  | 0, _ => rfl
  | k + 1, h => by
    show mdB (updM md i m) k ++ secL 77 (nbL (updM md i m k).f (updM md i m k).n) = mdB md k ++ secL 77 (nbL (md k).f (md k).n)
    rw [mdB_upd md i m k (by omega), show updM md i m k = md k from if_neg (by omega)]
theorem mdB_next (md : Nat → MtD) (k : Nat) (m : MtD) : mdB (updM md k m) (k + 1) = mdB md k ++ secL 77 (nbL m.f m.n) := by
  show mdB (updM md k m) k ++ secL 77 (nbL (updM md k m k).f (updM md k m k).n) = _
  rw [mdB_upd md k m k (Nat.le_refl _), show updM md k m k = m from if_pos rfl]
end Go.Proofs.Ytilghknalbhacaa
namespace Go.Proofs.Ytilghknalbhacaa
open Go.RowKit
/-! The reader's weights: what it begins with. -/
theorem madeRow (w : World) (zs : List Value) (f : Nat → Value) (m : Nat) (t : TypeId) (h0 : 0 < zs.length) (hf : ∀ i, i < m → zs.getD (i % zs.length) undef = f i) : (w.alloc (.cells (madeCells zs.toArray m) t)).rowIs w.heap.size t m f :=
  ⟨_, Go.Deep.blk_alloc_new _ _, size_madeCells _ _, fun i hi => by
    have hk := Nat.mod_lt i h0
    rw [← hf i hi]
    unfold madeCells
    rw [Array.getElem?_map, Array.getElem?_range, if_pos hi, Option.map_some]
    simp [List.getD_eq_getElem?_getD, hk]⟩
theorem own_of_rows {w : World} {base gb cap n sz : Nat} {e : TypeId} {F cs : Nat → Value} (hr : w.rowIs gb e (cap * sz) F) (hb : base ≤ gb) (hn : n ≤ cap) (hc : cap ≤ maxLen) (hF : ∀ j, j < n * sz → F j = cs j) : Own w base e sz (.slice (some ⟨gb, 0, none⟩) n cap) n cs := by
  obtain ⟨c, h1, h2, h3⟩ := hr
  have hns : n * sz ≤ cap * sz := Nat.mul_le_mul_right _ hn
  refine ⟨by simp, .inr ⟨gb, cap, c, rfl, hb, h1, hn, hc, h2, ?_⟩⟩
  refine List.ext_getElem? (fun j => ?_)
  by_cases hj : j < n * sz
  · rw [List.getElem?_take, if_pos (by omega), List.getElem?_map, List.getElem?_range hj, Option.map_some, Array.getElem?_toList, h3 j (by omega), hF j hj]
  · rw [List.getElem?_eq_none (by simp; omega), List.getElem?_eq_none (by simp; omega)]
def mtO0 : MtD := ⟨0, 0, none, 0, 0, fun _ => 0⟩
theorem infoLy9 : (Try.prog.info? 67).map (fun i => (i.zero, i.size, i.bytes)) = some (some (.agg lyZ.toArray), 30, 384) := by kernel_rfl
theorem infoMt9 : (Try.prog.info? 29).map (fun i => (i.zero, i.size, i.bytes)) = some (some (.agg (mtL mtO0).toArray), 3, 40) := by kernel_rfl
theorem run_make_ly (n : Nat) (hn : n ≤ 1048576) (w : World) : (Instr.makeSlice 31 (.int .i64 (n : Int)) (.int .i64 (n : Int))).run Try.prog w = .ok (.slice (some ⟨w.heap.size, 0, none⟩) n n) (w.alloc (.cells (madeCells lyZ.toArray (n * 30)) 67)) := by
  obtain ⟨i, hi, z0, z1, z2⟩ := info_parts infoLy9
  have hr := run_make (P := Try.prog) w 31 67 i _ Try.underlying31 hi z0 .i64 .i64 n n (by omega) (Int.le_refl _) (by rw [z2]; omega) (by omega)
  simp only [Int.toNat_natCast, z1] at hr
  exact hr
theorem run_make_mt (n : Nat) (hn : n ≤ 1048576) (w : World) : (Instr.makeSlice 32 (.int .i64 (n : Int)) (.int .i64 (n : Int))).run Try.prog w = .ok (.slice (some ⟨w.heap.size, 0, none⟩) n n) (w.alloc (.cells (madeCells (mtL mtO0).toArray (n * 3)) 29)) := by
  obtain ⟨i, hi, z0, z1, z2⟩ := info_parts infoMt9
  have hr := run_make (P := Try.prog) w 32 29 i _ Try.underlying32 hi z0 .i64 .i64 n n (by omega) (Int.le_refl _) (by rw [z2]; omega) (by omega)
  simp only [Int.toNat_natCast, z1] at hr
  exact hr
theorem made_ly (w : World) (n : Nat) : (w.alloc (.cells (madeCells lyZ.toArray (n * 30)) 67)).rowIs w.heap.size 67 (n * 30) (lyc (fun _ => lyO0)) := madeRow w lyZ _ _ _ (by decide) (fun i _ => rfl)
theorem made_mt (w : World) (n : Nat) : (w.alloc (.cells (madeCells (mtL mtO0).toArray (n * 3)) 29)).rowIs w.heap.size 29 (n * 3) (mtc (fun _ => mtO0)) := madeRow w (mtL mtO0) _ _ _ (by decide) (fun i _ => rfl)
/-- the weights that the reader begins with -/
def wtS (V W H K L D N M : Int) (gy gm nL nM : Nat) : WtD := ⟨V, W, H, K, L, D, N, M, mtO0, none, 0, 0, fun _ => 0, fun _ => 0, some ⟨gy, 0, none⟩, nL, nL, fun _ => lyO0, ⟨none, 0, 0, fun _ => 0⟩, mtO0, some ⟨gm, 0, none⟩, nM, nM, fun _ => mtO0⟩
theorem ws_start {w w1 wf : World} {r gy gm wl nL nM : Nat} {cf : List Int} {V W H K L D N M : Int} (b1 : w1.rowIs w.heap.size 23 8 (fun i => .int .i64 (cf.getD i 0))) (r1 : w1.rowIs (w.heap.size + 1) 34 18 (fun i => wtZ.getD i undef)) (f1 : Below w.heap.size w w1) (f : Below w1.heap.size w1 wf)
    (hl : wf.rowIs wl 34 18 (wtc (wtS V W H K L D N M gy gm nL nM))) (hy : wf.rowIs gy 67 (nL * 30) (lyc (fun _ => lyO0))) (hm : wf.rowIs gm 29 (nM * 3) (mtc (fun _ => mtO0))) (ly : w.heap.size + 2 ≤ gy) (lm : w.heap.size + 2 ≤ gm) (ll : w.heap.size + 2 ≤ wl) (nl : nL ≤ 1048576) (nm : nM ≤ 1048576) :
    Ws w wf r wl cf (wtS V W H K L D N M gy gm nL nM) :=
  ⟨b1.of_block (f.block _ b1.lt), r1.of_block (f.block _ r1.lt), hl, own_nil _ _ _ _ _, own_nil _ _ _ _ _, own_nil _ _ _ _ _, own_nil _ _ _ _ _, own_of_rows (cap := nL) hy ly (Nat.le_refl _) (by unfold maxLen; omega) (fun _ _ => rfl), own_of_rows (cap := nM) hm lm (Nat.le_refl _) (by unfold maxLen; omega) (fun _ _ => rfl), fun _ _ => Lo.zero _ _, fun _ _ => own_nil _ _ _ _ _, Chg.of_below _ (fresh_trans f1 f), ll⟩
/-- how far the reader of weights has come -/
structure WsR (w wx : World) (r bb wl : Nat) (cf : List Int) (x : WtD) (B : List Int) (p : Nat) (bad : Bool) (M : List Int) (Sh : List Int → Prop) : Prop where
  ws : Ws w wx r wl cf x
  ex : ∃ q bd, RdS B p bad q bd M Sh ∧ Rdr wx r bb B q bd
theorem WsR.fresh {w wx wy : World} {r bb wl : Nat} {cf : List Int} {x : WtD} {B : List Int} {p : Nat} {bad : Bool} {M : List Int} {Sh : List Int → Prop} (h : WsR w wx r bb wl cf x B p bad M Sh) (f : Below wx.heap.size wx wy) : WsR w wy r bb wl cf x B p bad M Sh := by
  obtain ⟨q, bd, h1, h2⟩ := h.ex
  exact ⟨h.ws.fresh f, q, bd, h1, h2.fresh f⟩
end Go.Proofs.Ytilghknalbhacaa
