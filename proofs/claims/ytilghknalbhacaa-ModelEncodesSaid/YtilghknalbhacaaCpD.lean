import Derived.Test.YtilghknalbhacaaJAL
namespace Go.Proofs.Ytilghknalbhacaa
open Go.RowKit
/-! What copied's loops keep. -/
theorem Own.put {w : World} {base : Nat} {e : TypeId} {sz g cap n : Nat} {cs : Nat → Value} (h : Own w base e sz (.slice (some ⟨g, 0, none⟩) n cap) n cs) (j : Nat) (x : Value) : Own (w.setCell ⟨g, j, none⟩ x) base e sz (.slice (some ⟨g, 0, none⟩) n cap) n (fun i => if i = j then x else cs i) := by
  have := (World.ownsRow.stored h j x).1
  unfold Own
  have e1 : (List.range (n * sz)).map (fun i => if i = j then x else cs i) = ((List.range (n * sz)).map cs).set j x := by
    refine List.ext_getElem? (fun i => ?_)
    rw [List.getElem?_set]
    by_cases hi : i < n * sz
    · by_cases e : j = i
      · subst e
        simp [hi]
      · rw [if_neg e]
        simp [hi]
        exact fun q => absurd q.symm e
    · simp [hi]
      omega
  rw [e1]
  exact this
theorem Own.at_ {w : World} {base : Nat} {e : TypeId} {sz n c : Nat} {u : Option Addr} {cs : Nat → Value} (h : Own w base e sz (.slice u n c) n cs) (hn : 0 < n) : ∃ g, u = some ⟨g, 0, none⟩ ∧ base ≤ g ∧ g < w.heap.size ∧ (∀ j, j < n * sz → w.cell? ⟨g, j, none⟩ = some (cs j)) ∧ (∀ j, w.frozen? ⟨g, j, none⟩ = false) := by
  obtain ⟨ao, cap, e1, hr⟩ := h.rd
  injection e1 with e2 _ e3
  subst e2 e3
  obtain ⟨b, off, rfl, hc⟩ := hr.at_ hn
  rcases h.2 with ⟨e4, _⟩ | ⟨g, cap', cur, e4, hb, hgg, _⟩
  · cases e4
  · injection e4 with e5 _ e6
    injection e5 with e5
    injection e5 with e7 e8
    subst e7 e8
    refine ⟨_, rfl, hb, (Array.getElem?_eq_some_iff.1 hgg).1, fun j hj => by simpa using hc j hj, fun j => by simp [World.frozen?, hgg]⟩
theorem Own.offT {w : World} {b1 b2 s1 s2 n1 n2 : Nat} {e1 e2 : TypeId} {v u : Value} {c1 c2 : Nat → Value} (h : Own w b1 e1 s1 v n1 c1) (k : Own w b2 e2 s2 u n2 c2) (hne : e1 ≠ e2) : Off v u := fun x hx hy => by
  rcases h.2 with ⟨rfl, rfl⟩ | ⟨g, cap, cur, rfl, _, hg, _⟩
  · simp [Value.ownBlock] at hx
  · rcases k.2 with ⟨rfl, rfl⟩ | ⟨g', cap', cur', rfl, _, hg', _⟩
    · simp [Value.ownBlock] at hy
    · obtain rfl : g = x := by simpa [Value.ownBlock] using hx
      obtain rfl : g' = g := by simpa [Value.ownBlock] using hy
      rw [hg] at hg'
      cases hg'
      exact hne rfl
def lyc (ly : Nat → LyD) : Nat → Value := fun j => (lyL (ly (j / 30))).getD (j % 30) undef
def mtL (m : MtD) : List Value := [.int .i64 m.R, .int .i64 m.C, .slice m.O m.n m.c]
def mtc (md : Nat → MtD) : Nat → Value := fun j => (mtL (md (j / 3))).getD (j % 3) undef
theorem tcs_one (C S : Nat → Int) (n : Nat) : ∀ j, j < n → (tcs C S j).oneCell' = true := fun j _ => by
  unfold tcs
  split <;> rfl
theorem mtc_one (md : Nat → MtD) (n : Nat) : ∀ j, j < n → (mtc md j).oneCell' = true := fun j _ => by
  unfold mtc
  have : j % 3 < 3 := Nat.mod_lt _ (by decide)
  match j % 3, this with
  | 0, _ => rfl
  | 1, _ => rfl
  | 2, _ => rfl
theorem lyc_one (ly : Nat → LyD) (n : Nat) : ∀ j, j < n → (lyc ly j).oneCell' = true := fun j _ => by
  unfold lyc
  have : j % 30 < 30 := Nat.mod_lt _ (by decide)
  match j % 30, this with
  | 0, _ => rfl
  | 1, _ => rfl
  | 2, _ => rfl
  | 3, _ => rfl
  | 4, _ => rfl
  | 5, _ => rfl
  | 6, _ => rfl
  | 7, _ => rfl
  | 8, _ => rfl
  | 9, _ => rfl
  | 10, _ => rfl
  | 11, _ => rfl
  | 12, _ => rfl
  | 13, _ => rfl
  | 14, _ => rfl
  | 15, _ => rfl
  | 16, _ => rfl
  | 17, _ => rfl
  | 18, _ => rfl
  | 19, _ => rfl
  | 20, _ => rfl
  | 21, _ => rfl
  | 22, _ => rfl
  | 23, _ => rfl
  | 24, _ => rfl
  | 25, _ => rfl
  | 26, _ => rfl
  | 27, _ => rfl
  | 28, _ => rfl
  | 29, _ => rfl
  | i + 30, hi => exact absurd hi (by omega)
theorem WtR.yrd {w : World} {x : WtD} (h : WtR w x) : RdA w x.yO 30 x.yn x.yc (lyc x.ly) := by
  refine ⟨h.yle, h.ytop, fun h0 => ?_⟩
  obtain ⟨b, off, e, hc⟩ := h.yat h0
  refine ⟨b, off, e, fun j hj => ?_⟩
  have hk : j / 30 < x.yn := by omega
  have hr := (hc (j / 30) hk).range (j % 30) (lyc x.ly j) (by
    unfold lyc
    have hl : (lyL (x.ly (j / 30))).length = 30 := rfl
    rw [List.getD_eq_getElem?_getD, List.getElem?_eq_getElem (by rw [hl]; exact Nat.mod_lt _ (by decide))]
    rfl)
  rw [← hr]
  congr 2
  omega
theorem WtR.mrd {w : World} {x : WtD} (h : WtR w x) : RdA w x.mO 3 x.mn x.mc (mtc x.md) := by
  refine ⟨h.mle, h.mtop, fun h0 => ?_⟩
  obtain ⟨b, off, e, hc⟩ := h.mat h0
  refine ⟨b, off, e, fun j hj => ?_⟩
  obtain ⟨h1, h2, h3⟩ := hc (j / 3) (by omega)
  have hj3 : j % 3 < 3 := Nat.mod_lt _ (by decide)
  have e9 : off + j = off + j / 3 * 3 + j % 3 := by omega
  rw [e9]
  unfold mtc
  match j % 3, hj3 with
  | 0, _ => exact h1
  | 1, _ => exact h2
  | 2, _ => exact h3
structure LyB (l : LyD) : Prop where
  q : l.q.n ≤ 1048576
  k : l.k.n ≤ 1048576
  v : l.v.n ≤ 1048576
  o : l.o.n ≤ 1048576
  g : l.g.n ≤ 1048576
  u : l.u.n ≤ 1048576
  d : l.d.n ≤ 1048576
/-- how long the lists may be -/
structure WtB (x : WtD) : Prop where
  E : x.E.n ≤ 1048576
  Q : x.Q.n ≤ 1048576
  T : x.tn ≤ 1048576
  F : x.F.n ≤ 1048576
  Y : x.yn ≤ 1048576
  M : x.mn ≤ 1048576
  m : ∀ k, k < x.mn → (x.md k).n ≤ 1048576
  y1 : ∀ k, k < x.yn → (x.ly k).n1.n ≤ 1048576
  y2 : ∀ k, k < x.yn → (x.ly k).n2.n ≤ 1048576
  ym : ∀ k, k < x.yn → LyB (x.ly k)
/-- the box and the lists of its own -/
structure Cq (w wx : World) (y : WtD) : Prop where
  cp : Cp w wx y
  oE : Own wx (w.heap.size + 2) 84 1 (.slice y.E.O y.E.n y.E.c) y.E.n (fun i => .int .i8 (y.E.f i))
  oQ : Own wx (w.heap.size + 2) 84 1 (.slice y.Q.O y.Q.n y.Q.c) y.Q.n (fun i => .int .i8 (y.Q.f i))
  oT : Own wx (w.heap.size + 2) 97 2 (.slice y.tO y.tn y.tc) y.tn (tcs y.tC y.tS)
  oF : Own wx (w.heap.size + 2) 84 1 (.slice y.F.O y.F.n y.F.c) y.F.n (fun i => .int .i8 (y.F.f i))
  oY : Own wx (w.heap.size + 2) 67 30 (.slice y.yO y.yn y.yc) y.yn (lyc y.ly)
  oM : Own wx (w.heap.size + 2) 29 3 (.slice y.mO y.mn y.mc) y.mn (mtc y.md)
theorem Cq.fresh {w wx wy : World} {y : WtD} (h : Cq w wx y) (f : Below wx.heap.size wx wy) : Cq w wy y :=
  ⟨h.cp.fresh f, h.oE.kept f, h.oQ.kept f, h.oT.kept f, h.oF.kept f, h.oY.kept f, h.oM.kept f⟩
/-- a matrix's numbers, a list's, in memory of their own -/
def OwM (w wx : World) (m : MtD) : Prop := Own wx (w.heap.size + 2) 84 1 (.slice m.O m.n m.c) m.n (fun i => .int .i8 (m.f i))
def OwS (w wx : World) (l : LsD) : Prop := Own wx (w.heap.size + 2) 84 1 (.slice l.O l.n l.c) l.n (fun i => .int .i8 (l.f i))
def SmM (m m' : MtD) : Prop := m'.R = m.R ∧ m'.C = m.C ∧ m'.n = m.n ∧ m'.f = m.f
def SmS (l l' : LsD) : Prop := l'.n = l.n ∧ l'.f = l.f
def updM (md : Nat → MtD) (k : Nat) (m : MtD) : Nat → MtD := fun j => if j = k then m else md j
theorem ne_of_T {w : World} {b1 b2 s1 s2 n1 n2 g c : Nat} {e1 e2 : TypeId} {v : Value} {c1 c2 : Nat → Value} (h : Own w b1 e1 s1 v n1 c1) (k : Own w b2 e2 s2 (.slice (some ⟨g, 0, none⟩) n2 c) n2 c2) (hne : e1 ≠ e2) : v.ownBlock ≠ some g := fun e => (h.offT k hne) g e (by simp [Value.ownBlock])
theorem Own.set3 {w : World} {base : Nat} {e : TypeId} {sz : Nat} {v : Value} {n : Nat} {cs : Nat → Value} (h : Own w base e sz v n cs) {g j0 j1 j2 : Nat} {x0 x1 x2 : Value} (hg : v.ownBlock ≠ some g) : Own (((w.setCell ⟨g, j0, none⟩ x0).setCell ⟨g, j1, none⟩ x1).setCell ⟨g, j2, none⟩ x2) base e sz v n cs := ((h.set hg).set hg).set hg
theorem mtc_upd (md : Nat → MtD) (k : Nat) (m : MtD) (j : Nat) : (if j = k * 3 + 2 then Value.slice m.O m.n m.c else if j = k * 3 + 1 then .int .i64 m.C else if j = k * 3 then .int .i64 m.R else mtc md j) = mtc (updM md k m) j := by
  by_cases hjk : j / 3 = k
  · have : j = k * 3 ∨ j = k * 3 + 1 ∨ j = k * 3 + 2 := by omega
    rcases this with rfl | rfl | rfl
    · rw [if_neg (by omega), if_neg (by omega), if_pos rfl]
      unfold mtc updM
      rw [if_pos hjk, show k * 3 % 3 = 0 by omega]; rfl
    · rw [if_neg (by omega), if_pos rfl]
      unfold mtc updM
      rw [if_pos hjk, show (k * 3 + 1) % 3 = 1 by omega]; rfl
    · rw [if_pos rfl]
      unfold mtc updM
      rw [if_pos hjk, show (k * 3 + 2) % 3 = 2 by omega]; rfl
  · rw [if_neg (by omega), if_neg (by omega), if_neg (by omega)]
    unfold mtc updM
    rw [if_neg hjk]
theorem Cq.setM {w wx : World} {y : WtD} (h : Cq w wx y) {g : Nat} (hg : y.mO = some ⟨g, 0, none⟩) (k : Nat) (m : MtD) :
    Cq w (((wx.setCell ⟨g, k * 3, none⟩ (.int .i64 m.R)).setCell ⟨g, k * 3 + 1, none⟩ (.int .i64 m.C)).setCell ⟨g, k * 3 + 2, none⟩ (.slice m.O m.n m.c)) { y with md := updM y.md k m } := by
  have hm := h.oM
  rw [hg] at hm
  have hb : w.heap.size + 2 ≤ g := (hm.lt g (by simp [Value.ownBlock])).1
  have hb2 : w.heap.size ≤ g := by omega
  refine ⟨⟨?_, ?_, ?_⟩, h.oE.set3 (ne_of_T h.oE hm (by decide)), h.oQ.set3 (ne_of_T h.oQ hm (by decide)), h.oT.set3 (ne_of_T h.oT hm (by decide)), h.oF.set3 (ne_of_T h.oF hm (by decide)), h.oY.set3 (ne_of_T h.oY hm (by decide)), ?_⟩
  · exact ((h.cp.box.setOther (by show w.heap.size ≠ g; omega) _).setOther (by show w.heap.size ≠ g; omega) _).setOther (by show w.heap.size ≠ g; omega) _
  · exact ((h.cp.res.setOther (by show w.heap.size + 1 ≠ g; omega) _).setOther (by show w.heap.size + 1 ≠ g; omega) _).setOther (by show w.heap.size + 1 ≠ g; omega) _
  · exact ((h.cp.low.setCell hb2 _).setCell hb2 _).setCell hb2 _
  · show Own _ _ _ _ (.slice y.mO y.mn y.mc) _ _
    rw [hg]
    exact (((hm.put (k * 3) (.int .i64 m.R)).put (k * 3 + 1) (.int .i64 m.C)).put (k * 3 + 2) (.slice m.O m.n m.c)).congr (fun j _ => mtc_upd y.md k m j)
theorem OwM.set3 {w wx : World} {m9 : MtD} (ho : OwM w wx m9) {y : WtD} (h : Cq w wx y) {g : Nat} (hg : y.mO = some ⟨g, 0, none⟩) {j0 j1 j2 : Nat} {x0 x1 x2 : Value} : OwM w (((wx.setCell ⟨g, j0, none⟩ x0).setCell ⟨g, j1, none⟩ x1).setCell ⟨g, j2, none⟩ x2) m9 := by
  have hm := h.oM
  rw [hg] at hm
  exact Own.set3 ho (ne_of_T ho hm (by decide))
/-- loop 1: the first k of Medusa's are copied -/
structure Lm (w wx : World) (x y : WtD) (k : Nat) (md : Nat → MtD) : Prop where
  q : Cq w wx { y with md := md }
  dn : ∀ j, j < k → OwM w wx (md j) ∧ SmM (x.md j) (md j)
  td : ∀ j, k ≤ j → md j = x.md j
theorem Lm.fresh {w wx wy : World} {x y : WtD} {k : Nat} {md : Nat → MtD} (h : Lm w wx x y k md) (f : Below wx.heap.size wx wy) : Lm w wy x y k md := ⟨h.q.fresh f, fun j hj => ⟨Own.kept (h.dn j hj).1 f, (h.dn j hj).2⟩, h.td⟩
theorem Lm.step {w wx : World} {x y : WtD} {k : Nat} {md : Nat → MtD} (h : Lm w wx x y k md) {g : Nat} (hg : y.mO = some ⟨g, 0, none⟩) {u : Option Addr} {c : Nat} (ho : Own wx (w.heap.size + 2) 84 1 (.slice u (x.md k).n c) (x.md k).n (fun i => .int .i8 ((x.md k).f i))) :
    Lm w (((wx.setCell ⟨g, k * 3, none⟩ (.int .i64 (x.md k).R)).setCell ⟨g, k * 3 + 1, none⟩ (.int .i64 (x.md k).C)).setCell ⟨g, k * 3 + 2, none⟩ (.slice u (x.md k).n c)) x y (k + 1) (updM md k { x.md k with O := u, c := c }) := by
  refine ⟨Cq.setM (y := { y with md := md }) h.q hg k { x.md k with O := u, c := c }, fun j hj => ?_, fun j hj => ?_⟩
  · by_cases e : j = k
    · subst e
      have : updM md j { x.md j with O := u, c := c } j = { x.md j with O := u, c := c } := if_pos rfl
      rw [this]
      exact ⟨OwM.set3 (m9 := { x.md j with O := u, c := c }) ho h.q hg, rfl, rfl, rfl, rfl⟩
    · have : updM md k { x.md k with O := u, c := c } j = md j := if_neg e
      rw [this]
      exact ⟨(h.dn j (by omega)).1.set3 h.q hg, (h.dn j (by omega)).2⟩
  · have : updM md k { x.md k with O := u, c := c } j = md j := if_neg (by omega)
    rw [this]
    exact h.td j (by omega)
end Go.Proofs.Ytilghknalbhacaa
