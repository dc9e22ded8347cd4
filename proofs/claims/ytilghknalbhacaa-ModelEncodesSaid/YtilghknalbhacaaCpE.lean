import Derived.Test.YtilghknalbhacaaCpD
import Derived.Test.YtilghknalbhacaaLfA
namespace Go.Proofs.Ytilghknalbhacaa
open Go.RowKit
/-! What copied's loop over layers keeps. -/
def updY (ly : Nat → LyD) (i : Nat) (l : LyD) : Nat → LyD := fun j => if j = i then l else ly j
def setMI (l : LyD) : Nat → MtD → LyD
  | 0, m => { l with q := m }
  | 1, m => { l with k := m }
  | 2, m => { l with v := m }
  | 3, m => { l with o := m }
  | 4, m => { l with g := m }
  | 5, m => { l with u := m }
  | _, m => { l with d := m }
theorem mtI_same (l : LyD) (r : Nat) (m : MtD) (hr : r < 7) : mtI (setMI l r m) r = m := by
  match r, hr with
  | 0, _ => rfl
  | 1, _ => rfl
  | 2, _ => rfl
  | 3, _ => rfl
  | 4, _ => rfl
  | 5, _ => rfl
  | 6, _ => rfl
theorem mtI_other (l : LyD) (r s : Nat) (m : MtD) (hr : r < 7) (hs : s < 7) (hne : s ≠ r) : mtI (setMI l r m) s = mtI l s := by
  match r, hr with
  | 0, _ =>
    match s, hs, hne with
    | 0, _, h => exact absurd rfl h
    | 1, _, h => rfl
    | 2, _, h => rfl
    | 3, _, h => rfl
    | 4, _, h => rfl
    | 5, _, h => rfl
    | 6, _, h => rfl
  | 1, _ =>
    match s, hs, hne with
    | 0, _, h => rfl
    | 1, _, h => exact absurd rfl h
    | 2, _, h => rfl
    | 3, _, h => rfl
    | 4, _, h => rfl
    | 5, _, h => rfl
    | 6, _, h => rfl
  | 2, _ =>
    match s, hs, hne with
    | 0, _, h => rfl
    | 1, _, h => rfl
    | 2, _, h => exact absurd rfl h
    | 3, _, h => rfl
    | 4, _, h => rfl
    | 5, _, h => rfl
    | 6, _, h => rfl
  | 3, _ =>
    match s, hs, hne with
    | 0, _, h => rfl
    | 1, _, h => rfl
    | 2, _, h => rfl
    | 3, _, h => exact absurd rfl h
    | 4, _, h => rfl
    | 5, _, h => rfl
    | 6, _, h => rfl
  | 4, _ =>
    match s, hs, hne with
    | 0, _, h => rfl
    | 1, _, h => rfl
    | 2, _, h => rfl
    | 3, _, h => rfl
    | 4, _, h => exact absurd rfl h
    | 5, _, h => rfl
    | 6, _, h => rfl
  | 5, _ =>
    match s, hs, hne with
    | 0, _, h => rfl
    | 1, _, h => rfl
    | 2, _, h => rfl
    | 3, _, h => rfl
    | 4, _, h => rfl
    | 5, _, h => exact absurd rfl h
    | 6, _, h => rfl
  | 6, _ =>
    match s, hs, hne with
    | 0, _, h => rfl
    | 1, _, h => rfl
    | 2, _, h => rfl
    | 3, _, h => rfl
    | 4, _, h => rfl
    | 5, _, h => rfl
    | 6, _, h => exact absurd rfl h
theorem setMI_rest (l : LyD) (r : Nat) (m : MtD) (hr : r < 7) : (setMI l r m).n1 = l.n1 ∧ (setMI l r m).n2 = l.n2 ∧ (setMI l r m).sh = l.sh := by
  match r, hr with
  | 0, _ => exact ⟨rfl, rfl, rfl⟩
  | 1, _ => exact ⟨rfl, rfl, rfl⟩
  | 2, _ => exact ⟨rfl, rfl, rfl⟩
  | 3, _ => exact ⟨rfl, rfl, rfl⟩
  | 4, _ => exact ⟨rfl, rfl, rfl⟩
  | 5, _ => exact ⟨rfl, rfl, rfl⟩
  | 6, _ => exact ⟨rfl, rfl, rfl⟩
theorem lyL_set (l : LyD) (r t : Nat) (m : MtD) (hr : r < 7) (ht : t < 30) : (lyL (setMI l r m)).getD t undef = if t = 2 + 3 * r + 2 then .slice m.O m.n m.c else if t = 2 + 3 * r + 1 then .int .i64 m.C else if t = 2 + 3 * r then .int .i64 m.R else (lyL l).getD t undef := by
  match r, hr with
  | 0, _ =>
    match t, ht with
    | 0, _ => rfl
    | 1, _ => rfl
    | 2, _ => rfl
    | 3, _ => rfl
    | 4, _ => rfl
    | 5, _ => rfl
    | 6, _ => rfl
    | 7, _ => rfl
    | 8, _ => rfl
    | 9, _ => rfl
    | 10, _ => rfl
    | 11, _ => rfl
    | 12, _ => rfl
    | 13, _ => rfl
    | 14, _ => rfl
    | 15, _ => rfl
    | 16, _ => rfl
    | 17, _ => rfl
    | 18, _ => rfl
    | 19, _ => rfl
    | 20, _ => rfl
    | 21, _ => rfl
    | 22, _ => rfl
    | 23, _ => rfl
    | 24, _ => rfl
    | 25, _ => rfl
    | 26, _ => rfl
    | 27, _ => rfl
    | 28, _ => rfl
    | 29, _ => rfl
    | j + 30, h => exact absurd h (by omega)
  | 1, _ =>
    match t, ht with
    | 0, _ => rfl
    | 1, _ => rfl
    | 2, _ => rfl
    | 3, _ => rfl
    | 4, _ => rfl
    | 5, _ => rfl
    | 6, _ => rfl
    | 7, _ => rfl
    | 8, _ => rfl
    | 9, _ => rfl
    | 10, _ => rfl
    | 11, _ => rfl
    | 12, _ => rfl
    | 13, _ => rfl
    | 14, _ => rfl
    | 15, _ => rfl
    | 16, _ => rfl
    | 17, _ => rfl
    | 18, _ => rfl
    | 19, _ => rfl
    | 20, _ => rfl
    | 21, _ => rfl
    | 22, _ => rfl
    | 23, _ => rfl
    | 24, _ => rfl
    | 25, _ => rfl
    | 26, _ => rfl
    | 27, _ => rfl
    | 28, _ => rfl
    | 29, _ => rfl
    | j + 30, h => exact absurd h (by omega)
  | 2, _ =>
    match t, ht with
    | 0, _ => rfl
    | 1, _ => rfl
    | 2, _ => rfl
    | 3, _ => rfl
    | 4, _ => rfl
    | 5, _ => rfl
    | 6, _ => rfl
    | 7, _ => rfl
    | 8, _ => rfl
    | 9, _ => rfl
    | 10, _ => rfl
    | 11, _ => rfl
    | 12, _ => rfl
    | 13, _ => rfl
    | 14, _ => rfl
    | 15, _ => rfl
    | 16, _ => rfl
    | 17, _ => rfl
    | 18, _ => rfl
    | 19, _ => rfl
    | 20, _ => rfl
    | 21, _ => rfl
    | 22, _ => rfl
    | 23, _ => rfl
    | 24, _ => rfl
    | 25, _ => rfl
    | 26, _ => rfl
    | 27, _ => rfl
    | 28, _ => rfl
    | 29, _ => rfl
    | j + 30, h => exact absurd h (by omega)
  | 3, _ =>
    match t, ht with
    | 0, _ => rfl
    | 1, _ => rfl
    | 2, _ => rfl
    | 3, _ => rfl
    | 4, _ => rfl
    | 5, _ => rfl
    | 6, _ => rfl
    | 7, _ => rfl
    | 8, _ => rfl
    | 9, _ => rfl
    | 10, _ => rfl
    | 11, _ => rfl
    | 12, _ => rfl
    | 13, _ => rfl
    | 14, _ => rfl
    | 15, _ => rfl
    | 16, _ => rfl
    | 17, _ => rfl
    | 18, _ => rfl
    | 19, _ => rfl
    | 20, _ => rfl
    | 21, _ => rfl
    | 22, _ => rfl
    | 23, _ => rfl
    | 24, _ => rfl
    | 25, _ => rfl
    | 26, _ => rfl
    | 27, _ => rfl
    | 28, _ => rfl
    | 29, _ => rfl
    | j + 30, h => exact absurd h (by omega)
  | 4, _ =>
    match t, ht with
    | 0, _ => rfl
    | 1, _ => rfl
    | 2, _ => rfl
    | 3, _ => rfl
    | 4, _ => rfl
    | 5, _ => rfl
    | 6, _ => rfl
    | 7, _ => rfl
    | 8, _ => rfl
    | 9, _ => rfl
    | 10, _ => rfl
    | 11, _ => rfl
    | 12, _ => rfl
    | 13, _ => rfl
    | 14, _ => rfl
    | 15, _ => rfl
    | 16, _ => rfl
    | 17, _ => rfl
    | 18, _ => rfl
    | 19, _ => rfl
    | 20, _ => rfl
    | 21, _ => rfl
    | 22, _ => rfl
    | 23, _ => rfl
    | 24, _ => rfl
    | 25, _ => rfl
    | 26, _ => rfl
    | 27, _ => rfl
    | 28, _ => rfl
    | 29, _ => rfl
    | j + 30, h => exact absurd h (by omega)
  | 5, _ =>
    match t, ht with
    | 0, _ => rfl
    | 1, _ => rfl
    | 2, _ => rfl
    | 3, _ => rfl
    | 4, _ => rfl
    | 5, _ => rfl
    | 6, _ => rfl
    | 7, _ => rfl
    | 8, _ => rfl
    | 9, _ => rfl
    | 10, _ => rfl
    | 11, _ => rfl
    | 12, _ => rfl
    | 13, _ => rfl
    | 14, _ => rfl
    | 15, _ => rfl
    | 16, _ => rfl
    | 17, _ => rfl
    | 18, _ => rfl
    | 19, _ => rfl
    | 20, _ => rfl
    | 21, _ => rfl
    | 22, _ => rfl
    | 23, _ => rfl
    | 24, _ => rfl
    | 25, _ => rfl
    | 26, _ => rfl
    | 27, _ => rfl
    | 28, _ => rfl
    | 29, _ => rfl
    | j + 30, h => exact absurd h (by omega)
  | 6, _ =>
    match t, ht with
    | 0, _ => rfl
    | 1, _ => rfl
    | 2, _ => rfl
    | 3, _ => rfl
    | 4, _ => rfl
    | 5, _ => rfl
    | 6, _ => rfl
    | 7, _ => rfl
    | 8, _ => rfl
    | 9, _ => rfl
    | 10, _ => rfl
    | 11, _ => rfl
    | 12, _ => rfl
    | 13, _ => rfl
    | 14, _ => rfl
    | 15, _ => rfl
    | 16, _ => rfl
    | 17, _ => rfl
    | 18, _ => rfl
    | 19, _ => rfl
    | 20, _ => rfl
    | 21, _ => rfl
    | 22, _ => rfl
    | 23, _ => rfl
    | 24, _ => rfl
    | 25, _ => rfl
    | 26, _ => rfl
    | 27, _ => rfl
    | 28, _ => rfl
    | 29, _ => rfl
    | j + 30, h => exact absurd h (by omega)
theorem lyL_n (l : LyD) (t : Nat) (a b : LsD) (ht : t < 30) : (lyL { l with n1 := a, n2 := b }).getD t undef = if t = 1 then .slice b.O b.n b.c else if t = 0 then .slice a.O a.n a.c else (lyL l).getD t undef := by
  match t, ht with
  | 0, _ => rfl
  | 1, _ => rfl
  | 2, _ => rfl
  | 3, _ => rfl
  | 4, _ => rfl
  | 5, _ => rfl
  | 6, _ => rfl
  | 7, _ => rfl
  | 8, _ => rfl
  | 9, _ => rfl
  | 10, _ => rfl
  | 11, _ => rfl
  | 12, _ => rfl
  | 13, _ => rfl
  | 14, _ => rfl
  | 15, _ => rfl
  | 16, _ => rfl
  | 17, _ => rfl
  | 18, _ => rfl
  | 19, _ => rfl
  | 20, _ => rfl
  | 21, _ => rfl
  | 22, _ => rfl
  | 23, _ => rfl
  | 24, _ => rfl
  | 25, _ => rfl
  | 26, _ => rfl
  | 27, _ => rfl
  | 28, _ => rfl
  | 29, _ => rfl
  | j + 30, h => exact absurd h (by omega)
theorem lyc_set (ly : Nat → LyD) (i r : Nat) (m : MtD) (hr : r < 7) (j : Nat) : (if j = i * 30 + (2 + 3 * r) + 2 then Value.slice m.O m.n m.c else if j = i * 30 + (2 + 3 * r) + 1 then .int .i64 m.C else if j = i * 30 + (2 + 3 * r) then .int .i64 m.R else lyc ly j) = lyc (updY ly i (setMI (ly i) r m)) j := by
  by_cases hji : j / 30 = i
  · have ht : j % 30 < 30 := Nat.mod_lt _ (by decide)
    have e : lyc (updY ly i (setMI (ly i) r m)) j = (lyL (setMI (ly i) r m)).getD (j % 30) undef := by
      unfold lyc updY
      rw [if_pos hji]
    have e2 : lyc ly j = (lyL (ly i)).getD (j % 30) undef := by unfold lyc; rw [hji]
    rw [e, lyL_set _ r _ m hr ht, e2]
    have c2 : (j % 30 = 2 + 3 * r + 2) ↔ (j = i * 30 + (2 + 3 * r) + 2) := by omega
    have c1 : (j % 30 = 2 + 3 * r + 1) ↔ (j = i * 30 + (2 + 3 * r) + 1) := by omega
    have c0 : (j % 30 = 2 + 3 * r) ↔ (j = i * 30 + (2 + 3 * r)) := by omega
    simp only [c2, c1, c0]
  · rw [if_neg (by omega), if_neg (by omega), if_neg (by omega)]
    unfold lyc updY
    rw [if_neg hji]
theorem lyc_n (ly : Nat → LyD) (i : Nat) (a b : LsD) (j : Nat) : (if j = i * 30 + 1 then Value.slice b.O b.n b.c else if j = i * 30 then .slice a.O a.n a.c else lyc ly j) = lyc (updY ly i { ly i with n1 := a, n2 := b }) j := by
  by_cases hji : j / 30 = i
  · have ht : j % 30 < 30 := Nat.mod_lt _ (by decide)
    have e : lyc (updY ly i { ly i with n1 := a, n2 := b }) j = (lyL { ly i with n1 := a, n2 := b }).getD (j % 30) undef := by
      unfold lyc updY
      rw [if_pos hji]
    have e2 : lyc ly j = (lyL (ly i)).getD (j % 30) undef := by unfold lyc; rw [hji]
    rw [e, lyL_n _ _ a b ht, e2]
    have c1 : (j % 30 = 1) ↔ (j = i * 30 + 1) := by omega
    have c0 : (j % 30 = 0) ↔ (j = i * 30) := by omega
    simp only [c1, c0]
  · rw [if_neg (by omega), if_neg (by omega)]
    unfold lyc updY
    rw [if_neg hji]
theorem lyc_n' (ly : Nat → LyD) (i : Nat) (a b : LsD) (j : Nat) : (if j = i * 30 then Value.slice a.O a.n a.c else if j = i * 30 + 1 then .slice b.O b.n b.c else lyc ly j) = lyc (updY ly i { ly i with n1 := a, n2 := b }) j := by
  rw [← lyc_n]
  by_cases c : j = i * 30 + 1
  · rw [if_neg (by omega), if_pos c, if_pos c]
  · rw [if_neg c, if_neg c]
theorem Own.set2 {w : World} {base : Nat} {e : TypeId} {sz : Nat} {v : Value} {n : Nat} {cs : Nat → Value} (h : Own w base e sz v n cs) {g j0 j1 : Nat} {x0 x1 : Value} (hg : v.ownBlock ≠ some g) : Own ((w.setCell ⟨g, j0, none⟩ x0).setCell ⟨g, j1, none⟩ x1) base e sz v n cs := (h.set hg).set hg
theorem Cq.setY {w wx : World} {y : WtD} (h : Cq w wx y) {g : Nat} (hg : y.yO = some ⟨g, 0, none⟩) (i r : Nat) (m : MtD) (hr : r < 7) :
    Cq w (((wx.setCell ⟨g, i * 30 + (2 + 3 * r), none⟩ (.int .i64 m.R)).setCell ⟨g, i * 30 + (2 + 3 * r) + 1, none⟩ (.int .i64 m.C)).setCell ⟨g, i * 30 + (2 + 3 * r) + 2, none⟩ (.slice m.O m.n m.c)) { y with ly := updY y.ly i (setMI (y.ly i) r m) } := by
  have hm := h.oY
  rw [hg] at hm
  have hb : w.heap.size + 2 ≤ g := (hm.lt g (by simp [Value.ownBlock])).1
  have hb2 : w.heap.size ≤ g := by omega
  refine ⟨⟨(((h.cp.box.setOther (by show w.heap.size ≠ g; omega) _).setOther (by show w.heap.size ≠ g; omega) _).setOther (by show w.heap.size ≠ g; omega) _), (((h.cp.res.setOther (by show w.heap.size + 1 ≠ g; omega) _).setOther (by show w.heap.size + 1 ≠ g; omega) _).setOther (by show w.heap.size + 1 ≠ g; omega) _), (((h.cp.low.setCell hb2 _).setCell hb2 _).setCell hb2 _)⟩, h.oE.set3 (ne_of_T h.oE hm (by decide)), h.oQ.set3 (ne_of_T h.oQ hm (by decide)), h.oT.set3 (ne_of_T h.oT hm (by decide)), h.oF.set3 (ne_of_T h.oF hm (by decide)), ?_, h.oM.set3 (ne_of_T h.oM hm (by decide))⟩
  show Own _ _ _ _ (.slice y.yO y.yn y.yc) _ _
  rw [hg]
  exact (((hm.put (i * 30 + (2 + 3 * r)) (.int .i64 m.R)).put (i * 30 + (2 + 3 * r) + 1) (.int .i64 m.C)).put (i * 30 + (2 + 3 * r) + 2) (.slice m.O m.n m.c)).congr (fun j _ => lyc_set y.ly i r m hr j)
theorem Cq.setN {w wx : World} {y : WtD} (h : Cq w wx y) {g : Nat} (hg : y.yO = some ⟨g, 0, none⟩) (i : Nat) (a b : LsD) :
    Cq w ((wx.setCell ⟨g, i * 30, none⟩ (.slice a.O a.n a.c)).setCell ⟨g, i * 30 + 1, none⟩ (.slice b.O b.n b.c)) { y with ly := updY y.ly i { y.ly i with n1 := a, n2 := b } } := by
  have hm := h.oY
  rw [hg] at hm
  have hb : w.heap.size + 2 ≤ g := (hm.lt g (by simp [Value.ownBlock])).1
  have hb2 : w.heap.size ≤ g := by omega
  refine ⟨⟨((h.cp.box.setOther (by show w.heap.size ≠ g; omega) _).setOther (by show w.heap.size ≠ g; omega) _), ((h.cp.res.setOther (by show w.heap.size + 1 ≠ g; omega) _).setOther (by show w.heap.size + 1 ≠ g; omega) _), ((h.cp.low.setCell hb2 _).setCell hb2 _)⟩, h.oE.set2 (ne_of_T h.oE hm (by decide)), h.oQ.set2 (ne_of_T h.oQ hm (by decide)), h.oT.set2 (ne_of_T h.oT hm (by decide)), h.oF.set2 (ne_of_T h.oF hm (by decide)), ?_, h.oM.set2 (ne_of_T h.oM hm (by decide))⟩
  show Own _ _ _ _ (.slice y.yO y.yn y.yc) _ _
  rw [hg]
  exact ((hm.put (i * 30) (.slice a.O a.n a.c)).put (i * 30 + 1) (.slice b.O b.n b.c)).congr (fun j _ => lyc_n y.ly i a b j)
theorem Cq.setN' {w wx : World} {y : WtD} (h : Cq w wx y) {g : Nat} (hg : y.yO = some ⟨g, 0, none⟩) (i : Nat) (a b : LsD) :
    Cq w ((wx.setCell ⟨g, i * 30 + 1, none⟩ (.slice b.O b.n b.c)).setCell ⟨g, i * 30, none⟩ (.slice a.O a.n a.c)) { y with ly := updY y.ly i { y.ly i with n1 := a, n2 := b } } := by
  have hm := h.oY
  rw [hg] at hm
  have hb : w.heap.size + 2 ≤ g := (hm.lt g (by simp [Value.ownBlock])).1
  have hb2 : w.heap.size ≤ g := by omega
  refine ⟨⟨((h.cp.box.setOther (by show w.heap.size ≠ g; omega) _).setOther (by show w.heap.size ≠ g; omega) _), ((h.cp.res.setOther (by show w.heap.size + 1 ≠ g; omega) _).setOther (by show w.heap.size + 1 ≠ g; omega) _), ((h.cp.low.setCell hb2 _).setCell hb2 _)⟩, h.oE.set2 (ne_of_T h.oE hm (by decide)), h.oQ.set2 (ne_of_T h.oQ hm (by decide)), h.oT.set2 (ne_of_T h.oT hm (by decide)), h.oF.set2 (ne_of_T h.oF hm (by decide)), ?_, h.oM.set2 (ne_of_T h.oM hm (by decide))⟩
  show Own _ _ _ _ (.slice y.yO y.yn y.yc) _ _
  rw [hg]
  exact ((hm.put (i * 30 + 1) (.slice b.O b.n b.c)).put (i * 30) (.slice a.O a.n a.c)).congr (fun j _ => lyc_n' y.ly i a b j)
theorem Own.ne8 {w wx : World} {y : WtD} (h : Cq w wx y) {g : Nat} (hg : y.yO = some ⟨g, 0, none⟩) {b n : Nat} {v : Value} {cs : Nat → Value} (ho : Own wx b 84 1 v n cs) : v.ownBlock ≠ some g := by
  have hm := h.oY
  rw [hg] at hm
  exact ne_of_T ho hm (by decide)
theorem LyR.mat {w : World} {l : LyD} (h : LyR w l) (q : Nat) : MtR w (mtI l q) := by
  unfold mtI
  split
  · exact h.q
  · exact h.k
  · exact h.v
  · exact h.o
  · exact h.g
  · exact h.u
  · exact h.d
theorem LyB.mat {l : LyD} (h : LyB l) (q : Nat) : (mtI l q).n ≤ 1048576 := by
  unfold mtI
  split
  · exact h.q
  · exact h.k
  · exact h.v
  · exact h.o
  · exact h.g
  · exact h.u
  · exact h.d
def LyO (w wx : World) (l : LyD) : Prop := OwS w wx l.n1 ∧ OwS w wx l.n2 ∧ ∀ q, q < 7 → OwM w wx (mtI l q)
def SmL (l l' : LyD) : Prop := SmS l.n1 l'.n1 ∧ SmS l.n2 l'.n2 ∧ (∀ q, q < 7 → SmM (mtI l q) (mtI l' q)) ∧ l'.sh = l.sh
/-- the first k layers are copied -/
structure Lk (w wx : World) (x y : WtD) (k : Nat) (ly : Nat → LyD) : Prop where
  q : Cq w wx { y with ly := ly }
  m : ∀ j, j < x.mn → OwM w wx (y.md j) ∧ SmM (x.md j) (y.md j)
  dn : ∀ j, j < k → LyO w wx (ly j) ∧ SmL (x.ly j) (ly j)
  td : ∀ j, k ≤ j → ly j = x.ly j
/-- inside layer i: l is what it is now, its first r matrices are copied -/
structure Li (w wx : World) (x y : WtD) (i : Nat) (ly : Nat → LyD) (l : LyD) (r : Nat) : Prop where
  q : Cq w wx { y with ly := updY ly i l }
  m : ∀ j, j < x.mn → OwM w wx (y.md j) ∧ SmM (x.md j) (y.md j)
  dn : ∀ j, j < i → LyO w wx (ly j) ∧ SmL (x.ly j) (ly j)
  td : ∀ j, i ≤ j → ly j = x.ly j
  n1 : OwS w wx l.n1 ∧ SmS (x.ly i).n1 l.n1
  n2 : OwS w wx l.n2 ∧ SmS (x.ly i).n2 l.n2
  ms : ∀ q, q < r → OwM w wx (mtI l q) ∧ SmM (mtI (x.ly i) q) (mtI l q)
  tm : ∀ q, r ≤ q → q < 7 → mtI l q = mtI (x.ly i) q
  sh : l.sh = (x.ly i).sh
theorem LyO.fresh {w wx wy : World} {l : LyD} (h : LyO w wx l) (f : Below wx.heap.size wx wy) : LyO w wy l := ⟨Own.kept h.1 f, Own.kept h.2.1 f, fun q hq => Own.kept (h.2.2 q hq) f⟩
theorem Lk.fresh {w wx wy : World} {x y : WtD} {k : Nat} {ly : Nat → LyD} (h : Lk w wx x y k ly) (f : Below wx.heap.size wx wy) : Lk w wy x y k ly :=
  ⟨h.q.fresh f, fun j hj => ⟨Own.kept (h.m j hj).1 f, (h.m j hj).2⟩, fun j hj => ⟨(h.dn j hj).1.fresh f, (h.dn j hj).2⟩, h.td⟩
theorem Li.fresh {w wx wy : World} {x y : WtD} {i : Nat} {ly : Nat → LyD} {l : LyD} {r : Nat} (h : Li w wx x y i ly l r) (f : Below wx.heap.size wx wy) : Li w wy x y i ly l r :=
  ⟨h.q.fresh f, fun j hj => ⟨Own.kept (h.m j hj).1 f, (h.m j hj).2⟩, fun j hj => ⟨(h.dn j hj).1.fresh f, (h.dn j hj).2⟩, h.td, ⟨Own.kept h.n1.1 f, h.n1.2⟩, ⟨Own.kept h.n2.1 f, h.n2.2⟩, fun q hq => ⟨Own.kept (h.ms q hq).1 f, (h.ms q hq).2⟩, h.tm, h.sh⟩
theorem updY_updY (ly : Nat → LyD) (i : Nat) (l l' : LyD) : updY (updY ly i l) i l' = updY ly i l' := by
  funext j
  unfold updY
  split <;> rfl
theorem updY_at (ly : Nat → LyD) (i : Nat) (l : LyD) : updY ly i l i = l := if_pos rfl
theorem Lk.inner {w wx : World} {x y : WtD} {i : Nat} {ly : Nat → LyD} (h : Lk w wx x y i ly) {g : Nat} (hg : y.yO = some ⟨g, 0, none⟩) {a b : LsD} (ha : OwS w wx a) (hb : OwS w wx b) (sa : SmS (x.ly i).n1 a) (sb : SmS (x.ly i).n2 b) : Li w ((wx.setCell ⟨g, i * 30, none⟩ (.slice a.O a.n a.c)).setCell ⟨g, i * 30 + 1, none⟩ (.slice b.O b.n b.c)) x y i ly { x.ly i with n1 := a, n2 := b } 0 := by
  have hq := Cq.setN (y := { y with ly := ly }) h.q hg i a b
  have e := h.td i (Nat.le_refl _)
  have hq2 : Cq w ((wx.setCell ⟨g, i * 30, none⟩ (.slice a.O a.n a.c)).setCell ⟨g, i * 30 + 1, none⟩ (.slice b.O b.n b.c)) { y with ly := updY ly i { x.ly i with n1 := a, n2 := b } } := by rw [← e]; exact hq
  have s : ∀ {b9 n9 : Nat} {v9 : Value} {cs9 : Nat → Value}, Own wx b9 84 1 v9 n9 cs9 → Own ((wx.setCell ⟨g, i * 30, none⟩ (.slice a.O a.n a.c)).setCell ⟨g, i * 30 + 1, none⟩ (.slice b.O b.n b.c)) b9 84 1 v9 n9 cs9 := fun ho => Own.set2 ho (Own.ne8 h.q hg ho)
  exact ⟨hq2, fun j hj => ⟨s (h.m j hj).1, (h.m j hj).2⟩, fun j hj => ⟨⟨s (h.dn j hj).1.1, s (h.dn j hj).1.2.1, fun q hq => s ((h.dn j hj).1.2.2 q hq)⟩, (h.dn j hj).2⟩, h.td, ⟨s ha, sa⟩, ⟨s hb, sb⟩, fun q hq => absurd hq (by omega), fun q _ hq => (by
    match q, hq with
    | 0, _ => rfl
    | 1, _ => rfl
    | 2, _ => rfl
    | 3, _ => rfl
    | 4, _ => rfl
    | 5, _ => rfl
    | 6, _ => rfl
    ), rfl⟩
theorem Lk.inner' {w wx : World} {x y : WtD} {i : Nat} {ly : Nat → LyD} (h : Lk w wx x y i ly) {g : Nat} (hg : y.yO = some ⟨g, 0, none⟩) {a b : LsD} (ha : OwS w wx a) (hb : OwS w wx b) (sa : SmS (x.ly i).n1 a) (sb : SmS (x.ly i).n2 b) : Li w ((wx.setCell ⟨g, i * 30 + 1, none⟩ (.slice b.O b.n b.c)).setCell ⟨g, i * 30, none⟩ (.slice a.O a.n a.c)) x y i ly { x.ly i with n1 := a, n2 := b } 0 := by
  have hq := Cq.setN' (y := { y with ly := ly }) h.q hg i a b
  have e := h.td i (Nat.le_refl _)
  have hq2 : Cq w ((wx.setCell ⟨g, i * 30 + 1, none⟩ (.slice b.O b.n b.c)).setCell ⟨g, i * 30, none⟩ (.slice a.O a.n a.c)) { y with ly := updY ly i { x.ly i with n1 := a, n2 := b } } := by rw [← e]; exact hq
  have s : ∀ {b9 n9 : Nat} {v9 : Value} {cs9 : Nat → Value}, Own wx b9 84 1 v9 n9 cs9 → Own ((wx.setCell ⟨g, i * 30 + 1, none⟩ (.slice b.O b.n b.c)).setCell ⟨g, i * 30, none⟩ (.slice a.O a.n a.c)) b9 84 1 v9 n9 cs9 := fun ho => Own.set2 ho (Own.ne8 h.q hg ho)
  exact ⟨hq2, fun j hj => ⟨s (h.m j hj).1, (h.m j hj).2⟩, fun j hj => ⟨⟨s (h.dn j hj).1.1, s (h.dn j hj).1.2.1, fun q hq => s ((h.dn j hj).1.2.2 q hq)⟩, (h.dn j hj).2⟩, h.td, ⟨s ha, sa⟩, ⟨s hb, sb⟩, fun q hq => absurd hq (by omega), fun q _ hq => (by
    match q, hq with
    | 0, _ => rfl
    | 1, _ => rfl
    | 2, _ => rfl
    | 3, _ => rfl
    | 4, _ => rfl
    | 5, _ => rfl
    | 6, _ => rfl
    ), rfl⟩
theorem Li.step {w wx : World} {x y : WtD} {i : Nat} {ly : Nat → LyD} {l : LyD} {r : Nat} (h : Li w wx x y i ly l r) {g : Nat} (hg : y.yO = some ⟨g, 0, none⟩) (hr : r < 7) {u : Option Addr} {c : Nat} (ho : Own wx (w.heap.size + 2) 84 1 (.slice u (mtI (x.ly i) r).n c) (mtI (x.ly i) r).n (fun j => .int .i8 ((mtI (x.ly i) r).f j))) :
    Li w (((wx.setCell ⟨g, i * 30 + (2 + 3 * r), none⟩ (.int .i64 (mtI (x.ly i) r).R)).setCell ⟨g, i * 30 + (2 + 3 * r) + 1, none⟩ (.int .i64 (mtI (x.ly i) r).C)).setCell ⟨g, i * 30 + (2 + 3 * r) + 2, none⟩ (.slice u (mtI (x.ly i) r).n c)) x y i ly (setMI l r { mtI (x.ly i) r with O := u, c := c }) (r + 1) := by
  have hq := Cq.setY (y := { y with ly := updY ly i l }) h.q hg i r { mtI (x.ly i) r with O := u, c := c } hr
  have hq2 : Cq w (((wx.setCell ⟨g, i * 30 + (2 + 3 * r), none⟩ (.int .i64 (mtI (x.ly i) r).R)).setCell ⟨g, i * 30 + (2 + 3 * r) + 1, none⟩ (.int .i64 (mtI (x.ly i) r).C)).setCell ⟨g, i * 30 + (2 + 3 * r) + 2, none⟩ (.slice u (mtI (x.ly i) r).n c)) { y with ly := updY ly i (setMI l r { mtI (x.ly i) r with O := u, c := c }) } := by
    rw [← updY_updY ly i l]
    have e : updY ly i l i = l := updY_at ly i l
    rw [← e] at hq ⊢
    simp only [updY_at, updY_updY] at hq ⊢
    exact hq
  have s : ∀ {b9 n9 : Nat} {v9 : Value} {cs9 : Nat → Value}, Own wx b9 84 1 v9 n9 cs9 → Own (((wx.setCell ⟨g, i * 30 + (2 + 3 * r), none⟩ (.int .i64 (mtI (x.ly i) r).R)).setCell ⟨g, i * 30 + (2 + 3 * r) + 1, none⟩ (.int .i64 (mtI (x.ly i) r).C)).setCell ⟨g, i * 30 + (2 + 3 * r) + 2, none⟩ (.slice u (mtI (x.ly i) r).n c)) b9 84 1 v9 n9 cs9 := fun ho => Own.set3 ho (Own.ne8 h.q hg ho)
  obtain ⟨e1, e2, e3⟩ := setMI_rest l r { mtI (x.ly i) r with O := u, c := c } hr
  refine ⟨hq2, fun j hj => ⟨s (h.m j hj).1, (h.m j hj).2⟩, fun j hj => ⟨⟨s (h.dn j hj).1.1, s (h.dn j hj).1.2.1, fun q hq => s ((h.dn j hj).1.2.2 q hq)⟩, (h.dn j hj).2⟩, h.td, by rw [e1]; exact ⟨s h.n1.1, h.n1.2⟩, by rw [e2]; exact ⟨s h.n2.1, h.n2.2⟩, fun q hq => ?_, fun q hq1 hq2 => ?_, by rw [e3]; exact h.sh⟩
  · by_cases e : q = r
    · subst e
      rw [mtI_same _ _ _ hr]
      exact ⟨s ho, rfl, rfl, rfl, rfl⟩
    · rw [mtI_other _ _ _ _ hr (by omega) e]
      exact ⟨s (h.ms q (by omega)).1, (h.ms q (by omega)).2⟩
  · rw [mtI_other _ _ _ _ hr hq2 (by omega)]
    exact h.tm q (by omega) hq2
theorem Li.done {w wx : World} {x y : WtD} {i : Nat} {ly : Nat → LyD} {l : LyD} (h : Li w wx x y i ly l 7) : Lk w wx x y (i + 1) (updY ly i l) := by
  refine ⟨h.q, h.m, fun j hj => ?_, fun j hj => ?_⟩
  · by_cases e : j = i
    · subst e
      rw [updY_at]
      exact ⟨⟨h.n1.1, h.n2.1, fun q hq => (h.ms q hq).1⟩, h.n1.2, h.n2.2, fun q hq => (h.ms q hq).2, h.sh⟩
    · have : updY ly i l j = ly j := if_neg e
      rw [this]
      exact h.dn j (by omega)
  · have : updY ly i l j = ly j := if_neg (by omega)
    rw [this]
    exact h.td j (by omega)
theorem Own.setRow {w : World} {base : Nat} {e : TypeId} {sz : Nat} {v : Value} {n : Nat} {cs : Nat → Value} (h : Own w base e sz v n cs) {g : Nat} {xs : Array Value} (hg : v.ownBlock ≠ some g) : Own (w.setRow g xs) base e sz v n cs := by
  refine ⟨h.1, ?_⟩
  rcases h.2 with hn | ⟨k, cap, cur, rfl, hb, hgg, rest⟩
  · exact .inl hn
  · refine .inr ⟨k, cap, cur, rfl, hb, ?_, rest⟩
    have hk : k ≠ g := fun e => hg (by simp [Value.ownBlock, e])
    rw [setRow_other _ _ _ _ hk]; exact hgg
def wtA (y : WtD) : Array Value := (wtL y).toArray
theorem wtA_size (y : WtD) : (wtA y).size = 18 := rfl
theorem wtA_one (y : WtD) : (wtA y).all (·.oneCell') = true := by kernel_rfl
theorem sizeW : (Try.prog.info? 34).map (·.size) = some 18 := by kernel_rfl
/-- all but addresses is alike -/
structure BS (x y : WtD) : Prop where
  cfg : y.V = x.V ∧ y.W = x.W ∧ y.H = x.H ∧ y.K = x.K ∧ y.L = x.L ∧ y.D = x.D ∧ y.N = x.N ∧ y.M = x.M
  E : SmM x.E y.E
  Q : SmM x.Q y.Q
  F : SmS x.F y.F
  T : y.tn = x.tn ∧ y.tC = x.tC ∧ y.tS = x.tS
  Y : y.yn = x.yn
  M : y.mn = x.mn
/-- y is a copy of x, in new memory -/
structure Cpy (w w' : World) (x y : WtD) : Prop where
  bs : BS x y
  E : OwM w w' y.E
  Q : OwM w w' y.Q
  F : OwS w w' y.F
  T : Own w' (w.heap.size + 2) 97 2 (.slice y.tO y.tn y.tc) y.tn (tcs y.tC y.tS)
  Y : Own w' (w.heap.size + 2) 67 30 (.slice y.yO y.yn y.yc) y.yn (lyc y.ly)
  M : Own w' (w.heap.size + 2) 29 3 (.slice y.mO y.mn y.mc) y.mn (mtc y.md)
  yy : ∀ j, j < x.yn → LyO w w' (y.ly j) ∧ SmL (x.ly j) (y.ly j)
  mm : ∀ j, j < x.mn → OwM w w' (y.md j) ∧ SmM (x.md j) (y.md j)
  low : Below w.heap.size w w'
theorem Lk.ends {w wx : World} {x y : WtD} {ly : Nat → LyD} (h : Lk w wx x y x.yn ly) (hb : BS x y) (cs : Array Value) : Cpy w (wx.setRow (w.heap.size + 1) cs) x { y with ly := ly } := by
  have s : ∀ {e9 : TypeId} {sz9 n9 : Nat} {v9 : Value} {cs9 : Nat → Value}, Own wx (w.heap.size + 2) e9 sz9 v9 n9 cs9 → Own (wx.setRow (w.heap.size + 1) cs) (w.heap.size + 2) e9 sz9 v9 n9 cs9 := fun ho => ho.setRow (fun e => by have := (ho.lt _ e).1; omega)
  exact ⟨⟨hb.cfg, hb.E, hb.Q, hb.F, hb.T, hb.Y, hb.M⟩, s h.q.oE, s h.q.oQ, s h.q.oF, s h.q.oT, s h.q.oY, s h.q.oM, fun j hj => ⟨⟨s (h.dn j hj).1.1, s (h.dn j hj).1.2.1, fun q hq => s ((h.dn j hj).1.2.2 q hq)⟩, (h.dn j hj).2⟩, fun j hj => ⟨s (h.m j hj).1, (h.m j hj).2⟩, below_setRow h.q.cp.low (by omega) cs⟩
/-- what may be read of layer i -/
theorem Cq.lcell {w wx : World} {y : WtD} (h : Cq w wx y) {g n c : Nat} (hg : y.yO = some ⟨g, 0, none⟩) (hn : y.yn = n) (hc : y.yc = c) {i : Nat} (hi : i < n) : (∀ t, t < 30 → wx.cell? ⟨g, i * 30 + t, none⟩ = some ((lyL (y.ly i)).getD t undef)) ∧ (∀ j, wx.frozen? ⟨g, j, none⟩ = false) ∧ wx.cell? ⟨w.heap.size, 12, none⟩ = some (.slice (some ⟨g, 0, none⟩) n c) := by
  have hm := h.oY
  rw [hg, hn, hc] at hm
  obtain ⟨g', e, _, _, hcell, hf⟩ := Own.at_ hm (by omega)
  cases e
  have k12 : wx.cell? ⟨w.heap.size, 12, none⟩ = some (.slice y.yO y.yn y.yc) := h.cp.box.cell (i := 12) (by decide)
  rw [hg, hn, hc] at k12
  refine ⟨fun t ht => ?_, hf, k12⟩
  rw [hcell (i * 30 + t) (by omega)]
  unfold lyc
  rw [show (i * 30 + t) / 30 = i by omega, show (i * 30 + t) % 30 = t by omega]
theorem lyL_mt (l : LyD) (q : Nat) (hq : q < 7) : (lyL l).getD (2 + 3 * q) undef = .int .i64 (mtI l q).R ∧ (lyL l).getD (2 + 3 * q + 1) undef = .int .i64 (mtI l q).C ∧ (lyL l).getD (2 + 3 * q + 2) undef = .slice (mtI l q).O (mtI l q).n (mtI l q).c := by
  match q, hq with
  | 0, _ => exact ⟨rfl, rfl, rfl⟩
  | 1, _ => exact ⟨rfl, rfl, rfl⟩
  | 2, _ => exact ⟨rfl, rfl, rfl⟩
  | 3, _ => exact ⟨rfl, rfl, rfl⟩
  | 4, _ => exact ⟨rfl, rfl, rfl⟩
  | 5, _ => exact ⟨rfl, rfl, rfl⟩
  | 6, _ => exact ⟨rfl, rfl, rfl⟩
end Go.Proofs.Ytilghknalbhacaa
