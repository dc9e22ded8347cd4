import Derived.Test.YtilghknalbhacaaJAR
import Derived.Test.YtilghknalbhacaaDvE
import Derived.Test.YtilghknalbhacaaJAT
import Derived.Test.YtilghknalbhacaaJAW
import Derived.Test.YtilghknalbhacaaCPX
import Derived.Test.YtilghknalbhacaaDcZ
namespace Go.Proofs.Ytilghknalbhacaa
open Go.RowKit
/-! The reference's Decode: how far it has come. -/
theorem wtc_Y (x : WtD) (o : Option Addr) (n c : Nat) (ly : Nat → LyD) (t : Nat) (ht : t < 18) : (if t = 12 then Value.slice o n c else wtc x t) = wtc { x with yO := o, yn := n, yc := c, ly := ly } t := by
  match t, ht with
  | 0, _ | 1, _ | 2, _ | 3, _ | 4, _ | 5, _ | 6, _ | 7, _ | 8, _ | 9, _ | 10, _ | 11, _ | 12, _ | 13, _ | 14, _ | 15, _ | 16, _ | 17, _ => rfl
  | j + 18, h => exact absurd h (by omega)
theorem wtc_M (x : WtD) (o : Option Addr) (n c : Nat) (md : Nat → MtD) (t : Nat) (ht : t < 18) : (if t = 17 then Value.slice o n c else wtc x t) = wtc { x with mO := o, mn := n, mc := c, md := md } t := by
  match t, ht with
  | 0, _ | 1, _ | 2, _ | 3, _ | 4, _ | 5, _ | 6, _ | 7, _ | 8, _ | 9, _ | 10, _ | 11, _ | 12, _ | 13, _ | 14, _ | 15, _ | 16, _ | 17, _ => rfl
  | j + 18, h => exact absurd h (by omega)
structure Rf (w wx : World) (cb wl bb : Nat) (cf : List Value) (x : WtD) (B : List Int) (p : Nat) : Prop where
  res : wx.rowIs w.heap.size 34 18 (fun i => wtZ.getD i undef)
  box : wx.rowIs cb 23 8 (fun i => cf.getD i undef)
  loc : wx.rowIs wl 34 18 (wtc x)
  own : WtO wx (wl + 1) x
  vw : Vw wx (w.heap.size + 1) bb B p
  low : Below w.heap.size w wx
  hb : w.heap.size + 2 ≤ cb
  hl : cb < wl
  hbb : bb ≤ w.heap.size
section
variable {w wx wy : World} {cb wl bb : Nat} {cf : List Value} {x y : WtD} {B : List Int} {p q : Nat}
theorem WtO.keep {b0 : Nat} {T : Nat → Prop} (h : WtO wx b0 x) (c : Chg wx wy T) (hT : ∀ b, b0 ≤ b → ¬ T b) : WtO wy b0 x := by
  have k : ∀ {e : TypeId} {sz n : Nat} {v : Value} {cs : Nat → Value}, Own wx b0 e sz v n cs → Own wy b0 e sz v n cs := fun ho => ho.chg c (fun b e => hT b (ho.lt b e).1)
  exact ⟨k h.oE, k h.oQ, k h.oF, k h.oT, k h.oY, k h.oM, fun j hj => (h.dY j hj).same k, fun j hj => k (h.dM j hj)⟩
theorem Rf.size (h : Rf w wx cb wl bb cf x B p) : wl < wx.heap.size := h.loc.lt
theorem Rf.mv {T : Nat → Prop} (h : Rf w wx cb wl bb cf x B p) (c : Chg wx wy T) (hT : ∀ b, T b → b = w.heap.size + 1) (v : Vw wy (w.heap.size + 1) bb B q) : Rf w wy cb wl bb cf x B q := by
  have h1 := h.hb
  have h2 := h.hl
  exact ⟨c.row h.res (fun t => by have := hT _ t; omega), c.row h.box (fun t => by have := hT _ t; omega), c.row h.loc (fun t => by have := hT _ t; omega), h.own.keep c (fun b hb t => by have := hT b t; omega), v, c.below h.low h.low.size (fun x t => by have := hT x t; omega), h1, h2, h.hbb⟩
theorem Rf.fresh (h : Rf w wx cb wl bb cf x B p) (f : Below wx.heap.size wx wy) : Rf w wy cb wl bb cf x B p := h.mv (Chg.of_below (fun _ => False) f) (fun _ t => t.elim) (h.vw.fresh f)
theorem Rf.call (h : Rf w wx cb wl bb cf x B p) (c : Chg wx wy (fun b => b = w.heap.size + 1)) (v : Vw wy (w.heap.size + 1) bb B q) : Rf w wy cb wl bb cf x B q := h.mv c (fun _ t => t) v
theorem Rf.to (h : Rf w wx cb wl bb cf x B p) (q : Nat) : Rf w (wx.setCell ⟨w.heap.size + 1, 1, none⟩ (.int .i64 (q : Int))) cb wl bb cf x B q := h.mv (Chg.of_set wx _ _ _) (fun _ t => t) (h.vw.move q)
theorem Rf.fld (h : Rf w wx cb wl bb cf x B p) (c : Chg wx wy (fun b => b = wl)) (hl : wy.rowIs wl 34 18 (wtc y)) (o : WtO wx (wl + 1) y) : Rf w wy cb wl bb cf y B p := by
  have h1 := h.hb
  have h2 := h.hl
  have h3 := h.hbb
  exact ⟨c.row h.res (by omega), c.row h.box (by omega), hl, o.keep c (fun b hb t => by omega), h.vw.chg c (by omega) (by omega), c.below h.low h.low.size (fun x t => by omega), h1, h2, h3⟩
theorem Rf.setE (h : Rf w wx cb wl bb cf x B p) (m : MtD) (hm : Own wx (wl + 1) 84 1 (.slice m.O m.n m.c) m.n (fun i => .int .i8 (m.f i))) : Rf w (((wx.setCell ⟨wl, 8, none⟩ (.int .i64 m.R)).setCell ⟨wl, 9, none⟩ (.int .i64 m.C)).setCell ⟨wl, 10, none⟩ (.slice m.O m.n m.c)) cb wl bb cf { x with E := m } B p :=
  h.fld (chg3 wx wl 8 9 10 _ _ _) ((((h.loc.set 8 _).set 9 _).set 10 _).congr (fun t ht => wtc_E x m t ht)) ⟨hm, h.own.oQ, h.own.oF, h.own.oT, h.own.oY, h.own.oM, h.own.dY, h.own.dM⟩
theorem Rf.setQ (h : Rf w wx cb wl bb cf x B p) (m : MtD) (hm : Own wx (wl + 1) 84 1 (.slice m.O m.n m.c) m.n (fun i => .int .i8 (m.f i))) : Rf w (((wx.setCell ⟨wl, 14, none⟩ (.int .i64 m.R)).setCell ⟨wl, 15, none⟩ (.int .i64 m.C)).setCell ⟨wl, 16, none⟩ (.slice m.O m.n m.c)) cb wl bb cf { x with Q := m } B p :=
  h.fld (chg3 wx wl 14 15 16 _ _ _) ((((h.loc.set 14 _).set 15 _).set 16 _).congr (fun t ht => wtc_Q x m t ht)) ⟨h.own.oE, hm, h.own.oF, h.own.oT, h.own.oY, h.own.oM, h.own.dY, h.own.dM⟩
theorem Rf.setF (h : Rf w wx cb wl bb cf x B p) (m : LsD) (hm : Own wx (wl + 1) 84 1 (.slice m.O m.n m.c) m.n (fun i => .int .i8 (m.f i))) : Rf w (wx.setCell ⟨wl, 13, none⟩ (.slice m.O m.n m.c)) cb wl bb cf { x with F := m } B p :=
  h.fld (Chg.of_set wx wl 13 _) ((h.loc.set 13 _).congr (fun t ht => wtc_F x m t ht)) ⟨h.own.oE, h.own.oQ, hm, h.own.oT, h.own.oY, h.own.oM, h.own.dY, h.own.dM⟩
/-- one of the lists has grown, and lies in its field -/
theorem Rf.app {e : TypeId} {sz n : Nat} {v v' u : Value} {cs : Nat → Value} (h : Rf w wx cb wl bb cf x B p) (ho : Own wx (wl + 1) e sz v n cs) (ha : App wx wy v v') (j : Nat) (hy : ∀ t, t < 18 → (if t = j then u else wtc x t) = wtc y t) (k : WtO wy (wl + 1) y) : Rf w (wy.setCell ⟨wl, j, none⟩ u) cb wl bb cf y B p := by
  have h1 := h.hb
  have h2 := h.hl
  have h3 := h.hbb
  have c := Chg.of_app ha
  have c2 := Chg.of_set wy wl j u
  have hlt : ∀ b, v.ownBlock = some b → wl < b := fun b e => (ho.lt b e).1
  have kb : ∀ b, b ≤ wl → ¬ v.ownBlock = some b := fun b hb e => by have := hlt b e; omega
  exact ⟨c2.row (c.row h.res (kb _ (by omega))) (by omega), c2.row (c.row h.box (kb _ (by omega))) (by omega), ((c.row h.loc (kb _ (Nat.le_refl _))).set j u).congr hy, k.keep c2 (fun b hb t => by omega), (h.vw.chg c (kb _ (by omega)) (kb _ (by omega))).chg c2 (by omega) (by omega),
    c2.below (c.below h.low h.low.size (fun x t => by have := hlt x t; omega)) (Nat.le_trans h.low.size c.size) (fun x t => by omega), h1, h2, h3⟩
theorem WtO.appT {b0 : Nat} {v' : Value} {u : Option Addr} {n c : Nat} {C S : Nat → Int} (h : WtO wx b0 x) (ha : App wx wy (.slice x.tO x.tn x.tc) v') (hn : Own wy b0 97 2 (.slice u n c) n (tcs C S)) : WtO wy b0 { x with tO := u, tn := n, tc := c, tC := C, tS := S } := by
  have k : ∀ {e : TypeId} {sz n : Nat} {v : Value} {cs : Nat → Value}, 97 ≠ e → Own wx b0 e sz v n cs → Own wy b0 e sz v n cs := fun he hh => ha.own hh (h.oT.offT hh he)
  exact ⟨k (by decide) h.oE, k (by decide) h.oQ, k (by decide) h.oF, hn, k (by decide) h.oY, k (by decide) h.oM, fun j hj => (h.dY j hj).same (k (by decide)), fun j hj => k (by decide) (h.dM j hj)⟩
theorem WtO.appY {b0 : Nat} {v' : Value} {u : Option Addr} {c : Nat} {l : LyD} (h : WtO wx b0 x) (ha : App wx wy (.slice x.yO x.yn x.yc) v') (hl : Lo wx b0 l) (hn : Own wy b0 67 30 (.slice u (x.yn + 1) c) (x.yn + 1) (lyc (updY x.ly x.yn l))) : WtO wy b0 { x with yO := u, yn := x.yn + 1, yc := c, ly := updY x.ly x.yn l } := by
  have k : ∀ {e : TypeId} {sz n : Nat} {v : Value} {cs : Nat → Value}, 67 ≠ e → Own wx b0 e sz v n cs → Own wy b0 e sz v n cs := fun he hh => ha.own hh (h.oY.offT hh he)
  refine ⟨k (by decide) h.oE, k (by decide) h.oQ, k (by decide) h.oF, k (by decide) h.oT, hn, k (by decide) h.oM, fun j hj => ?_, fun j hj => k (by decide) (h.dM j hj)⟩
  show Lo wy b0 (updY x.ly x.yn l j)
  have hj : j < x.yn + 1 := hj
  unfold updY
  by_cases e : j = x.yn
  · rw [if_pos e]; exact hl.same (k (by decide))
  · rw [if_neg e]; exact (h.dY j (by omega)).same (k (by decide))
theorem WtO.appM {b0 : Nat} {v' : Value} {u : Option Addr} {c : Nat} {m : MtD} (h : WtO wx b0 x) (ha : App wx wy (.slice x.mO x.mn x.mc) v') (hm : Own wx b0 84 1 (.slice m.O m.n m.c) m.n (fun i => .int .i8 (m.f i))) (hn : Own wy b0 29 3 (.slice u (x.mn + 1) c) (x.mn + 1) (mtc (updM x.md x.mn m))) : WtO wy b0 { x with mO := u, mn := x.mn + 1, mc := c, md := updM x.md x.mn m } := by
  have k : ∀ {e : TypeId} {sz n : Nat} {v : Value} {cs : Nat → Value}, 29 ≠ e → Own wx b0 e sz v n cs → Own wy b0 e sz v n cs := fun he hh => ha.own hh (h.oM.offT hh he)
  refine ⟨k (by decide) h.oE, k (by decide) h.oQ, k (by decide) h.oF, k (by decide) h.oT, k (by decide) h.oY, hn, fun j hj => (h.dY j hj).same (k (by decide)), fun j hj => ?_⟩
  show Own wy b0 84 1 (.slice (updM x.md x.mn m j).O (updM x.md x.mn m j).n (updM x.md x.mn m j).c) (updM x.md x.mn m j).n (fun i => .int .i8 ((updM x.md x.mn m j).f i))
  have hj : j < x.mn + 1 := hj
  unfold updM
  by_cases e : j = x.mn
  · rw [if_pos e]; exact k (by decide) hm
  · rw [if_neg e]; exact k (by decide) (h.dM j (by omega))
theorem Rf.cell (h : Rf w wx cb wl bb cf x B p) {j : Nat} (hj : j < 8) : wx.cell? ⟨cb, j, none⟩ = some (cf.getD j undef) := h.box.cell hj
theorem Rf.at1 (h : Rf w wx cb wl bb cf x B p) : wx.cell? ⟨w.heap.size + 1, 1, none⟩ = some (.int .i64 (p : Int)) ∧ ∀ j, wx.frozen? ⟨w.heap.size + 1, j, none⟩ = false := by
  obtain ⟨bo, cc, hr, _, _⟩ := h.vw.ex
  exact ⟨hr.cell (i := 1) (by decide), hr.frozen⟩
end
end Go.Proofs.Ytilghknalbhacaa
namespace Go.Proofs.Ytilghknalbhacaa
open Go.RowKit
/-! What a view finds in a file. -/
/-- the bytes X lie in B from p on -/
def AtB (B : List Int) (p : Nat) (X : List Int) : Prop := ∀ i, i < X.length → B.getD (p + i) 0 = X.getD i 0
theorem getD_app1 {X Y : List Int} {j : Nat} (h : j < X.length) : (X ++ Y).getD j 0 = X.getD j 0 := by
  rw [List.getD_eq_getElem?_getD, List.getD_eq_getElem?_getD, List.getElem?_append_left h]
theorem getD_app2 {X Y : List Int} (j : Nat) : (X ++ Y).getD (X.length + j) 0 = Y.getD j 0 := by
  rw [List.getD_eq_getElem?_getD, List.getD_eq_getElem?_getD, List.getElem?_append_right (by omega), Nat.add_sub_cancel_left]
theorem AtB.all (B : List Int) : AtB B 0 B := fun i _ => by rw [Nat.zero_add]
theorem AtB.pre {B X Y : List Int} {p : Nat} (h : AtB B p (X ++ Y)) : AtB B p X := fun i hi => by
  rw [h i (by rw [List.length_append]; omega), getD_app1 hi]
theorem AtB.suf {B X Y : List Int} {p q : Nat} (h : AtB B p (X ++ Y)) (e : q = p + X.length) : AtB B q Y := fun i hi => by
  rw [e, Nat.add_assoc, h (X.length + i) (by rw [List.length_append]; omega), getD_app2]
theorem AtB.sec {B M : List Int} {p : Nat} {c : Int} (h : AtB B p (secL c M)) : AtB B (p + 5) M := by
  rw [secL_eq] at h
  exact h.suf (by simp [num_len])
theorem AtB.nb {B : List Int} {p n : Nat} {f : Nat → Int} (h : AtB B p (nbL f n)) (hf : I8 f n) : ∀ i, i < n → f i = vnF B p i := fun i hi => by
  have e := h i (by rw [nbL_len]; exact hi)
  have e2 : (nbL f n).getD i 0 = f i % 256 := by
    unfold nbL
    rw [List.getD_eq_getElem?_getD, List.getElem?_map, List.getElem?_range hi]
    rfl
  unfold vnF i8v
  rw [e, e2]
  have := hf i hi
  split <;> omega
theorem num2_at {B : List Int} {p : Nat} {x : Int} (h : AtB B p (num (u64of x) 2)) (hx : -32768 ≤ x ∧ x ≤ 32767) : x = i16v (B.getD p 0 + 256 * B.getD (p + 1) 0) := by
  have h0 := h 0 (by rw [num_len]; decide)
  have h1 := h 1 (by rw [num_len]; decide)
  have e : num (u64of x) 2 = [((u64of x / 256 ^ 0 % 256 : Nat) : Int), ((u64of x / 256 ^ 1 % 256 : Nat) : Int)] := rfl
  rw [e] at h0 h1
  have h0 : B.getD p 0 = ((u64of x / 256 ^ 0 % 256 : Nat) : Int) := h0
  have h1 : B.getD (p + 1) 0 = ((u64of x / 256 ^ 1 % 256 : Nat) : Int) := h1
  rw [h0, h1]
  unfold u64of i16v
  simp only [Nat.pow_zero, Nat.div_one, Nat.pow_one]
  split <;> omega
theorem AtB.tr {B : List Int} {p : Nat} {C S : Nat → Int} : ∀ n, AtB B p (trL C S n) → (∀ i, i < n → (-32768 ≤ C i ∧ C i ≤ 32767) ∧ (-32768 ≤ S i ∧ S i ≤ 32767)) → ∀ i, i < n → C i = i16v (B.getD (p + i * 4) 0 + 256 * B.getD (p + i * 4 + 1) 0) ∧ S i = i16v (B.getD (p + i * 4 + 2) 0 + 256 * B.getD (p + i * 4 + 2 + 1) 0)
  | 0, _, _ => fun i hi => absurd hi (by omega)
  | n + 1, h, k => fun i hi => by
    rw [trL_succ] at h
    by_cases e : i = n
    · subst e
      refine ⟨num2_at (h.pre.suf (by rw [trL_len])) (k i (by omega)).1, num2_at (h.suf (by rw [List.length_append, trL_len, num_len]; omega)) (k i (by omega)).2⟩
    · exact AtB.tr n h.pre.pre (fun j hj => k j (by omega)) i (by omega)
theorem yB_lenG {ly : Nat → LyD} {n LL : Nat} : ∀ k, (∀ j, j < k → (lyB (ly j)).length = LL) → (yB ly k).length = k * (LL + 5)
  | 0, _ => by show ([] : List Int).length = _; simp
  | k + 1, h => by
    show (yB ly k ++ secL 76 (lyB (ly k))).length = _
    rw [List.length_append, secL_len, h k (by omega), yB_lenG (n := n) k (fun j hj => h j (by omega)), Nat.succ_mul]
theorem AtB.ly {B : List Int} {p LL : Nat} {ly : Nat → LyD} : ∀ n, AtB B p (yB ly n) → (∀ j, j < n → (lyB (ly j)).length = LL) → ∀ j, j < n → AtB B (p + j * (LL + 5)) (secL 76 (lyB (ly j)))
  | 0, _, _ => fun j hj => absurd hj (by omega)
  | n + 1, h, k => fun j hj => by
    have h' : AtB B p (yB ly n ++ secL 76 (lyB (ly n))) := h
    by_cases e : j = n
    · subst e
      exact h'.suf (by rw [yB_lenG (n := j) j (fun i hi => k i (by omega))])
    · exact AtB.ly n h'.pre (fun i hi => k i (by omega)) j (by omega)
theorem mdB_lenG {md : Nat → MtD} {P : Nat} : ∀ k, (∀ j, j < k → (md j).n = P) → (mdB md k).length = k * (P + 5)
  | 0, _ => by show ([] : List Int).length = _; simp
  | k + 1, h => by
    show (mdB md k ++ secL 77 (nbL (md k).f (md k).n)).length = _
    rw [List.length_append, secL_len, nbL_len, h k (by omega), mdB_lenG k (fun j hj => h j (by omega)), Nat.succ_mul]
theorem AtB.md {B : List Int} {p P : Nat} {md : Nat → MtD} : ∀ n, AtB B p (mdB md n) → (∀ j, j < n → (md j).n = P) → ∀ j, j < n → AtB B (p + j * (P + 5)) (secL 77 (nbL (md j).f (md j).n))
  | 0, _, _ => fun j hj => absurd hj (by omega)
  | n + 1, h, k => fun j hj => by
    have h' : AtB B p (mdB md n ++ secL 77 (nbL (md n).f (md n).n)) := h
    by_cases e : j = n
    · subst e
      exact h'.suf (by rw [mdB_lenG j (fun i hi => k i (by omega))])
    · exact AtB.md n h'.pre (fun i hi => k i (by omega)) j (by omega)
theorem posM_succ (q a b c : Nat) : ∀ k, k < 7 → posM q a b c (k + 1) = posM q a b c k + szM a b c k
  | 0, _ | 1, _ | 2, _ | 3, _ | 4, _ | 5, _ | 6, _ => rfl
theorem posM_len (p nW a b c : Nat) : ∀ k, k ≤ 7 → posM (p + nW + nW) a b c k = p + lenM nW a b c k
  | 0, _ => by show p + nW + nW = p + (nW + nW); omega
  | k + 1, h => by rw [posM_succ _ _ _ _ k (by omega), posM_len p nW a b c k (by omega)]; show _ = p + (lenM nW a b c k + szM a b c k); omega
theorem mB_lenG {l : LyD} {nW a b c : Nat} (h1 : l.n1.n = nW) (h2 : l.n2.n = nW) (hm : ∀ q, q < 7 → (mtI l q).n = szM a b c q) : ∀ k, k ≤ 7 → (mB l k).length = lenM nW a b c k
  | 0, _ => by rw [mB_zero, List.length_append, nbL_len, nbL_len, h1, h2]; rfl
  | k + 1, hk => by rw [mB_succ, List.length_append, nbL_len, mB_lenG h1 h2 hm k (by omega), hm k (by omega)]; rfl
/-- what the view reads of a layer that lies at p -/
theorem AtB.layer {B : List Int} {p nW a b c : Nat} {l : LyD} (h : AtB B p (lyB l)) (h1 : l.n1.n = nW) (h2 : l.n2.n = nW) (hm : ∀ q, q < 7 → (mtI l q).n = szM a b c q) (i1 : I8 l.n1.f l.n1.n) (i2 : I8 l.n2.f l.n2.n) (im : ∀ q, q < 7 → I8 (mtI l q).f (mtI l q).n) (is' : ∀ i, i < 7 → -128 ≤ l.sh i ∧ l.sh i ≤ 127) :
    (∀ i, i < nW → l.n1.f i = vnF B p i) ∧ (∀ i, i < nW → l.n2.f i = vnF B (p + nW) i) ∧ (∀ q, q < 7 → ∀ i, i < szM a b c q → (mtI l q).f i = vnF B (posM (p + nW + nW) a b c q) i) ∧ ∀ i, i < 7 → l.sh i = vnF B (posM (p + nW + nW) a b c 7) i := by
  have hL := mB_lenG h1 h2 hm
  have h7 := h.pre
  have hs := h.suf (q := posM (p + nW + nW) a b c 7) (by rw [hL 7 (Nat.le_refl _), posM_len _ _ _ _ _ 7 (Nat.le_refl _)])
  have key : ∀ k, k ≤ 7 → AtB B p (mB l k) → (∀ i, i < nW → l.n1.f i = vnF B p i) ∧ (∀ i, i < nW → l.n2.f i = vnF B (p + nW) i) ∧ ∀ q, q < k → ∀ i, i < szM a b c q → (mtI l q).f i = vnF B (posM (p + nW + nW) a b c q) i := by
    intro k
    induction k with
    | zero =>
      intro _ hk
      rw [mB_zero] at hk
      have e1 := hk.pre.nb i1
      have e2 := (hk.suf (q := p + nW) (by rw [nbL_len, h1])).nb i2
      rw [h1] at e1
      rw [h2] at e2
      exact ⟨e1, e2, fun q hq => absurd hq (by omega)⟩
    | succ k ih =>
      intro hk hh
      rw [mB_succ] at hh
      obtain ⟨b1, b2, b3⟩ := ih (by omega) hh.pre
      have e := (hh.suf (q := posM (p + nW + nW) a b c k) (by rw [hL k (by omega), posM_len _ _ _ _ _ k (by omega)])).nb (im k (by omega))
      rw [hm k (by omega)] at e
      refine ⟨b1, b2, fun q hq => ?_⟩
      by_cases eq : q = k
      · subst eq; exact e
      · exact b3 q (by omega)
  obtain ⟨b1, b2, b3⟩ := key 7 (Nat.le_refl _) h7
  exact ⟨b1, b2, b3, hs.nb is'⟩
/-! The same numbers, the same bytes. -/
theorem nbL_same {f g : Nat → Int} {n : Nat} (h : ∀ i, i < n → f i = g i) : nbL f n = nbL g n := by
  unfold nbL
  exact List.map_congr_left (fun i hi => by rw [h i (List.mem_range.1 hi)])
theorem trL_same {C S C' S' : Nat → Int} : ∀ n, (∀ i, i < n → C i = C' i ∧ S i = S' i) → trL C S n = trL C' S' n
  | 0, _ => rfl
  | n + 1, h => by rw [trL_succ, trL_succ, trL_same n (fun i hi => h i (by omega)), (h n (by omega)).1, (h n (by omega)).2]
theorem lyB_same {l m : LyD} {nW a b c : Nat} (h : AlL l m nW a b c) (h1 : l.n1.n = nW) (h2 : l.n2.n = nW) (hm : ∀ q, q < 7 → (mtI l q).n = szM a b c q) (k1 : m.n1.n = nW) (k2 : m.n2.n = nW) (km : ∀ q, q < 7 → (mtI m q).n = szM a b c q) : lyB l = lyB m := by
  have key : ∀ k, k ≤ 7 → mB l k = mB m k := by
    intro k
    induction k with
    | zero => intro _; rw [mB_zero, mB_zero, h1, h2, k1, k2, nbL_same h.n1, nbL_same h.n2]
    | succ k ih => intro hk; rw [mB_succ, mB_succ, ih (by omega), hm k (by omega), km k (by omega), nbL_same (h.mt k (by omega))]
  unfold lyB
  rw [key 7 (Nat.le_refl _), nbL_same h.sh]
theorem al_mid {V H K L D N M kv : Int} {nW nL nM tn P a b c : Nat} {x y : WtD} (hx : WtL V H K L D N M kv nW nL nM tn P a b c x) (hy : WtL V H K L D N M kv nW nL nM tn P a b c y) (h : Al x y nW nL nM tn P a b c) : midL x = midL y := by
  have kY : ∀ k, k ≤ nL → yB x.ly k = yB y.ly k := by
    intro k
    induction k with
    | zero => intro _; rfl
    | succ k ih =>
      intro hk
      show yB x.ly k ++ secL 76 (lyB (x.ly k)) = yB y.ly k ++ secL 76 (lyB (y.ly k))
      rw [ih (by omega), lyB_same (h.ly k (by omega)) (hx.y1 k (by omega)) (hx.y2 k (by omega)) (fun q hq => (hx.ym k (by omega) q hq).2.2) (hy.y1 k (by omega)) (hy.y2 k (by omega)) (fun q hq => (hy.ym k (by omega) q hq).2.2)]
  have kM : ∀ k, k ≤ nM → mdB x.md k = mdB y.md k := by
    intro k
    induction k with
    | zero => intro _; rfl
    | succ k ih =>
      intro hk
      show mdB x.md k ++ secL 77 (nbL (x.md k).f (x.md k).n) = mdB y.md k ++ secL 77 (nbL (y.md k).f (y.md k).n)
      rw [ih (by omega), (hx.m k (by omega)).2.2, (hy.m k (by omega)).2.2, nbL_same (h.md k (by omega))]
  unfold midL
  rw [hx.E.2.2, hy.E.2.2, hx.T, hy.T, hx.yn, hy.yn, hx.F, hy.F, hx.Q.2.2, hy.Q.2.2, hx.mn, hy.mn, kY nL (Nat.le_refl _), kM nM (Nat.le_refl _), nbL_same h.E, nbL_same h.F, nbL_same h.Q, trL_same tn h.T]
theorem al_file {V H K L D N M kv : Int} {nW nL nM tn P a b c : Nat} {x y : WtD} (hx : WtL V H K L D N M kv nW nL nM tn P a b c x) (hy : WtL V H K L D N M kv nW nL nM tn P a b c y) (h : Al x y nW nL nM tn P a b c) : fileL x = fileL y := by
  obtain ⟨c0, c1, c2, c3, c4, c5, c6, c7⟩ := hx.cf
  obtain ⟨d0, d1, d2, d3, d4, d5, d6, d7⟩ := hy.cf
  rw [file_eq, file_eq, al_mid hx hy h]
  unfold headL
  rw [c0, c1, c2, c3, c4, c5, c6, c7, d0, d1, d2, d3, d4, d5, d6, d7]
/-- how long a layer's section is -/
def lyN (nW a b c : Nat) : Nat := lenM nW a b c 7 + 7 + 5
/-- what the view reads: where each part of the weights lies -/
structure VwK (B : List Int) (nW nL nM tn P a b c : Nat) (z : WtD) : Prop where
  E : ∀ i, i < P → z.E.f i = vnF B 24 i
  T : ∀ i, i < tn → z.tC i = i16v (B.getD (29 + P + i * 4) 0 + 256 * B.getD (29 + P + i * 4 + 1) 0) ∧ z.tS i = i16v (B.getD (29 + P + i * 4 + 2) 0 + 256 * B.getD (29 + P + i * 4 + 2 + 1) 0)
  y : ∀ j, j < nL → (∀ i, i < nW → (z.ly j).n1.f i = vnF B (29 + P + tn * 4 + j * lyN nW a b c + 5) i) ∧ (∀ i, i < nW → (z.ly j).n2.f i = vnF B (29 + P + tn * 4 + j * lyN nW a b c + 5 + nW) i) ∧ (∀ q, q < 7 → ∀ i, i < szM a b c q → (mtI (z.ly j) q).f i = vnF B (posM (29 + P + tn * 4 + j * lyN nW a b c + 5 + nW + nW) a b c q) i) ∧ ∀ i, i < 7 → (z.ly j).sh i = vnF B (posM (29 + P + tn * 4 + j * lyN nW a b c + 5 + nW + nW) a b c 7) i
  F : ∀ i, i < nW → z.F.f i = vnF B (34 + P + tn * 4 + nL * lyN nW a b c) i
  Q : ∀ i, i < P → z.Q.f i = vnF B (39 + P + tn * 4 + nL * lyN nW a b c + nW) i
  m : ∀ j, j < nM → ∀ i, i < P → (z.md j).f i = vnF B (44 + P + tn * 4 + nL * lyN nW a b c + nW + P + j * (P + 5)) i
theorem vwk_file {V H K L D N M kv : Int} {nW nL nM tn P a b c : Nat} {y : WtD} (hy : WtL V H K L D N M kv nW nL nM tn P a b c y) (iy : WtI y) (is' : ∀ j, j < nL → ∀ i, i < 7 → -128 ≤ (y.ly j).sh i ∧ (y.ly j).sh i ≤ 127) : VwK (fileL y) nW nL nM tn P a b c y := by
  have h0 : AtB (fileL y) 19 (midL y) := by
    have h : AtB (fileL y) 0 ((headL y ++ midL y) ++ lastL (headL y ++ midL y)) := by rw [← file_eq]; exact AtB.all _
    exact h.pre.suf rfl
  have lE : (secL 69 (nbL y.E.f y.E.n)).length = P + 5 := by rw [secL_len, nbL_len, hy.E.2.2]
  have lT : (secL 84 (trL y.tC y.tS y.tn)).length = tn * 4 + 5 := by rw [secL_len, trL_len, hy.T]
  have lJ : ∀ j, j < nL → (lyB (y.ly j)).length = lenM nW a b c 7 + 7 := fun j hj => lyB_szl (hy.y1 j hj) (hy.y2 j hj) (fun q hq => (hy.ym j hj q hq).2.2)
  have lY : (yB y.ly y.yn).length = nL * lyN nW a b c := by rw [hy.yn]; exact yB_lenG (n := nL) nL lJ
  have lF : (secL 70 (nbL y.F.f y.F.n)).length = nW + 5 := by rw [secL_len, nbL_len, hy.F]
  have lQ : (secL 72 (nbL y.Q.f y.Q.n)).length = P + 5 := by rw [secL_len, nbL_len, hy.Q.2.2]
  unfold midL at h0
  have aE := h0.pre.pre.pre.pre.pre.sec
  have aT := (h0.pre.pre.pre.pre.suf (q := 24 + P) (by rw [lE]; omega)).sec
  have aY := h0.pre.pre.pre.suf (q := 29 + P + tn * 4) (by rw [List.length_append, lE, lT]; omega)
  have aF := (h0.pre.pre.suf (q := 29 + P + tn * 4 + nL * lyN nW a b c) (by rw [List.length_append, List.length_append, lE, lT, lY]; omega)).sec
  have aQ := (h0.pre.suf (q := 34 + P + tn * 4 + nL * lyN nW a b c + nW) (by rw [List.length_append, List.length_append, List.length_append, lE, lT, lY, lF]; omega)).sec
  have aM := h0.suf (q := 39 + P + tn * 4 + nL * lyN nW a b c + nW + P) (by rw [List.length_append, List.length_append, List.length_append, List.length_append, lE, lT, lY, lF, lQ]; omega)
  have iE := iy.E
  have iQ := iy.Q
  have iF := iy.F
  have iT := iy.T
  have eE := aE.nb iE
  have eQ := aQ.nb iQ
  have eF := aF.nb iF
  have eT := aT.tr y.tn iT
  rw [hy.E.2.2] at eE
  rw [hy.Q.2.2] at eQ
  rw [hy.F] at eF
  rw [hy.T] at eT
  rw [hy.yn] at aY
  rw [hy.mn] at aM
  refine ⟨eE, fun i hi => ?_, fun j hj => ?_, fun i hi => ?_, fun i hi => ?_, fun j hj i hi => ?_⟩
  · have := eT i hi
    rw [show 24 + P + 5 = 29 + P by omega] at this
    exact this
  · have jy : j < y.yn := by rw [hy.yn]; exact hj
    exact (aY.ly nL lJ j hj).sec.layer (hy.y1 j hj) (hy.y2 j hj) (fun q hq => (hy.ym j hj q hq).2.2) (iy.y1 j jy) (iy.y2 j jy) (iy.ym j jy) (is' j hj)
  · rw [eF i hi]
    congr 1
    omega
  · rw [eQ i hi]
    congr 1
    omega
  · have jm : j < y.mn := by rw [hy.mn]; exact hj
    have im := iy.m j jm
    have := (aM.md nM (fun i hi => (hy.m i hi).2.2) j hj).sec.nb im
    rw [(hy.m j hj).2.2] at this
    rw [this i hi]
    congr 1
    omega
theorem VwK.al {B : List Int} {nW nL nM tn P a b c : Nat} {z y : WtD} (hz : VwK B nW nL nM tn P a b c z) (hy : VwK B nW nL nM tn P a b c y) : Al z y nW nL nM tn P a b c :=
  ⟨fun i hi => (hz.E i hi).trans (hy.E i hi).symm, fun i hi => (hz.Q i hi).trans (hy.Q i hi).symm, fun i hi => (hz.F i hi).trans (hy.F i hi).symm, fun i hi => ⟨(hz.T i hi).1.trans (hy.T i hi).1.symm, (hz.T i hi).2.trans (hy.T i hi).2.symm⟩,
    fun j hj => ⟨fun i hi => ((hz.y j hj).1 i hi).trans ((hy.y j hj).1 i hi).symm, fun i hi => ((hz.y j hj).2.1 i hi).trans ((hy.y j hj).2.1 i hi).symm, fun q hq i hi => ((hz.y j hj).2.2.1 q hq i hi).trans ((hy.y j hj).2.2.1 q hq i hi).symm, fun i hi => ((hz.y j hj).2.2.2 i hi).trans ((hy.y j hj).2.2.2 i hi).symm⟩,
    fun j hj i hi => (hz.m j hj i hi).trans (hy.m j hj i hi).symm⟩
end Go.Proofs.Ytilghknalbhacaa
namespace Go.Proofs.Ytilghknalbhacaa
open Go.RowKit
/-! The reference's Decode: what stands around its walk. -/
set_option maxHeartbeats 2000000 in
theorem eqBytes_any {w : World} {ao bo : Option Addr} {ca cb : Nat} {L M : List Int} (ha : RdA w ao 1 L.length ca (bV L)) (hb : RdA w bo 1 M.length cb (bV M)) :
    Calls Try.prog 17 #[.slice ao L.length ca, .slice bo M.length cb] w fun e w' => e = .returned (.bool (decide (L = M))) ∧ Below w.heap.size w w' := by
  obtain ⟨r, hr⟩ : ∃ r, Hid (r = decide (L = M)) := ⟨_, rfl⟩
  rw [← hr.out]
  obtain ⟨n, hn⟩ : ∃ n, Hid (n = L.length) := ⟨_, rfl⟩
  obtain ⟨m, hm⟩ : ∃ n, Hid (n = M.length) := ⟨_, rfl⟩
  rw [← hn.out] at ha ⊢
  rw [← hm.out] at hb ⊢
  have n1 := ha.le
  have n2 := ha.top
  have m1 := hb.le
  have m2 := hb.top
  unfold maxLen at n2 m2
  by_cases hl : n = m
  · subst hl
    go_enter Try.func17, Try.ntmps17
    go_wp2
    go_loopw [5] (fun i wr => ∃ k : Nat, k ≤ n ∧ i = .int .i64 k ∧ Hid (∀ j, j < k → L.getD j 0 = M.getD j 0) ∧ Below w.heap.size w wr) (fun i _ => n - (intOf i).toNat)
    case atStart => exact ⟨0, by omega, rfl, fun j hj => absurd hj (Nat.not_lt_zero _), Below.refl _ _⟩
    case round =>
      obtain ⟨k, hk, rfl, HE, hf⟩ := hrel
      by_cases hlt : k < n
      · obtain ⟨b1, o1, rfl, h1⟩ := (ha.fresh hf).one (by omega)
        obtain ⟨b2, o2, rfl, h2⟩ := (hb.fresh hf).one (by omega)
        obtain ⟨lk, hlk⟩ : ∃ z, Hid (z = L.getD k 0) := ⟨_, rfl⟩
        obtain ⟨mk, hmk⟩ : ∃ z, Hid (z = M.getD k 0) := ⟨_, rfl⟩
        have c1 : wr.cell? ⟨b1, o1 + k, none⟩ = some (.int .u8 lk) := by rw [hlk.out]; exact h1 k hlt
        have c2 : wr.cell? ⟨b2, o2 + k, none⟩ = some (.int .u8 mk) := by rw [hmk.out]; exact h2 k hlt
        clear h1 h2
        by_cases e : lk = mk
        · subst e
          have HE' : Hid (∀ j, j < k + 1 → L.getD j 0 = M.getD j 0) := fun j hj => by
            by_cases e : j = k
            · rw [e, ← hlk.out, ← hmk.out]
            · exact HE.out j (by omega)
          go_wp2
          go_quiet (fail)
          go_wp2
          go_roundw
          case rel => exact ⟨k + 1, by omega, by go_num, HE'.out, below_drewN hf _⟩
          case measure => simp [intOf]; omega
        · have e1 : (lk == mk) = false := by simpa using e
          have e2 : (lk != mk) = true := by simpa using e
          have e3 : decide (lk = mk) = false := decide_eq_false e
          have hrf : r = false := by
            rw [hr.out]
            exact decide_eq_false (fun h => e (by rw [hlk.out, hmk.out, h]))
          subst hrf
          go_wp2
          go_quiet (fail)
          go_wp2
          go_ret
          exact ⟨rfl, below_drewN hf _⟩
      · obtain rfl : k = n := by omega
        have hrt : r = true := by
          rw [hr.out]
          refine decide_eq_true (List.ext_getElem (by rw [← hn.out, ← hm.out]) (fun j h1 h2 => ?_))
          have := HE.out j (by rw [hn.out]; exact h1)
          rw [List.getD_eq_getElem?_getD, List.getD_eq_getElem?_getD, List.getElem?_eq_getElem h1, List.getElem?_eq_getElem h2] at this
          exact this
        subst hrt
        go_wp2
        go_ret
        exact ⟨rfl, hf⟩
  · have e1 : ¬ (n : Int) = (m : Int) := by omega
    have e2 : ((n : Int) == (m : Int)) = false := by simpa using e1
    have e3 : ((n : Int) != (m : Int)) = true := by simpa using e1
    have hrf : r = false := by
      rw [hr.out]
      exact decide_eq_false (fun h => hl (by rw [hn.out, hm.out, h]))
    subst hrf
    go_enter Try.func17, Try.ntmps17
    go_wp2
    go_ret
    exact ⟨rfl, Below.refl _ _⟩
theorem refenc_one {w : World} {x : WtD} (hx : WtR w x) : ∃ er L, ((er = 0 ∧ x.may ∧ WtP x ∧ L = fileL x) ∨ (er ≠ 0 ∧ ¬ (x.may ∧ WtP x))) ∧ Calls Try.prog 20 #[.agg (wtA x)] w fun e w' => ∃ u c, e = .returned (.tuple #[.slice u L.length c, .int .i64 er]) ∧ RdA w' u 1 L.length c (bV L) ∧ Below w.heap.size w w' := by
  by_cases hmp : x.may ∧ WtP x
  · obtain ⟨hm, hp⟩ := hmp
    refine ⟨0, fileL x, .inl ⟨rfl, hm, hp, rfl⟩, ?_⟩
    refine (refenc_ok hx (WtP.z hm hp (WtP.b hm hp)) hm hp).mono ?_
    rintro e w' ⟨u, c, rfl, ho, f⟩
    exact ⟨u, c, rfl, Own.rdb ho, f⟩
  · obtain ⟨er, he, h0⟩ : ∃ er, IsE x er ∧ er ≠ 0 := by
      by_cases hm : x.may
      · exact ⟨41, .inr (.inl ⟨hm, fun hp => hmp ⟨hm, hp⟩, rfl⟩), by decide⟩
      · exact ⟨40, .inl ⟨hm, rfl⟩, by decide⟩
    refine ⟨er, [], .inr ⟨h0, hmp⟩, ?_⟩
    refine (refenc_bad hx he h0).mono ?_
    rintro e w' ⟨e1, e3⟩
    exact ⟨none, 0, e1, ⟨Nat.le_refl _, Nat.zero_le _, fun h => absurd h (by show ¬ 0 < 0; omega)⟩, e3⟩
/-- all lists' numbers are what 8 bits hold -/
structure WtJ (x : WtD) : Prop where
  E : I8 x.E.f x.E.n
  Q : I8 x.Q.f x.Q.n
  F : I8 x.F.f x.F.n
  y1 : ∀ j, j < x.yn → I8 (x.ly j).n1.f (x.ly j).n1.n
  y2 : ∀ j, j < x.yn → I8 (x.ly j).n2.f (x.ly j).n2.n
  ym : ∀ j, j < x.yn → ∀ q, q < 7 → I8 (mtI (x.ly j) q).f (mtI (x.ly j) q).n
  m : ∀ j, j < x.mn → I8 (x.md j).f (x.md j).n
theorem WtO.rdJ {wx : World} {b0 : Nat} {x : WtD} (h : WtO wx b0 x) (i : WtJ x) : WtR wx x := by
  have hY := Own.rda h.oY
  have hM := Own.rda h.oM
  refine ⟨⟨Own.rda h.oE, i.E⟩, Own.rda h.oT, ⟨Own.rda h.oF, i.F⟩, ⟨Own.rda h.oQ, i.Q⟩, hY.le, hY.top, fun h0 => ?_, fun k hk => ?_, hM.le, hM.top, fun h0 => ?_, fun k hk => ⟨Own.rda (h.dM k hk), i.m k hk⟩⟩
  · obtain ⟨b, off, e, hc⟩ := hY.at_ h0
    refine ⟨b, off, e, fun k hk => lyC_of (fun t ht => ?_)⟩
    rw [Nat.add_assoc, hc (k * 30 + t) (by omega)]
    unfold lyc
    rw [show (k * 30 + t) / 30 = k by omega, show (k * 30 + t) % 30 = t by omega]
  · have m : ∀ q, q < 7 → MtR wx (mtI (x.ly k) q) := fun q hq => ⟨Own.rda ((h.dY k hk).mt q hq), i.ym k hk q hq⟩
    exact ⟨⟨Own.rda (h.dY k hk).n1, i.y1 k hk⟩, ⟨Own.rda (h.dY k hk).n2, i.y2 k hk⟩, m 0 (by decide), m 1 (by decide), m 2 (by decide), m 3 (by decide), m 4 (by decide), m 5 (by decide), m 6 (by decide)⟩
  · obtain ⟨b, off, e, hc⟩ := hM.at_ h0
    refine ⟨b, off, e, fun k hk => ⟨?_, ?_, ?_⟩⟩
    · have := hc (k * 3) (by omega)
      unfold mtc at this
      rw [show (k * 3) / 3 = k by omega, show (k * 3) % 3 = 0 by omega] at this
      exact this
    · have := hc (k * 3 + 1) (by omega)
      unfold mtc at this
      rw [show (k * 3 + 1) / 3 = k by omega, show (k * 3 + 1) % 3 = 1 by omega] at this
      rw [Nat.add_assoc]
      exact this
    · have := hc (k * 3 + 2) (by omega)
      unfold mtc at this
      rw [show (k * 3 + 2) / 3 = k by omega, show (k * 3 + 2) % 3 = 2 by omega] at this
      rw [Nat.add_assoc]
      exact this
theorem i8_vn {B : List Int} (hB : Byt B) {f : Nat → Int} {n p : Nat} (h : ∀ i, i < n → f i = vnF B p i) : I8 f n := fun i hi => by rw [h i hi]; exact vnF_bd hB p i
theorem VwK.j {B : List Int} (hB : Byt B) {V H K L D N M kv : Int} {nW nL nM tn P a b c : Nat} {z : WtD} (l : WtL V H K L D N M kv nW nL nM tn P a b c z) (h : VwK B nW nL nM tn P a b c z) : WtJ z := by
  refine ⟨by rw [l.E.2.2]; exact i8_vn hB h.E, by rw [l.Q.2.2]; exact i8_vn hB h.Q, by rw [l.F]; exact i8_vn hB h.F, fun j hj => ?_, fun j hj => ?_, fun j hj q hq => ?_, fun j hj => ?_⟩
  · rw [l.yn] at hj
    rw [l.y1 j hj]
    exact i8_vn hB (h.y j hj).1
  · rw [l.yn] at hj
    rw [l.y2 j hj]
    exact i8_vn hB (h.y j hj).2.1
  · rw [l.yn] at hj
    rw [(l.ym j hj q hq).2.2]
    exact i8_vn hB ((h.y j hj).2.2.1 q hq)
  · rw [l.mn] at hj
    rw [(l.m j hj).2.2]
    exact i8_vn hB (h.m j hj)
theorem cf_at {B : List Int} {y : WtD} (hm : y.may) (e : B = fileL y) : y.V = vnF B 11 0 ∧ y.W = vnF B 11 1 ∧ y.H = vnF B 11 2 ∧ y.K = vnF B 11 3 ∧ y.L = vnF B 11 4 ∧ y.D = vnF B 11 5 ∧ y.N = vnF B 11 6 ∧ y.M = vnF B 11 7 := by
  have h0 : AtB B 0 ((headL y ++ midL y) ++ lastL (headL y ++ midL y)) := by rw [e, file_eq]; exact AtB.all _
  have h1 : AtB B 11 (cfL y.V y.W y.H y.K y.L y.D y.N y.M) := (h0.pre.pre.suf (X := beginL) (q := 6) rfl).sec
  obtain ⟨⟨v0, v1⟩, ⟨w0, w1⟩, ⟨a0, a1⟩, hd, ⟨k0, k1⟩, _, ⟨l0, l1⟩, ⟨d0, d1⟩, ⟨n0, n1⟩, ⟨m0, m1⟩⟩ := hm
  have key : ∀ (i : Nat) (x : Int), i < 8 → (cfL y.V y.W y.H y.K y.L y.D y.N y.M).getD i 0 = x % 256 → 0 ≤ x → x ≤ 127 → x = vnF B 11 i := fun i x hi hx h2 h3 => by
    unfold vnF i8v
    rw [h1 i hi, hx]
    split <;> omega
  have hh : y.H ≤ 127 := by omega
  have hk : y.K ≤ 127 := by omega
  exact ⟨key 0 _ (by decide) rfl (by omega) (by omega), key 1 _ (by decide) rfl (by omega) (by omega), key 2 _ (by decide) rfl (by omega) (by omega), key 3 _ (by decide) rfl (by omega) (by omega), key 4 _ (by decide) rfl (by omega) (by omega), key 5 _ (by decide) rfl (by omega) (by omega), key 6 _ (by decide) rfl (by omega) (by omega), key 7 _ (by decide) rfl (by omega) (by omega)⟩
/-- bytes that are a file are what the view's weights are written as -/
theorem vw_back {B : List Int} {V H K L D N M kv : Int} {nW nL nM tn P a b c : Nat} {z : WtD} (hd : Dm V H K L D N M kv nW nL nM tn P a b c) (hV : V = vnF B 11 0) (hW : (nW : Int) = vnF B 11 1) (hH : H = vnF B 11 2) (hK : K = vnF B 11 3) (hL : L = vnF B 11 4) (hD : D = vnF B 11 5) (hN : N = vnF B 11 6) (hM : M = vnF B 11 7)
    (l : WtL V H K L D N M kv nW nL nM tn P a b c z) (h : VwK B nW nL nM tn P a b c z) {y : WtD} (hm : y.may) (hp : WtP y) (hi : WtI y) (e : B = fileL y) : WtP z ∧ fileL z = B := by
  obtain ⟨e0, e1, e2, e3, e4, e5, e6, e7⟩ := cf_at hm e
  have ly : WtL V H K L D N M kv nW nL nM tn P a b c y := WtP.l hd ⟨by rw [e0, hV], by rw [e1, hW], by rw [e2, hH], by rw [e3, hK], by rw [e4, hL], by rw [e5, hD], by rw [e6, hN], by rw [e7, hM]⟩ hp
  have ky : VwK B nW nL nM tn P a b c y := by
    rw [e]
    refine vwk_file ly hi (fun j hj i hi => ?_)
    have := (hp.y j (by rw [ly.yn]; exact hj)).sh i hi
    omega
  have al := h.al ky
  exact ⟨WtP.move l ly al hp, by rw [al_file l ly al, e]⟩
end Go.Proofs.Ytilghknalbhacaa
namespace Go.Proofs.Ytilghknalbhacaa
open Go.RowKit
/-! The reference's Decode: the walk. -/
def vC (B : List Int) (p : Nat) : Nat → Int := fun i => i16v (B.getD (p + i * 4) 0 + 256 * B.getD (p + i * 4 + 1) 0)
def vS (B : List Int) (p : Nat) : Nat → Int := fun i => i16v (B.getD (p + i * 4 + 2) 0 + 256 * B.getD (p + i * 4 + 2 + 1) 0)
/-- weights of these measures alone -/
def wtB (V W H K L D N M : Int) (C S : Nat → Int) : WtD := ⟨V, W, H, K, L, D, N, M, mtO0, none, 0, 0, C, S, none, 0, 0, fun _ => lyO0, ⟨none, 0, 0, fun _ => 0⟩, mtO0, none, 0, 0, fun _ => mtO0⟩
def withT (x : WtD) (o : Option Addr) (n c : Nat) : WtD := { x with tO := o, tn := n, tc := c }
def withY (x : WtD) (o : Option Addr) (n c : Nat) (ly : Nat → LyD) : WtD := { x with yO := o, yn := n, yc := c, ly := ly }
def withF (x : WtD) (m : LsD) : WtD := { x with F := m }
def withQ (x : WtD) (m : MtD) : WtD := { x with Q := m }
def withM (x : WtD) (o : Option Addr) (n c : Nat) (md : Nat → MtD) : WtD := { x with mO := o, mn := n, mc := c, md := md }
/-- what a view reads of a layer that begins at p -/
structure VL1 (B : List Int) (p nW a b c : Nat) (kv D : Int) (l : LyD) : Prop where
  kn : KnL l nW (vnF B (p + 5)) (vnF B (p + 5 + nW)) (rowM nW kv D) (colM nW D) (szM a b c) (fun r => vnF B (posM (p + 5 + nW + nW) a b c r)) 7
  sh : ∀ i, i < 7 → l.sh i = vnF B (posM (p + 5 + nW + nW) a b c 7) i
def withE (x : WtD) (m : MtD) : WtD := { x with E := m }
theorem vwk_of {B : List Int} {V H K L D N M kv : Int} {nW nL nM tn P a b c : Nat} {C S : Nat → Int} {uE uT oY uF uQ oM : Option Addr} {kE cT dY kF kQ dM p3 p5 p7 p8 LN : Nat} {ly : Nat → LyD} {md : Nat → MtD} {z : WtD} (hC : C = vC B (29 + P)) (hS : S = vS B (29 + P)) (h3 : p3 = 29 + P + tn * 4) (hLN : LN = lyN nW a b c) (h5 : p5 = p3 + nL * LN + 5) (h7 : p7 = p5 + nW + 5) (h8 : p8 = p7 + P)
    (hz : z = withM (withQ (withF (withY (withT (withE (wtB V (nW : Int) H K L D N M C S) ⟨V, (nW : Int), uE, P, kE, vnF B 24⟩) uT tn cT) oY nL dY ly) ⟨uF, nW, kF, vnF B p5⟩) ⟨V, (nW : Int), uQ, P, kQ, vnF B p7⟩) oM nM dM md)
    (hl : ∀ i, i < nL → VL1 B (p3 + i * LN) nW a b c kv D (ly i)) (hm : ∀ j, j < nM → (md j).R = V ∧ (md j).C = (nW : Int) ∧ (md j).n = P ∧ (md j).f = vnF B (p8 + j * (P + 5) + 5)) :
    WtL V H K L D N M kv nW nL nM tn P a b c z ∧ VwK B nW nL nM tn P a b c z := by
  subst hz hC hS h3 hLN h5 h7 h8
  refine ⟨⟨⟨rfl, rfl, rfl, rfl, rfl, rfl, rfl, rfl⟩, ⟨rfl, rfl, rfl⟩, ⟨rfl, rfl, rfl⟩, rfl, rfl, rfl, rfl, fun j hj => (hl j hj).kn.n1.1, fun j hj => (hl j hj).kn.n2.1, fun j hj q hq => ⟨((hl j hj).kn.mt q hq).1, ((hl j hj).kn.mt q hq).2.1, ((hl j hj).kn.mt q hq).2.2.1⟩, fun j hj => ⟨(hm j hj).1, (hm j hj).2.1, (hm j hj).2.2.1⟩⟩, ⟨fun i _ => rfl, fun i _ => ⟨rfl, rfl⟩, fun j hj => ⟨fun i _ => ?_, fun i _ => ?_, fun q hq i _ => ?_, fun i hi => ?_⟩, fun i _ => ?_, fun i _ => ?_, fun j hj i _ => ?_⟩⟩
  · show (ly j).n1.f i = _
    rw [(hl j hj).kn.n1.2]
  · show (ly j).n2.f i = _
    rw [(hl j hj).kn.n2.2]
  · show (mtI (ly j) q).f i = _
    rw [((hl j hj).kn.mt q hq).2.2.2]
  · exact (hl j hj).sh i hi
  · show vnF B (29 + P + tn * 4 + nL * lyN nW a b c + 5) i = _
    congr 1
    omega
  · show vnF B (29 + P + tn * 4 + nL * lyN nW a b c + 5 + nW + 5) i = _
    congr 1
    omega
  · show (md j).f i = _
    rw [(hm j hj).2.2.2]
    congr 1
    omega
theorem pos5 {p q : Nat} (h : q = p + 5) (hb : q ≤ 1099511627776) : (p : Int) + 5 = (q : Int) ∧ wrap64 (q : Int) = (q : Int) ∧ IntKind.i64.wrap (q : Int) = (q : Int) := by
  refine ⟨by omega, by unfold wrap64; omega, wrap_small _ (by omega) (by omega)⟩
/-- before the measures are known -/
structure R0 (w wx : World) (bb : Nat) (B : List Int) (p : Nat) : Prop where
  res : wx.rowIs w.heap.size 34 18 (fun i => wtZ.getD i undef)
  vw : Vw wx (w.heap.size + 1) bb B p
  low : Below w.heap.size w wx
  hbb : bb ≤ w.heap.size
theorem R0.mv {w wx wy : World} {bb : Nat} {B : List Int} {p q : Nat} {T : Nat → Prop} (h : R0 w wx bb B p) (c : Chg wx wy T) (hT : ∀ b, T b → b = w.heap.size + 1) (v : Vw wy (w.heap.size + 1) bb B q) : R0 w wy bb B q :=
  ⟨c.row h.res (fun t => by have := hT _ t; omega), v, c.below h.low h.low.size (fun x t => by have := hT x t; omega), h.hbb⟩
theorem R0.fresh {w wx wy : World} {bb : Nat} {B : List Int} {p : Nat} (h : R0 w wx bb B p) (f : Below wx.heap.size wx wy) : R0 w wy bb B p := h.mv (Chg.of_below (fun _ => False) f) (fun _ t => t.elim) (h.vw.fresh f)
theorem r0_start {w : World} {ao : Option Addr} {cap : Nat} {B : List Int} (h : RdA w ao 1 B.length cap (bV B)) (hB : Byt B) : ∃ bb, R0 w ((w.alloc (.cells #[.int .i64 0, .int .i64 0, .int .i64 0, .int .i64 0, .int .i64 0, .int .i64 0, .int .i64 0, .int .i64 0, .int .i64 0, .int .i64 0, .slice none 0 0, .slice none 0 0, .slice none 0 0, .slice none 0 0, .int .i64 0, .int .i64 0, .slice none 0 0, .slice none 0 0] 34)).alloc (.cells #[.slice ao B.length cap, .int .i64 6] 93)) bb B 6 := by
  obtain ⟨bb, h1, h2⟩ : ∃ bb, bb ≤ w.heap.size ∧ ∀ b o, ao = some ⟨b, o, none⟩ → 0 < B.length → b = bb := by
    by_cases h0 : 0 < B.length
    · obtain ⟨b, o, e, hc⟩ := h.at_ h0
      refine ⟨b, ?_, fun b' o' e' _ => by rw [e] at e'; cases e'; rfl⟩
      have := lt_of_cell (hc 0 (by omega))
      omega
    · exact ⟨w.heap.size, by omega, fun _ _ _ h => absurd h h0⟩
  have f := fresh_trans (fresh_alloc w (.cells #[.int .i64 0, .int .i64 0, .int .i64 0, .int .i64 0, .int .i64 0, .int .i64 0, .int .i64 0, .int .i64 0, .int .i64 0, .int .i64 0, .slice none 0 0, .slice none 0 0, .slice none 0 0, .slice none 0 0, .int .i64 0, .int .i64 0, .slice none 0 0, .slice none 0 0] 34)) (fresh_alloc _ (.cells #[.slice ao B.length cap, .int .i64 6] 93))
  refine ⟨bb, (World.rowIs_list w wtZ 34).alloc _, ⟨⟨ao, cap, ?_, h.fresh f, fun b o e k => h2 b o e k⟩, by omega, hB⟩, f, h1⟩
  have hr := World.rowIs_list (w.alloc (.cells #[.int .i64 0, .int .i64 0, .int .i64 0, .int .i64 0, .int .i64 0, .int .i64 0, .int .i64 0, .int .i64 0, .int .i64 0, .int .i64 0, .slice none 0 0, .slice none 0 0, .slice none 0 0, .slice none 0 0, .int .i64 0, .int .i64 0, .slice none 0 0, .slice none 0 0] 34)) [.slice ao B.length cap, .int .i64 6] 93
  rw [World.size_alloc] at hr
  refine hr.congr (fun i hi => ?_)
  have : i = 0 ∨ i = 1 := by have : i < 2 := hi; omega
  rcases this with rfl | rfl <;> rfl
set_option maxRecDepth 100000 in
set_option maxHeartbeats 16000000 in
theorem rdec_any {w : World} {ao : Option Addr} {cap : Nat} {B : List Int} (h : RdA w ao 1 B.length cap (bV B)) (hB : Byt B) :
    Calls Try.prog 27 #[.slice ao B.length cap] w fun e w' => DecP w w' B e := by
  obtain ⟨bb, h0⟩ := r0_start h hB
  have HR0 := hidd h0
  have HAO := hidd h
  obtain ⟨nB, HNB⟩ : ∃ n, Hid (n = B.length) := ⟨_, rfl⟩
  rw [← HNB.out] at HR0 ⊢
  clear h h0
  go_enter Try.func27, Try.ntmps27
  go_upto_region 2 with fail
  generalize ((w.alloc (.cells #[.int .i64 0, .int .i64 0, .int .i64 0, .int .i64 0, .int .i64 0, .int .i64 0, .int .i64 0, .int .i64 0, .int .i64 0, .int .i64 0, .slice none 0 0, .slice none 0 0, .slice none 0 0, .slice none 0 0, .int .i64 0, .int .i64 0, .slice none 0 0, .slice none 0 0] 34)).alloc (.cells #[.slice ao nB cap, .int .i64 6] 93)) = w2 at *
  have HVC := hidd (vcfg_any HR0.out.vw (by have := HR0.out.hbb; have := HR0.out.res.lt; omega) (by omega))
  obtain ⟨V, eV⟩ : ∃ z, Hid (z = vnF B 11 0) := ⟨_, rfl⟩
  obtain ⟨U, eU⟩ : ∃ z, Hid (z = vnF B 11 1) := ⟨_, rfl⟩
  obtain ⟨H, eH⟩ : ∃ z, Hid (z = vnF B 11 2) := ⟨_, rfl⟩
  obtain ⟨K, eK⟩ : ∃ z, Hid (z = vnF B 11 3) := ⟨_, rfl⟩
  obtain ⟨L, eL⟩ : ∃ z, Hid (z = vnF B 11 4) := ⟨_, rfl⟩
  obtain ⟨D, eD⟩ : ∃ z, Hid (z = vnF B 11 5) := ⟨_, rfl⟩
  obtain ⟨N, eN⟩ : ∃ z, Hid (z = vnF B 11 6) := ⟨_, rfl⟩
  obtain ⟨M, eM⟩ : ∃ z, Hid (z = vnF B 11 7) := ⟨_, rfl⟩
  rw [show 6 + 5 = 11 from rfl, ← eV.out, ← eU.out, ← eH.out, ← eK.out, ← eL.out, ← eD.out, ← eN.out, ← eM.out] at HVC
  go_upto_region 3 with (go_at_call 56; refine HVC.out.mono ?_; rintro e w5 ⟨rfl, hv5, hc5⟩; have HV5 := hidd hv5; have HC5 := hidd hc5; clear hv5 hc5)
  have HR5 := hidd (HR0.out.mv HC5.out (fun _ t => t) HV5.out)
  have HG6 := hidd (heap_new w5 (.cells #[.int .i64 V, .int .i64 U, .int .i64 H, .int .i64 K, .int .i64 L, .int .i64 D, .int .i64 N, .int .i64 M] 23))
  have f6 := fresh_alloc w5 (.cells #[.int .i64 V, .int .i64 U, .int .i64 H, .int .i64 K, .int .i64 L, .int .i64 D, .int .i64 N, .int .i64 M] 23)
  have HR6 := hidd (HR5.out.fresh f6)
  have HSZ5 : Hid (w.heap.size + 2 ≤ w5.heap.size) := by have := HV5.out.lt; show w.heap.size + 2 ≤ w5.heap.size; omega
  have hsz6 : (w5.alloc (.cells #[.int .i64 V, .int .i64 U, .int .i64 H, .int .i64 K, .int .i64 L, .int .i64 D, .int .i64 N, .int .i64 M] 23)).heap.size = w5.heap.size + 1 := by simp
  have HSZ6 := hidd hsz6
  have HRW6 : Hid ((w5.alloc (.cells #[.int .i64 V, .int .i64 U, .int .i64 H, .int .i64 K, .int .i64 L, .int .i64 D, .int .i64 N, .int .i64 M] 23)).rowIs w5.heap.size 23 8 (fun i => ([.int .i64 V, .int .i64 U, .int .i64 H, .int .i64 K, .int .i64 L, .int .i64 D, .int .i64 N, .int .i64 M] : List Value).getD i undef)) := World.rowIs_list w5 [.int .i64 V, .int .i64 U, .int .i64 H, .int .i64 K, .int .i64 L, .int .i64 D, .int .i64 N, .int .i64 M] 23
  clear HVC HV5 HC5 HR0 HR5 f6 hsz6 HG6
  generalize (w5.alloc (.cells #[.int .i64 V, .int .i64 U, .int .i64 H, .int .i64 K, .int .i64 L, .int .i64 D, .int .i64 N, .int .i64 M] 23)) = w6 at *
  generalize w5.heap.size = cb at *
  have c0 : w6.cell? ⟨cb, 0, none⟩ = some (.int .i64 V) := HRW6.out.cell (i := 0) (by decide)
  have c1 : w6.cell? ⟨cb, 1, none⟩ = some (.int .i64 U) := HRW6.out.cell (i := 1) (by decide)
  have c2 : w6.cell? ⟨cb, 2, none⟩ = some (.int .i64 H) := HRW6.out.cell (i := 2) (by decide)
  have c3 : w6.cell? ⟨cb, 3, none⟩ = some (.int .i64 K) := HRW6.out.cell (i := 3) (by decide)
  have c4 : w6.cell? ⟨cb, 4, none⟩ = some (.int .i64 L) := HRW6.out.cell (i := 4) (by decide)
  have c5 : w6.cell? ⟨cb, 5, none⟩ = some (.int .i64 D) := HRW6.out.cell (i := 5) (by decide)
  have c6 : w6.cell? ⟨cb, 6, none⟩ = some (.int .i64 N) := HRW6.out.cell (i := 6) (by decide)
  have c7 : w6.cell? ⟨cb, 7, none⟩ = some (.int .i64 M) := HRW6.out.cell (i := 7) (by decide)
  have HCK := hidd (config_ref V U H K L D N M w6)
  by_cases hmay : may V U H K L D N M
  case neg =>
    rw [mayE_no hmay] at HCK
    go_upto_region 4 with (go_at_call 10; refine HCK.out.mono ?_; rintro e w7 ⟨rfl, f7⟩; have HR7 := hidd (HR6.out.fresh f7); clear f7)
    obtain ⟨old, hold, hosz, _⟩ := HR7.out.res
    have HOLD := hidd hold
    have HOSZ : Hid (old.size = wtZ.toArray.size) := hosz
    have HLOW := hidd HR7.out.low
    clear hold hosz
    have SZZ : Hid ((Try.prog.info? 34).map (·.size) = some wtZ.toArray.size) := sizeW
    have OZZ : Hid (wtZ.toArray.all (·.oneCell') = true) := by show _ = _; kernel_rfl
    obtain ⟨ZZ, hZZ⟩ : ∃ Z, Z = wtZ.toArray := ⟨_, rfl⟩
    have HNMY := hidd hmay
    clear hmay c0 c1 c2 c3 c4 c5 c6 c7 HCK
    go_wp2_with (refine wpList_store_row rfl 34 _ _ rfl w.heap.size wtZ.toArray rfl rfl 34 old HOLD.out SZZ.out HOSZ.out OZZ.out ?_)
    refine bodyPost_ret (v := .tuple #[.agg wtZ.toArray, .int .i64 42]) ?_ ?_ ?_
    · exact results_cell_two Try.results27 _ _ w.heap.size 34 _ (0, 0) _ rfl _ rfl (setRow_heap _ _ _ _ _ _ HOLD.out) Try.underlying34 rfl SZZ.out
    · rfl
    · refine ⟨below_setRow HLOW.out (Nat.le_refl _) _, .inr ⟨rfl, fun y hy _ _ ey => HNMY.out ?_⟩⟩
      obtain ⟨k0, k1, k2, k3, k4, k5, k6, k7⟩ := cf_at hy ey
      rw [eV.out, eU.out, eH.out, eK.out, eL.out, eD.out, eN.out, eM.out, ← k0, ← k1, ← k2, ← k3, ← k4, ← k5, ← k6, ← k7]
      exact hy
  case pos =>
    rw [mayE_ok hmay] at HCK
    have HMAY := hidd hmay
    obtain ⟨kv, nW, nL, nM, tn, P, a, b, c, hU, hd⟩ := dm_of hmay
    subst hU
    have HD := hidd hd
    clear hmay hd
    go_upto_region 6 with (go_at_call 10; refine HCK.out.mono ?_; rintro e w7 ⟨rfl, f7⟩; have HR7 := hidd (HR6.out.fresh f7); have HRW7 := hidd (row_fresh HRW6.out f7); clear f7)
    clear c0 c1 c2 c3 c4 c5 c6 c7 HCK HR6 HRW6 HSZ6
    have c0 : w7.cell? ⟨cb, 0, none⟩ = some (.int .i64 V) := HRW7.out.cell (i := 0) (by decide)
    have c1 : w7.cell? ⟨cb, 1, none⟩ = some (.int .i64 (nW : Int)) := HRW7.out.cell (i := 1) (by decide)
    have c2 : w7.cell? ⟨cb, 2, none⟩ = some (.int .i64 H) := HRW7.out.cell (i := 2) (by decide)
    have c3 : w7.cell? ⟨cb, 3, none⟩ = some (.int .i64 K) := HRW7.out.cell (i := 3) (by decide)
    have c4 : w7.cell? ⟨cb, 4, none⟩ = some (.int .i64 L) := HRW7.out.cell (i := 4) (by decide)
    have c5 : w7.cell? ⟨cb, 5, none⟩ = some (.int .i64 D) := HRW7.out.cell (i := 5) (by decide)
    have c6 : w7.cell? ⟨cb, 6, none⟩ = some (.int .i64 N) := HRW7.out.cell (i := 6) (by decide)
    have c7 : w7.cell? ⟨cb, 7, none⟩ = some (.int .i64 M) := HRW7.out.cell (i := 7) (by decide)
    obtain ⟨C, hC⟩ : ∃ f, Hid (f = vC B (29 + P)) := ⟨_, rfl⟩
    obtain ⟨S, hS⟩ : ∃ f, Hid (f = vS B (29 + P)) := ⟨_, rfl⟩
    go_upto_region 7 with (refine wpList_store_row rfl 34 _ _ rfl w7.heap.size (wtA (wtB V (nW : Int) H K L D N M C S)) rfl rfl 34 _ (heap_new _ _) sizeW rfl (wtA_one _) ?_)
    try rw [World.setRow_alloc_new]
    try simp only [Act.put]
    have f8 := fresh_alloc w7 (.cells (wtA (wtB V (nW : Int) H K L D N M C S)) 34)
    have HL8 : Hid ((w7.alloc (.cells (wtA (wtB V (nW : Int) H K L D N M C S)) 34)).rowIs w7.heap.size 34 18 (wtc (wtB V (nW : Int) H K L D N M C S))) := World.rowIs_list w7 (wtL (wtB V (nW : Int) H K L D N M C S)) 34
    have HF8 : Hid (Rf w (w7.alloc (.cells (wtA (wtB V (nW : Int) H K L D N M C S)) 34)) cb w7.heap.size bb [.int .i64 V, .int .i64 (nW : Int), .int .i64 H, .int .i64 K, .int .i64 L, .int .i64 D, .int .i64 N, .int .i64 M] (wtB V (nW : Int) H K L D N M C S) B 19) := by
      have r := HR7.out.fresh f8
      exact ⟨r.res, row_fresh HRW7.out f8, HL8.out, ⟨own_nil _ _ _ _ _, own_nil _ _ _ _ _, own_nil _ _ _ _ _, own_nil _ _ _ _ _, own_nil _ _ _ _ _, own_nil _ _ _ _ _, fun j hj => absurd hj (Nat.not_lt_zero _), fun j hj => absurd hj (Nat.not_lt_zero _)⟩, r.vw, r.low, HSZ5.out, HRW7.out.lt, r.hbb⟩
    clear c0 c1 c2 c3 c4 c5 c6 c7 f8 HL8 HR7 HRW7 HSZ5
    generalize (w7.alloc (.cells (wtA (wtB V (nW : Int) H K L D N M C S)) 34)) = w8 at *
    generalize w7.heap.size = wl at *
    obtain ⟨CF, hCF⟩ : ∃ l, Hid (l = ([.int .i64 V, .int .i64 (nW : Int), .int .i64 H, .int .i64 K, .int .i64 L, .int .i64 D, .int .i64 N, .int .i64 M] : List Value)) := ⟨_, rfl⟩
    rw [← hCF.out] at HF8
    have HCV : Hid (∀ (wx : World) (x : WtD) (p : Nat), Rf w wx cb wl bb CF x B p → wx.cell? ⟨cb, 0, none⟩ = some (.int .i64 V) ∧ wx.cell? ⟨cb, 1, none⟩ = some (.int .i64 (nW : Int)) ∧ wx.cell? ⟨cb, 4, none⟩ = some (.int .i64 (nL : Int)) ∧ wx.cell? ⟨cb, 7, none⟩ = some (.int .i64 (nM : Int))) := fun wx x p hf => by
      have d0 := hf.cell (j := 0) (by decide)
      have d1 := hf.cell (j := 1) (by decide)
      have d4 := hf.cell (j := 4) (by decide)
      have d7 := hf.cell (j := 7) (by decide)
      rw [hCF.out] at d0 d1 d4 d7
      rw [← HD.out.L1, ← HD.out.M1]
      exact ⟨d0, d1, d4, d7⟩
    have HVM : Hid (∀ (wx : World) (x : WtD) (p : Nat), p ≤ 1099511627776 → Rf w wx cb wl bb CF x B p → Calls Try.prog 57 #[.pointer (some ⟨w.heap.size + 1, 0, none⟩), .int .i64 V, .int .i64 (nW : Int)] wx fun e w' => ∃ u k, e = .returned (.agg #[.int .i64 V, .int .i64 (nW : Int), .slice u P k]) ∧ Own w' (wl + 1) 84 1 (.slice u P k) P (fun i => .int .i8 (vnF B p i)) ∧ Rf w w' cb wl bb CF x B (p + P)) := fun wx x p hp hf => by
      refine (vmat_any hf.vw (by have := hf.hbb; have := hf.vw.lt; omega) HD.out.P1 HD.out.P2 hp).mono ?_
      rintro e w' ⟨u, k, rfl, ho, hv, hc⟩
      exact ⟨u, k, rfl, ho.weaken hf.size, hf.call hc hv⟩
    -- the matrix E
    have a1 := HF8.out.at1.1
    have fz := HF8.out.at1.2
    go_upto_region 8 with fail
    have HF9 : Hid (Rf w (w8.setCell ⟨w.heap.size + 1, 1, none⟩ (.int .i64 24)) cb wl bb CF (wtB V (nW : Int) H K L D N M C S) B 24) := HF8.out.to 24
    clear a1 fz HF8
    generalize w8.setCell ⟨w.heap.size + 1, 1, none⟩ (.int .i64 24) = w9 at *
    have HV9 := hidd (HVM.out w9 _ 24 (by omega) HF9.out)
    have c0 := (HCV.out _ _ _ HF9.out).1
    have c1 := (HCV.out _ _ _ HF9.out).2.1
    go_upto_region 9 with (go_at_call 57; refine HV9.out.mono ?_; rintro e w10 ⟨uE, kE, rfl, ho, hf⟩; have HO10 := hidd ho; have HF10 := hidd hf; have b8 : w10.cell? ⟨wl, 8, none⟩ = some (.int .i64 0) := hf.loc.cell (i := 8) (by decide); have b9 : w10.cell? ⟨wl, 9, none⟩ = some (.int .i64 0) := hf.loc.cell (i := 9) (by decide); have b10 : w10.cell? ⟨wl, 10, none⟩ = some (.slice none 0 0) := hf.loc.cell (i := 10) (by decide); have fz := hf.loc.frozen; clear ho hf)
    obtain ⟨x1, hx1⟩ : ∃ x, Hid (x = withE (wtB V (nW : Int) H K L D N M C S) ⟨V, (nW : Int), uE, P, kE, vnF B 24⟩) := ⟨_, rfl⟩
    obtain ⟨p1, hp1⟩ : ∃ p, Hid (p = 24 + P) := ⟨_, rfl⟩
    have HF11 : Hid (Rf w (((w10.setCell ⟨wl, 8, none⟩ (.int .i64 V)).setCell ⟨wl, 9, none⟩ (.int .i64 (nW : Int))).setCell ⟨wl, 10, none⟩ (.slice uE P kE)) cb wl bb CF x1 B p1) := by
      rw [hx1.out, hp1.out]
      exact HF10.out.setE ⟨V, (nW : Int), uE, P, kE, vnF B 24⟩ HO10.out
    clear HF9 HF10 HO10 HV9 b8 b9 b10 fz c0 c1
    generalize (((w10.setCell ⟨wl, 8, none⟩ (.int .i64 V)).setCell ⟨wl, 9, none⟩ (.int .i64 (nW : Int))).setCell ⟨wl, 10, none⟩ (.slice uE P kE)) = w11 at *
    -- the turns
    obtain ⟨p2, hp2⟩ : ∃ p, Hid (p = 29 + P) := ⟨_, rfl⟩
    have hPb : P ≤ 1048576 := HD.out.P2
    have ht16 : tn ≤ 16 := HD.out.t2
    obtain ⟨wq1, wq2, wq3⟩ := pos5 (p := p1) (q := p2) (by rw [hp1.out, hp2.out]; omega) (by rw [hp2.out]; omega)
    have a1 := HF11.out.at1.1
    have fz := HF11.out.at1.2
    go_upto_region 10 with fail
    have HF12 := hidd (HF11.out.to p2)
    clear a1 fz HF11 wq1 wq2 wq3
    generalize w11.setCell ⟨w.heap.size + 1, 1, none⟩ (.int .i64 (p2 : Int)) = w12 at *
    have HS12 : Hid (Rf w w12 cb wl bb CF { x1 with tO := none, tn := 0, tc := 0 } B (p2 + 0 * 4)) := by rw [Nat.zero_mul, Nat.add_zero, hx1.out]; rw [hx1.out] at HF12; exact HF12.out
    have HXC : Hid (x1.tC = C ∧ x1.tS = S) := by rw [hx1.out]; exact ⟨rfl, rfl⟩
    obtain ⟨hh, hhh⟩ : ∃ z, Hid (z = (nW : Int) / H) := ⟨_, rfl⟩
    have hdiv : hh.tdiv 2 = (tn : Int) := by
      have h0 : 0 ≤ hh := by rw [hhh.out]; exact Int.ediv_nonneg (by omega) (by have := HD.out.H1; omega)
      rw [Int.tdiv_eq_ediv_of_nonneg h0, hhh.out]
      exact HD.out.t1
    have HHD : Hid (∀ wx, Calls Try.prog 54 #[.agg #[.int .i64 V, .int .i64 (nW : Int), .int .i64 H, .int .i64 K, .int .i64 L, .int .i64 D, .int .i64 N, .int .i64 M]] wx fun e w' => e = .returned (.int .i64 hh) ∧ Below wx.heap.size wx w') := fun wx => by
      rw [hhh.out]
      exact head_ref V (nW : Int) H K L D N M wx HD.out.H1 HD.out.H4 HD.out.W2 HD.out.W3
    have HC8 : Hid (∀ (wx : World) (x : WtD) (p : Nat), Rf w wx cb wl bb CF x B p → ∀ j, j < 8 → wx.cell? ⟨cb, j, none⟩ = some (([.int .i64 V, .int .i64 (nW : Int), .int .i64 H, .int .i64 K, .int .i64 L, .int .i64 D, .int .i64 N, .int .i64 M] : List Value).getD j undef)) := fun wx x p hf j hj => by
      have := hf.cell hj
      rw [hCF.out] at this
      exact this
    have HVS : Hid (∀ (wx : World) (x : WtD) (p : Nat), p ≤ 1099511627776 → Rf w wx cb wl bb CF x B p → Calls Try.prog 58 #[.pointer (some ⟨w.heap.size + 1, 0, none⟩)] wx fun e w' => e = .returned (.int .i64 (i16v (B.getD p 0 + 256 * B.getD (p + 1) 0))) ∧ Rf w w' cb wl bb CF x B (p + 2)) := fun wx x p hp hf => by
      refine (vsmall_any hf.vw hp).mono ?_
      rintro e w' ⟨rfl, hv, hc⟩
      exact ⟨rfl, hf.call hc hv⟩
    clear HF12
    go_wp2_with fail
    go_loopw [8, 9, 10] (fun v8 _ _ wr => ∃ (k : Nat) (u : Option Addr) (c' : Nat), k ≤ tn ∧ v8 = .int .i64 k ∧ Hid (Rf w wr cb wl bb CF { x1 with tO := u, tn := k, tc := c' } B (p2 + k * 4))) (fun v8 _ _ _ => tn - (intOf v8).toNat)
    case atStart => exact ⟨0, none, 0, by omega, rfl, HS12.out⟩
    case round =>
      clear HS12
      obtain ⟨k, u, c', hk, rfl, HF⟩ := hrel
      have c0 := HC8.out _ _ _ HF.out 0 (by decide)
      have c1 := HC8.out _ _ _ HF.out 1 (by decide)
      have c2 := HC8.out _ _ _ HF.out 2 (by decide)
      have c3 := HC8.out _ _ _ HF.out 3 (by decide)
      have c4 := HC8.out _ _ _ HF.out 4 (by decide)
      have c5 := HC8.out _ _ _ HF.out 5 (by decide)
      have c6 := HC8.out _ _ _ HF.out 6 (by decide)
      have c7 := HC8.out _ _ _ HF.out 7 (by decide)
      simp only [List.getD_cons_zero, List.getD_cons_succ] at c0 c1 c2 c3 c4 c5 c6 c7
      by_cases hlt : k < tn
      · have hd1 : decide ((k : Int) < (tn : Int)) = true := decide_eq_true (by omega)
        go_upto_region 13 with (go_at_call 54; refine (HHD.out _).mono ?_; rintro e wa ⟨rfl, fa⟩; have HFa := hidd (HF.out.fresh fa); clear fa)
        clear c0 c1 c2 c3 c4 c5 c6 c7 HF
        have hpb : p2 + k * 4 ≤ 1099511627774 := by rw [hp2.out]; omega
        have e1 : i16v (B.getD (p2 + k * 4) 0 + 256 * B.getD (p2 + k * 4 + 1) 0) = x1.tC k := by rw [HXC.out.1, hC.out, hp2.out]; rfl
        have e2 : i16v (B.getD (p2 + k * 4 + 2) 0 + 256 * B.getD (p2 + k * 4 + 2 + 1) 0) = x1.tS k := by rw [HXC.out.2, hS.out, hp2.out]; rfl
        obtain ⟨ck, hck⟩ : ∃ z, Hid (z = x1.tC k) := ⟨_, rfl⟩
        obtain ⟨sk, hsk⟩ : ∃ z, Hid (z = x1.tS k) := ⟨_, rfl⟩
        have HX : Hid (∀ (w0 : World) (t : TypeId) (i : Nat), i < 1 * 2 → (w0.alloc (.cells #[.int .i64 ck, .int .i64 sk] t)).cell? ⟨w0.heap.size, i, none⟩ = some (tcs x1.tC x1.tS (k * 2 + i))) := fun w0 t i hi => by
          have q0 : tcs x1.tC x1.tS (k * 2) = .int .i64 (x1.tC k) := by unfold tcs; rw [if_pos (by omega), show k * 2 / 2 = k by omega]
          have q1 : tcs x1.tC x1.tS (k * 2 + 1) = .int .i64 (x1.tS k) := by unfold tcs; rw [if_neg (by omega), show (k * 2 + 1) / 2 = k by omega]
          match i, hi with
          | 0, _ => show _ = some (tcs x1.tC x1.tS (k * 2)); rw [q0, ← hck.out]; simp
          | 1, _ => rw [q1, ← hsk.out]; simp
        have HONE : Hid (∀ i, i < 1 * 2 → (tcs x1.tC x1.tS (k * 2 + i)).oneCell' = true) := fun i _ => by unfold tcs; split <;> rfl
        have HS1 := hidd (HVS.out wa _ _ (by omega) HFa.out)
        rw [e1, ← hck.out] at HS1
        go_upto_region 14 with (go_at_call 58; refine HS1.out.mono ?_; rintro e wb ⟨rfl, hb⟩; have HFb := hidd hb; clear hb)
        have HS2 := hidd (HVS.out wb _ _ (by omega) HFb.out)
        rw [e2, ← hsk.out] at HS2
        clear HS1 HFa
        go_upto_region 15 with (go_at_call 58; refine HS2.out.mono ?_; rintro e wc ⟨rfl, hb⟩; have HFc := hidd hb; clear hb)
        clear HS2 HFb e1 e2 hck hsk
        have b11 : wc.cell? ⟨wl, 11, none⟩ = some (.slice u k c') := HFc.out.loc.cell (i := 11) (by decide)
        have fd := fresh_alloc wc (.cells #[.int .i64 ck, .int .i64 sk] 97)
        have HFd := hidd (HFc.out.fresh fd)
        have HOT : Hid (Own (wc.alloc (.cells #[.int .i64 ck, .int .i64 sk] 97)) (wl + 1) 97 2 (.slice u k c') k (tcs x1.tC x1.tS)) := HFd.out.own.oT
        have HBG : Hid (wl + 1 ≤ (wc.alloc (.cells #[.int .i64 ck, .int .i64 sk] 97)).heap.size) := HFd.out.size
        clear fd HFc
        go_wp2_with (at_builtin; refine wpList_app _ rfl _ _ 30 rfl (wl + 1) 97 (.agg #[.int .i64 0, .int .i64 0]) 2 16 Try.underlying30 infoTu rfl (by decide) _ k (tcs x1.tC x1.tS) rfl HOT.out _ 1 1 rfl (HX.out _ _) HONE.out (by decide) (by unfold maxLen; omega) (by omega) HBG.out ?_)
        intro v' w6 hown' happ
        obtain ⟨u', c2, rfl, hrd⟩ := hown'.rd
        have r6 := (Chg.of_app happ).row HFd.out.loc (fun e => by have := (HOT.out.lt _ e).1; omega)
        have l6 : w6.cell? ⟨wl, 11, none⟩ = some (.slice u k c') := r6.cell (i := 11) (by decide)
        have fz6 := r6.frozen
        have HF7 : Hid (Rf w (w6.setCell ⟨wl, 11, none⟩ (.slice u' (k + 1) c2)) cb wl bb CF { x1 with tO := u', tn := k + 1, tc := c2 } B (p2 + k * 4 + 2 + 2)) := HFd.out.app HOT.out happ 11 (fun t ht => wtc_T { x1 with tO := u, tn := k, tc := c' } u' (k + 1) c2 x1.tC x1.tS t ht) (HFd.out.own.appT happ hown')
        rw [show p2 + k * 4 + 2 + 2 = p2 + (k + 1) * 4 by omega] at HF7
        clear hrd hown' happ r6 HFd HOT HBG HX HONE b11 hpb
        go_wp2_with fail
        go_roundw
        case rel => exact ⟨k + 1, u', c2, by omega, by go_num, HF7.out⟩
        case measure => simp [intOf]; omega
      · obtain rfl : k = tn := by omega
        clear hlt
        have hd1 : decide ((k : Int) < (k : Int)) = false := decide_eq_false (by omega)
        go_upto_region 16 with (go_at_call 54; refine (HHD.out _).mono ?_; rintro e wa ⟨rfl, fa⟩; have HFa := hidd (HF.out.fresh fa); clear fa)
        clear c0 c1 c2 c3 c4 c5 c6 c7 HF HVS HHD hdiv hhh hd1
        obtain ⟨x2, hx2⟩ : ∃ x, Hid (x = withT x1 u k c') := ⟨_, rfl⟩
        obtain ⟨p3, hp3⟩ : ∃ p, Hid (p = p2 + k * 4) := ⟨_, rfl⟩
        obtain ⟨LN, hLN⟩ : ∃ n, Hid (n = lyN nW a b c) := ⟨_, rfl⟩
        have hLNb : LN ≤ 10000000 := by
          rw [hLN.out]
          have h1 := HD.out.a1
          have h2 := HD.out.b1
          have h3 := HD.out.c1
          have h4 := HD.out.W3
          show nW + nW + a + b + b + a + c + c + c + 7 + 5 ≤ 10000000
          omega
        have hp3b : p3 ≤ 10000000 := by rw [hp3.out, hp2.out]; omega
        have hnL : nL ≤ 4 := HD.out.L4.2
        have HS2 : Hid (Rf w wa cb wl bb CF (withY x2 none 0 0 (fun _ => lyO0)) B (p3 + 0 * LN)) := by
          rw [Nat.zero_mul, Nat.add_zero, hx2.out, hx1.out, hp3.out]
          rw [hx1.out] at HFa
          exact HFa.out
        have HVL : Hid (∀ (wx : World) (x : WtD) (p : Nat), p ≤ 1099500000000 → Rf w wx cb wl bb CF x B p → Calls Try.prog 59 #[.pointer (some ⟨w.heap.size + 1, 0, none⟩), .agg #[.int .i64 V, .int .i64 (nW : Int), .int .i64 H, .int .i64 K, .int .i64 L, .int .i64 D, .int .i64 N, .int .i64 M]] wx fun e w' => ∃ l, e = .returned (.agg (lyA l)) ∧ Lo w' (wl + 1) l ∧ VL1 B p nW a b c kv D l ∧ Rf w w' cb wl bb CF x B (p + LN)) := fun wx x p hp hf => by
          refine (vlayer_any hf.vw (by have := hf.hbb; have := hf.vw.lt; omega) V H K L D N M kv nW a b c HD.out.H1 HD.out.H4 HD.out.W2 HD.out.W3 HD.out.kve HD.out.kv0 HD.out.kv1 HD.out.pa HD.out.pb HD.out.pc HD.out.pd HD.out.a1 HD.out.b1 HD.out.c1 hp).mono ?_
          rintro e w' ⟨l, rfl, hv⟩
          refine ⟨l, rfl, hv.own.weaken (by have := hf.size; omega), ⟨hv.kn, hv.sh⟩, hf.call hv.chg ?_⟩
          have e := hv.vw
          rw [posM_len (p + 5) nW a b c 7 (Nat.le_refl _)] at e
          rw [hLN.out, show p + lyN nW a b c = p + 5 + lenM nW a b c 7 + 7 by unfold lyN; omega]
          exact e
        clear HFa
        go_wp2_with fail
        go_loopw [11, 12] (fun v11 _ wr => ∃ (j : Nat) (o : Option Addr) (d : Nat) (ly : Nat → LyD), j ≤ nL ∧ v11 = .int .i64 j ∧ Hid (Rf w wr cb wl bb CF (withY x2 o j d ly) B (p3 + j * LN)) ∧ Hid (∀ i, i < j → VL1 B (p3 + i * LN) nW a b c kv D (ly i))) (fun v11 _ _ => nL - (intOf v11).toNat)
        case atStart => exact ⟨0, none, 0, _, by omega, rfl, HS2.out, fun i hi => absurd hi (Nat.not_lt_zero _)⟩
        case round =>
          clear HS2
          obtain ⟨j, o, d, ly, hj, rfl, HF, HLK⟩ := hrel
          by_cases hlt : j < nL
          · have hd1 : decide ((j : Int) < (nL : Int)) = true := decide_eq_true (by omega)
            have c0 := HC8.out _ _ _ HF.out 0 (by decide)
            have c1 := HC8.out _ _ _ HF.out 1 (by decide)
            have c2 := HC8.out _ _ _ HF.out 2 (by decide)
            have c3 := HC8.out _ _ _ HF.out 3 (by decide)
            have c4 := HC8.out _ _ _ HF.out 4 (by decide)
            have c5 := HC8.out _ _ _ HF.out 5 (by decide)
            have c6 := HC8.out _ _ _ HF.out 6 (by decide)
            have c7 := HC8.out _ _ _ HF.out 7 (by decide)
            simp only [List.getD_cons_zero, List.getD_cons_succ] at c0 c1 c2 c3 c4 c5 c6 c7
            have hL1 : L = (nL : Int) := HD.out.L1
            have hd2 : decide ((j : Int) < L) = true := by rw [hL1]; exact hd1
            have hjb : j * LN ≤ 40000000 := Nat.le_trans (Nat.mul_le_mul (show j ≤ 4 by omega) hLNb) (by decide)
            have HVLj := hidd (HVL.out _ _ _ (show p3 + j * LN ≤ 1099500000000 by omega) HF.out)
            clear hL1
            go_upto_region 20 with (first
              | (go_at_call 59; refine HVLj.out.mono ?_; rintro e wb ⟨l, rfl, hlo, hvl, hf⟩; have HLO := hidd hlo; have HV1 := hidd hvl; have HFb := hidd hf; clear hlo hvl hf)
              | (refine wpList_store_row rfl 67 _ _ rfl wb.heap.size (lyA l) rfl rfl 67 _ (heap_new _ _) sizeL rfl (lyA_one _) ?_))
            try rw [World.setRow_alloc_new]
            try simp only [Act.put]
            clear c0 c1 c2 c3 c4 c5 c6 c7 HF HVLj hd1 hd2
            have fA := fresh_alloc wb (.cells (lyA l) 67)
            have HFd := hidd (HFb.out.fresh fA)
            have HLd := hidd (HLO.out.same (fun ho => ho.kept fA))
            have RG : Hid ((wb.alloc (.cells (lyA l) 67)).rangeAt wb.heap.size 0 (lyA l).toList) := row_range (World.rowIs_list wb (lyL l) 67) rfl
            obtain ⟨T9, hT9⟩ : ∃ T9, T9 = lyA l := ⟨_, rfl⟩
            rw [← hT9] at HFd HLd RG ⊢
            have SL : Hid ((Try.prog.info? 67).map (·.size) = some T9.toList.length) := by rw [hT9]; exact sizeL
            have HT9 := hidd hT9
            clear fA HFb HLO hT9
            generalize (wb.alloc (.cells T9 67)) = wd at *
            generalize wb.heap.size = lb at *
            have b12 : wd.cell? ⟨wl, 12, none⟩ = some (.slice o j d) := HFd.out.loc.cell (i := 12) (by decide)
            have fE := fresh_alloc wd (.cells (lyA l) 67)
            have HFe := hidd (HFd.out.fresh fE)
            have HLe := hidd (HLd.out.same (fun ho => ho.kept fE))
            have HOY : Hid (Own (wd.alloc (.cells (lyA l) 67)) (wl + 1) 67 30 (.slice o j d) j (lyc (updY ly j l))) := by
              have h1 : Own (wd.alloc (.cells (lyA l) 67)) (wl + 1) 67 30 (.slice o j d) j (lyc ly) := HFe.out.own.oY
              exact h1.congr (fun i hi => lyc_prev ly j l i hi)
            have HNC : Hid (∀ i, i < 1 * 30 → (wd.alloc (.cells (lyA l) 67)).cell? ⟨wd.heap.size, i, none⟩ = some (lyc (updY ly j l) (j * 30 + i))) := fun i hi => by
              rw [lyc_last _ _ _ _ (by omega)]
              exact (World.rowIs_list wd (lyL l) 67).cell (i := i) (by show i < 30; omega)
            have HN1 : Hid (∀ i, i < 1 * 30 → (lyc (updY ly j l) (j * 30 + i)).oneCell' = true) := fun i _ => lyc_one _ (j * 30 + i + 1) _ (by omega)
            have HBG : Hid (wl + 1 ≤ (wd.alloc (.cells (lyA l) 67)).heap.size) := HFe.out.size
            clear fE HFd HLd
            go_wp2_with (first
              | refine wpList_load_mid rfl 67 _ rfl lb 0 rfl T9.toList _ RG.out Try.underlying67 rfl SL.out ?_
              | refine wpList_buildLy rfl _ rfl l (by rw [← HT9.out]; rfl) ?_
              | (at_builtin; refine wpList_app (wd.alloc (.cells (lyA l) 67)) rfl _ _ 31 rfl (wl + 1) 67 zLy 30 384 Try.underlying31 infoLy rfl (by decide) _ j (lyc (updY ly j l)) rfl HOY.out wd.heap.size 1 1 rfl HNC.out HN1.out (by decide) (by unfold maxLen; omega) (by omega) HBG.out ?_))
            rintro v' w6 hown' happ
            obtain ⟨u', c2, rfl, hrd⟩ := hown'.rd
            have r6 := (Chg.of_app happ).row HFe.out.loc (fun e => by have := (HOY.out.lt _ e).1; omega)
            have l6 : w6.cell? ⟨wl, 12, none⟩ = some (.slice o j d) := r6.cell (i := 12) (by decide)
            have fz6 := r6.frozen
            have HF7 : Hid (Rf w (w6.setCell ⟨wl, 12, none⟩ (.slice u' (j + 1) c2)) cb wl bb CF (withY x2 u' (j + 1) c2 (updY ly j l)) B (p3 + j * LN + LN)) := HFe.out.app HOY.out happ 12 (fun t ht => wtc_Y (withY x2 o j d ly) u' (j + 1) c2 (updY ly j l) t ht) (HFe.out.own.appY happ HLe.out hown')
            rw [show p3 + j * LN + LN = p3 + (j + 1) * LN by rw [Nat.succ_mul]; omega] at HF7
            have HLK7 : Hid (∀ i, i < j + 1 → VL1 B (p3 + i * LN) nW a b c kv D (updY ly j l i)) := fun i hi => by
              unfold updY
              by_cases e : i = j
              · rw [if_pos e, e]; exact HV1.out
              · rw [if_neg e]; exact HLK.out i (by omega)
            clear hrd hown' happ r6 HFe HLe HOY HNC HN1 HBG RG SL HT9 b12 HV1 HLK
            go_wp2_with fail
            go_roundw
            case rel => exact ⟨j + 1, u', c2, _, by omega, by go_num, HF7.out, HLK7.out⟩
            case measure => simp [intOf]; omega
          · obtain rfl : j = nL := by omega
            clear hlt
            have hL1 : L = (j : Int) := HD.out.L1
            have c4 := (HCV.out _ _ _ HF.out).2.2.1
            have hd1 : decide ((j : Int) < (j : Int)) = false := decide_eq_false (by omega)
            obtain ⟨x3, hx3⟩ : ∃ x, Hid (x = withY x2 o j d ly) := ⟨_, rfl⟩
            obtain ⟨p4, hp4⟩ : ∃ p, Hid (p = p3 + j * LN) := ⟨_, rfl⟩
            obtain ⟨p5, hp5⟩ : ∃ p, Hid (p = p4 + 5) := ⟨_, rfl⟩
            have hp4b : p4 ≤ 60000000 := by
              rw [hp4.out]
              have := Nat.mul_le_mul hnL hLNb
              omega
            have hW32 : nW ≤ 32 := by have := HD.out.W3; omega
            obtain ⟨wq1, wq2, wq3⟩ := pos5 (p := p4) (q := p5) hp5.out (by rw [hp5.out]; omega)
            rw [← hx3.out, ← hp4.out] at HF
            have a1 := HF.out.at1.1
            have fz := HF.out.at1.2
            go_upto_region 22 with fail
            have HF5 := hidd (HF.out.to p5)
            clear a1 fz HF wq1 wq2 wq3 c4 hd1 hL1
            have HVN : Hid (∀ (wx : World) (x : WtD) (p : Nat), p ≤ 1099511627776 → Rf w wx cb wl bb CF x B p → Calls Try.prog 60 #[.pointer (some ⟨w.heap.size + 1, 0, none⟩), .int .i64 (nW : Int)] wx fun e w' => ∃ u k, e = .returned (.slice u nW k) ∧ Own w' (wl + 1) 84 1 (.slice u nW k) nW (fun i => .int .i8 (vnF B p i)) ∧ Rf w w' cb wl bb CF x B (p + nW)) := fun wx x p hp hf => by
              refine (vnarrow_any hf.vw (by have := hf.hbb; have := hf.vw.lt; omega) (by omega) hp).mono ?_
              rintro e w' ⟨u, k, rfl, ho, hv, hc⟩
              exact ⟨u, k, rfl, ho.weaken hf.size, hf.call hc hv⟩
            generalize hwg : wr.setCell ⟨w.heap.size + 1, 1, none⟩ (.int .i64 (p5 : Int)) = wg at *
            clear hwg
            have HV5 := hidd (HVN.out wg _ p5 (by rw [hp5.out]; omega) HF5.out)
            have c1 := (HCV.out _ _ _ HF5.out).2.1
            go_upto_region 23 with (go_at_call 60; refine HV5.out.mono ?_; rintro e wh ⟨uF, kF, rfl, ho, hf⟩; have HOh := hidd ho; have HFh := hidd hf; have b13 : ∃ v, wh.cell? ⟨wl, 13, none⟩ = some v := ⟨_, hf.loc.cell (i := 13) (by decide)⟩; obtain ⟨v13, b13⟩ := b13; have fz := hf.loc.frozen; clear ho hf)
            obtain ⟨x4, hx4⟩ : ∃ x, Hid (x = withF x3 ⟨uF, nW, kF, vnF B p5⟩) := ⟨_, rfl⟩
            obtain ⟨p6, hp6⟩ : ∃ p, Hid (p = p5 + nW) := ⟨_, rfl⟩
            have HF6 : Hid (Rf w (wh.setCell ⟨wl, 13, none⟩ (.slice uF nW kF)) cb wl bb CF x4 B p6) := by
              rw [hx4.out, hp6.out]
              exact HFh.out.setF ⟨uF, nW, kF, vnF B p5⟩ HOh.out
            clear HV5 HOh HFh b13 fz c1 HF5 HVN
            generalize hwi : wh.setCell ⟨wl, 13, none⟩ (.slice uF nW kF) = wi at *
            clear hwi
            obtain ⟨p7, hp7⟩ : ∃ p, Hid (p = p6 + 5) := ⟨_, rfl⟩
            have hp7b : p7 ≤ 60000050 := by rw [hp7.out, hp6.out, hp5.out]; omega
            obtain ⟨wq1, wq2, wq3⟩ := pos5 (p := p6) (q := p7) hp7.out (by omega)
            have a1 := HF6.out.at1.1
            have fz := HF6.out.at1.2
            go_upto_region 24 with fail
            have HF7 := hidd (HF6.out.to p7)
            clear a1 fz HF6 wq1 wq2 wq3
            generalize hwj : wi.setCell ⟨w.heap.size + 1, 1, none⟩ (.int .i64 (p7 : Int)) = wj at *
            clear hwj
            have HV7 := hidd (HVM.out wj _ p7 (by omega) HF7.out)
            have c0 := (HCV.out _ _ _ HF7.out).1
            have c1 := (HCV.out _ _ _ HF7.out).2.1
            go_upto_region 25 with (go_at_call 57; refine HV7.out.mono ?_; rintro e wk ⟨uQ, kQ, rfl, ho, hf⟩; have HOk := hidd ho; have HFk := hidd hf; have b14 : ∃ v, wk.cell? ⟨wl, 14, none⟩ = some v := ⟨_, hf.loc.cell (i := 14) (by decide)⟩; have b15 : ∃ v, wk.cell? ⟨wl, 15, none⟩ = some v := ⟨_, hf.loc.cell (i := 15) (by decide)⟩; have b16 : ∃ v, wk.cell? ⟨wl, 16, none⟩ = some v := ⟨_, hf.loc.cell (i := 16) (by decide)⟩; obtain ⟨v14, b14⟩ := b14; obtain ⟨v15, b15⟩ := b15; obtain ⟨v16, b16⟩ := b16; have fz := hf.loc.frozen; clear ho hf)
            obtain ⟨x5, hx5⟩ : ∃ x, Hid (x = withQ x4 ⟨V, (nW : Int), uQ, P, kQ, vnF B p7⟩) := ⟨_, rfl⟩
            obtain ⟨p8, hp8⟩ : ∃ p, Hid (p = p7 + P) := ⟨_, rfl⟩
            have HF8 : Hid (Rf w (((wk.setCell ⟨wl, 14, none⟩ (.int .i64 V)).setCell ⟨wl, 15, none⟩ (.int .i64 (nW : Int))).setCell ⟨wl, 16, none⟩ (.slice uQ P kQ)) cb wl bb CF x5 B p8) := by
              rw [hx5.out, hp8.out]
              exact HFk.out.setQ ⟨V, (nW : Int), uQ, P, kQ, vnF B p7⟩ HOk.out
            clear HV7 HOk HFk b14 b15 b16 fz c0 c1 HF7
            generalize hwm : (((wk.setCell ⟨wl, 14, none⟩ (.int .i64 V)).setCell ⟨wl, 15, none⟩ (.int .i64 (nW : Int))).setCell ⟨wl, 16, none⟩ (.slice uQ P kQ)) = wm at *
            clear hwm
            have hnM : nM ≤ 4 := HD.out.M4
            have hp8b : p8 ≤ 70000000 := by rw [hp8.out]; omega
            have HS8 : Hid (Rf w wm cb wl bb CF (withM x5 none 0 0 (fun _ => mtO0)) B (p8 + 0 * (P + 5))) := by
              rw [Nat.zero_mul, Nat.add_zero, hx5.out, hx4.out, hx3.out, hx2.out, hx1.out]
              rw [hx5.out, hx4.out, hx3.out, hx2.out, hx1.out] at HF8
              exact HF8.out
            clear HF8
            go_wp2_with fail
            go_loopw [13, 14] (fun v13 _ wr => ∃ (i : Nat) (o : Option Addr) (d : Nat) (md : Nat → MtD), i ≤ nM ∧ v13 = .int .i64 i ∧ Hid (Rf w wr cb wl bb CF (withM x5 o i d md) B (p8 + i * (P + 5))) ∧ Hid (∀ j, j < i → (md j).R = V ∧ (md j).C = (nW : Int) ∧ (md j).n = P ∧ (md j).f = vnF B (p8 + j * (P + 5) + 5))) (fun v13 _ _ => nM - (intOf v13).toNat)
            case atStart => exact ⟨0, none, 0, _, by omega, rfl, HS8.out, fun i hi => absurd hi (Nat.not_lt_zero _)⟩
            case round =>
              clear HS8
              obtain ⟨i, o', d', md, hi, rfl, HF, HMK⟩ := hrel
              have c7 := (HCV.out _ _ _ HF.out).2.2.2
              by_cases hlt : i < nM
              · have hd1 : decide ((i : Int) < (nM : Int)) = true := decide_eq_true (by omega)
                have hib : i * (P + 5) ≤ 10000000 := Nat.le_trans (Nat.mul_le_mul (show i ≤ 4 by omega) (show P + 5 ≤ 1048581 by omega)) (by decide)
                obtain ⟨q0, hq0⟩ : ∃ p, Hid (p = p8 + i * (P + 5)) := ⟨_, rfl⟩
                obtain ⟨q1, hq1⟩ : ∃ p, Hid (p = q0 + 5) := ⟨_, rfl⟩
                have hq1b : q1 ≤ 90000000 := by rw [hq1.out, hq0.out]; omega
                rw [← hq0.out] at HF
                obtain ⟨wq1, wq2, wq3⟩ := pos5 (p := q0) (q := q1) hq1.out (by omega)
                have a1 := HF.out.at1.1
                have fz := HF.out.at1.2
                go_upto_region 29 with fail
                have HFa := hidd (HF.out.to q1)
                clear a1 fz HF wq1 wq2 wq3 c7 hd1
                generalize hwn : wr.setCell ⟨w.heap.size + 1, 1, none⟩ (.int .i64 (q1 : Int)) = wn at *
                clear hwn
                have HVm := hidd (HVM.out wn _ q1 (by omega) HFa.out)
                have c0 := (HCV.out _ _ _ HFa.out).1
                have c1 := (HCV.out _ _ _ HFa.out).2.1
                go_upto_region 30 with (go_at_call 57; refine HVm.out.mono ?_; rintro e wo ⟨uM, kM, rfl, ho, hf⟩; have HOo := hidd ho; have HFo := hidd hf; clear ho hf)
                have fA := fresh_alloc wo (.cells #[.int .i64 V, .int .i64 (nW : Int), .slice uM P kM] 29)
                have HFp := hidd (HFo.out.fresh fA)
                have HOp : Hid (Own (wo.alloc (.cells #[.int .i64 V, .int .i64 (nW : Int), .slice uM P kM] 29)) (wl + 1) 84 1 (.slice uM P kM) P (fun i => .int .i8 (vnF B q1 i))) := HOo.out.kept fA
                have g0 : (wo.alloc (.cells #[.int .i64 V, .int .i64 (nW : Int), .slice uM P kM] 29)).cell? ⟨wo.heap.size, 0, none⟩ = some (.int .i64 V) := (World.rowIs_alloc3 wo (.int .i64 V) (.int .i64 (nW : Int)) (.slice uM P kM) 29).cell (i := 0) (by decide)
                have g1 : (wo.alloc (.cells #[.int .i64 V, .int .i64 (nW : Int), .slice uM P kM] 29)).cell? ⟨wo.heap.size, 1, none⟩ = some (.int .i64 (nW : Int)) := (World.rowIs_alloc3 wo (.int .i64 V) (.int .i64 (nW : Int)) (.slice uM P kM) 29).cell (i := 1) (by decide)
                have g2 : (wo.alloc (.cells #[.int .i64 V, .int .i64 (nW : Int), .slice uM P kM] 29)).cell? ⟨wo.heap.size, 2, none⟩ = some (.slice uM P kM) := (World.rowIs_alloc3 wo (.int .i64 V) (.int .i64 (nW : Int)) (.slice uM P kM) 29).cell (i := 2) (by decide)
                clear fA HFo HOo HVm c0 c1 HFa
                generalize (wo.alloc (.cells #[.int .i64 V, .int .i64 (nW : Int), .slice uM P kM] 29)) = wp at *
                generalize wo.heap.size = mb at *
                have b17 : wp.cell? ⟨wl, 17, none⟩ = some (.slice o' i d') := HFp.out.loc.cell (i := 17) (by decide)
                have fE := fresh_alloc wp (.cells #[.int .i64 V, .int .i64 (nW : Int), .slice uM P kM] 29)
                have HFe := hidd (HFp.out.fresh fE)
                have HOe : Hid (Own (wp.alloc (.cells #[.int .i64 V, .int .i64 (nW : Int), .slice uM P kM] 29)) (wl + 1) 84 1 (.slice uM P kM) P (fun i => .int .i8 (vnF B q1 i))) := HOp.out.kept fE
                have HOY : Hid (Own (wp.alloc (.cells #[.int .i64 V, .int .i64 (nW : Int), .slice uM P kM] 29)) (wl + 1) 29 3 (.slice o' i d') i (mtc (updM md i ⟨V, (nW : Int), uM, P, kM, vnF B q1⟩))) := by
                  have h1 : Own (wp.alloc (.cells #[.int .i64 V, .int .i64 (nW : Int), .slice uM P kM] 29)) (wl + 1) 29 3 (.slice o' i d') i (mtc md) := HFe.out.own.oM
                  exact h1.congr (fun t ht => mtc_prev md i _ t ht)
                have HNC : Hid (∀ t, t < 1 * 3 → (wp.alloc (.cells #[.int .i64 V, .int .i64 (nW : Int), .slice uM P kM] 29)).cell? ⟨wp.heap.size, t, none⟩ = some (mtc (updM md i ⟨V, (nW : Int), uM, P, kM, vnF B q1⟩) (i * 3 + t))) := fun t ht => by
                  rw [mtc_last _ _ _ _ (by omega)]
                  exact (World.rowIs_list wp (mtL ⟨V, (nW : Int), uM, P, kM, vnF B q1⟩) 29).cell (i := t) (by show t < 3; omega)
                have HN1 : Hid (∀ t, t < 1 * 3 → (mtc (updM md i ⟨V, (nW : Int), uM, P, kM, vnF B q1⟩) (i * 3 + t)).oneCell' = true) := fun t _ => mtc_one _ (i * 3 + t + 1) _ (by omega)
                have HBG : Hid (wl + 1 ≤ (wp.alloc (.cells #[.int .i64 V, .int .i64 (nW : Int), .slice uM P kM] 29)).heap.size) := HFe.out.size
                clear fE HFp HOp
                go_wp2_with (at_builtin; refine wpList_app (wp.alloc (.cells #[.int .i64 V, .int .i64 (nW : Int), .slice uM P kM] 29)) rfl _ _ 32 rfl (wl + 1) 29 zMt 3 40 Try.underlying32 infoMa rfl (by decide) _ i (mtc (updM md i ⟨V, (nW : Int), uM, P, kM, vnF B q1⟩)) rfl HOY.out wp.heap.size 1 1 rfl HNC.out HN1.out (by decide) (by unfold maxLen; omega) (by omega) HBG.out ?_)
                rintro v' w6 hown' happ
                obtain ⟨u', c2, rfl, hrd⟩ := hown'.rd
                have r6 := (Chg.of_app happ).row HFe.out.loc (fun e => by have := (HOY.out.lt _ e).1; omega)
                have l6 : w6.cell? ⟨wl, 17, none⟩ = some (.slice o' i d') := r6.cell (i := 17) (by decide)
                have fz6 := r6.frozen
                have HF7 : Hid (Rf w (w6.setCell ⟨wl, 17, none⟩ (.slice u' (i + 1) c2)) cb wl bb CF (withM x5 u' (i + 1) c2 (updM md i ⟨V, (nW : Int), uM, P, kM, vnF B q1⟩)) B (q1 + P)) := HFe.out.app HOY.out happ 17 (fun t ht => wtc_M (withM x5 o' i d' md) u' (i + 1) c2 (updM md i ⟨V, (nW : Int), uM, P, kM, vnF B q1⟩) t ht) (HFe.out.own.appM happ HOe.out hown')
                rw [show q1 + P = p8 + (i + 1) * (P + 5) by rw [hq1.out, hq0.out, Nat.succ_mul]; omega] at HF7
                have HMK7 : Hid (∀ j, j < i + 1 → (updM md i ⟨V, (nW : Int), uM, P, kM, vnF B q1⟩ j).R = V ∧ (updM md i ⟨V, (nW : Int), uM, P, kM, vnF B q1⟩ j).C = (nW : Int) ∧ (updM md i ⟨V, (nW : Int), uM, P, kM, vnF B q1⟩ j).n = P ∧ (updM md i ⟨V, (nW : Int), uM, P, kM, vnF B q1⟩ j).f = vnF B (p8 + j * (P + 5) + 5)) := fun j hj => by
                  unfold updM
                  by_cases e : j = i
                  · rw [if_pos e, e]
                    exact ⟨rfl, rfl, rfl, by rw [hq1.out, hq0.out]⟩
                  · rw [if_neg e]
                    exact HMK.out j (by omega)
                clear hrd hown' happ r6 HFe HOe HOY HNC HN1 HBG g0 g1 g2 b17 HMK
                go_wp2_with fail
                go_roundw
                case rel => exact ⟨i + 1, u', c2, _, by omega, by go_num, HF7.out, HMK7.out⟩
                case measure => simp [intOf]; omega
              · obtain rfl : i = nM := by omega
                clear hlt
                have hd1 : decide ((i : Int) < (i : Int)) = false := decide_eq_false (by omega)
                obtain ⟨x6, hx6⟩ : ∃ x, Hid (x = withM x5 o' i d' md) := ⟨_, rfl⟩
                rw [← hx6.out] at HF
                have HVK : Hid (WtL V H K L D N M kv nW j i k P a b c x6 ∧ VwK B nW j i k P a b c x6) := by
                  refine vwk_of (LN := LN) hC.out hS.out (p3 := p3) (by rw [hp3.out, hp2.out]) hLN.out (p5 := p5) (by rw [hp5.out, hp4.out]) (p7 := p7) (by rw [hp7.out, hp6.out]) (p8 := p8) hp8.out (by rw [hx6.out, hx5.out, hx4.out, hx3.out, hx2.out, hx1.out]) HLK.out HMK.out
                clear hx1 hx2 hx3 hx4 hx5 hx6 hp1 hp2 hp3 hp4 hp5 hp6 hp7 hp8 HLK HMK HCV HVM HVL HC8 hC hS hLN
                have hwr : WtR wr x6 := HF.out.own.rdJ (VwK.j hB HVK.out.1 HVK.out.2)
                have HWR := hidd hwr
                obtain ⟨er, L2, hor, henc⟩ := refenc_one hwr
                have HOR := hidd hor
                have HBACK : Hid (∀ y, y.may → WtP y → WtI y → B = fileL y → WtP x6 ∧ fileL x6 = B) := fun y hy hp hi ey => vw_back HD.out eV.out eU.out eH.out eK.out eL.out eD.out eN.out eM.out HVK.out.1 HVK.out.2 hy hp hi ey
                have HMX : Hid x6.may := by
                  obtain ⟨k0, k1, k2, k3, k4, k5, k6, k7⟩ := HVK.out.1.cf
                  show may x6.V x6.W x6.H x6.K x6.L x6.D x6.N x6.M
                  rw [k0, k1, k2, k3, k4, k5, k6, k7]
                  exact HMAY.out
                obtain ⟨T, hT⟩ : ∃ T, T = wtA x6 := ⟨_, rfl⟩
                have HRZ : Hid (∀ z : World, z.rowIs wl 34 18 (wtc x6) → z.rangeAt wl 0 T.toList) := fun z hz => by rw [hT]; exact row_range (L := wtL x6) hz rfl
                have RG := hidd (HRZ.out wr HF.out.loc)
                have SL : Hid ((Try.prog.info? 34).map (·.size) = some T.toList.length) := by rw [hT]; exact sizeW
                have S18 : Hid ((Try.prog.info? 34).map (·.size) = some T.size) := by rw [hT]; exact sizeW
                have H1 : Hid (T.all (·.oneCell') = true) := by rw [hT]; exact wtA_one _
                have HT18 : Hid (T.size = 18) := by rw [hT]; rfl
                rw [← hT] at henc
                obtain ⟨nL2, hnL2⟩ : ∃ n, Hid (n = L2.length) := ⟨_, rfl⟩
                rw [← hnL2.out] at henc
                have HENC := hidd henc
                have HTT := hidd hT
                clear hwr hor henc hT eV eU eH eK eL eD eN eM HVK
                go_upto_region 32 with (first
                  | refine wpList_load_mid rfl 34 _ rfl wl 0 rfl T.toList _ RG.out Try.underlying34 rfl SL.out ?_
                  | (go_at_call 20; refine HENC.out.mono ?_; rintro e wA ⟨uB, kB, rfl, hrb, fb⟩; have HRB := hidd hrb; have HFA := hidd (HF.out.fresh fb); have FA := hidd fb; clear hrb fb))
                obtain ⟨bq, hbq⟩ : ∃ b, Hid (b = decide (L2 = B)) := ⟨_, rfl⟩
                have HEQ : Hid (Calls Try.prog 17 #[.slice uB nL2 kB, .slice ao nB cap] wA fun e w' => e = .returned (.bool bq) ∧ Below wA.heap.size wA w') := by
                  have h1 := HRB.out
                  rw [hnL2.out] at h1
                  rw [hbq.out, hnL2.out, HNB.out]
                  exact eqBytes_any h1 (HAO.out.fresh HFA.out.low)
                clear HENC RG HF c7 hd1 HRB
                go_upto_region 33 with (go_at_call 17; refine HEQ.out.mono ?_; rintro e wB ⟨rfl, fb⟩; have HFB := hidd (HFA.out.fresh fb); have HWRB := hidd ((HWR.out.fresh FA.out).fresh fb); clear fb)
                clear HEQ HFA FA HWR
                obtain ⟨old, hold, hosz, _⟩ := HFB.out.res
                have HOLD := hidd hold
                have HOSZ : Hid (old.size = wtZ.toArray.size) := hosz
                have HOST : Hid (old.size = T.size) := by rw [HT18.out]; exact hosz
                have HLOW := hidd HFB.out.low
                have RGB := hidd (HRZ.out wB HFB.out.loc)
                have SZZ : Hid ((Try.prog.info? 34).map (·.size) = some wtZ.toArray.size) := sizeW
                have OZZ : Hid (wtZ.toArray.all (·.oneCell') = true) := by show _ = _; kernel_rfl
                clear hold hosz
                by_cases h0 : er = 0
                · subst h0
                  by_cases hb : bq = true
                  · subst hb
                    have HGD : Hid (x6.may ∧ WtP x6 ∧ B = fileL x6) := by
                      have hLB : L2 = B := of_decide_eq_true hbq.out.symm
                      rcases HOR.out with ⟨_, h1, h2, h3⟩ | ⟨h1, _⟩
                      · exact ⟨h1, h2, by rw [← hLB, h3]⟩
                      · exact absurd rfl h1
                    go_upto_region 35 with fail
                    go_wp2_with (refine wpList_load_mid rfl 34 _ rfl wl 0 rfl T.toList _ RGB.out Try.underlying34 rfl SL.out (wpList_store_row rfl 34 (.tmp 2) (.tmp 155) rfl w.heap.size T rfl rfl 34 old HOLD.out S18.out HOST.out H1.out (by
                      (iterate 8 go_step)
                      refine bodyPost_ret (v := .tuple #[.agg T, .int .i64 0]) ?_ ?_ ?_
                      · exact results_cell_two Try.results27 _ _ w.heap.size 34 _ (0, 0) _ rfl _ rfl (setRow_heap _ _ _ _ _ _ HOLD.out) Try.underlying34 rfl S18.out
                      · rfl
                      · have h1 := HFB.out.hb
                        have h2 := HFB.out.hl
                        exact ⟨below_setRow HLOW.out (Nat.le_refl _) _, .inl ⟨x6, by rw [HTT.out], (HFB.out.own.chg (Chg.of_setRow wB w.heap.size T) (fun b hb e => by omega)).weaken (by omega), wtI_of HWRB.out HGD.out.2.1, HGD.out.1, HGD.out.2.1, HGD.out.2.2⟩⟩)))
                  · have hb : bq = false := by simpa using hb
                    subst hb
                    have HNO : Hid (∀ y, y.may → WtP y → WtI y → B ≠ fileL y) := fun y hy hp hi ey => by
                      obtain ⟨_, g2⟩ := HBACK.out y hy hp hi ey
                      have hLB : ¬ L2 = B := of_decide_eq_false hbq.out.symm
                      rcases HOR.out with ⟨_, _, _, h3⟩ | ⟨h1, _⟩
                      · exact hLB (by rw [h3, g2])
                      · exact h1 rfl
                    obtain ⟨ZZ, hZZ⟩ : ∃ Z, Z = wtZ.toArray := ⟨_, rfl⟩
                    go_upto_region 34 with fail
                    go_wp2_with (refine wpList_store_row rfl 34 (.tmp 2) (.tmp 154) rfl w.heap.size wtZ.toArray rfl rfl 34 old HOLD.out SZZ.out HOSZ.out OZZ.out (by
                      (iterate 8 go_step)
                      refine bodyPost_ret (v := .tuple #[.agg wtZ.toArray, .int .i64 42]) ?_ ?_ ?_
                      · exact results_cell_two Try.results27 _ _ w.heap.size 34 _ (0, 0) _ rfl _ rfl (setRow_heap _ _ _ _ _ _ HOLD.out) Try.underlying34 rfl SZZ.out
                      · rfl
                      · exact ⟨below_setRow HLOW.out (Nat.le_refl _) _, .inr ⟨rfl, HNO.out⟩⟩))
                · have e1 : (er == 0) = false := by simpa using h0
                  have e2 : (er != 0) = true := by simpa using h0
                  have e3 : decide (er = 0) = false := decide_eq_false h0
                  have HNO : Hid (∀ y, y.may → WtP y → WtI y → B ≠ fileL y) := fun y hy hp hi ey => by
                    obtain ⟨g1, _⟩ := HBACK.out y hy hp hi ey
                    rcases HOR.out with ⟨h1, _⟩ | ⟨_, h1⟩
                    · exact h0 h1
                    · exact h1 ⟨HMX.out, g1⟩
                  obtain ⟨ZZ, hZZ⟩ : ∃ Z, Z = wtZ.toArray := ⟨_, rfl⟩
                  go_upto_region 34 with fail
                  go_wp2_with (refine wpList_store_row rfl 34 (.tmp 2) (.tmp 154) rfl w.heap.size wtZ.toArray rfl rfl 34 old HOLD.out SZZ.out HOSZ.out OZZ.out (by
                    (iterate 8 go_step)
                    refine bodyPost_ret (v := .tuple #[.agg wtZ.toArray, .int .i64 42]) ?_ ?_ ?_
                    · exact results_cell_two Try.results27 _ _ w.heap.size 34 _ (0, 0) _ rfl _ rfl (setRow_heap _ _ _ _ _ _ HOLD.out) Try.underlying34 rfl SZZ.out
                    · rfl
                    · exact ⟨below_setRow HLOW.out (Nat.le_refl _) _, .inr ⟨rfl, HNO.out⟩⟩))
end Go.Proofs.Ytilghknalbhacaa
