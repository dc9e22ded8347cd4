import Derived.Test.YtilghknalbhacaaJAL
import Derived.Test.YtilghknalbhacaaCpH
import Derived.Test.YtilghknalbhacaaCpA
namespace Go.Proofs.Ytilghknalbhacaa
open Go.RowKit
/-! A layer that is put together in a block of its own: of the program's reader and of the reference's view. -/
def lyO0 : LyD := ⟨⟨none, 0, 0, fun _ => 0⟩, ⟨none, 0, 0, fun _ => 0⟩, ⟨0, 0, none, 0, 0, fun _ => 0⟩, ⟨0, 0, none, 0, 0, fun _ => 0⟩, ⟨0, 0, none, 0, 0, fun _ => 0⟩, ⟨0, 0, none, 0, 0, fun _ => 0⟩, ⟨0, 0, none, 0, 0, fun _ => 0⟩, ⟨0, 0, none, 0, 0, fun _ => 0⟩, ⟨0, 0, none, 0, 0, fun _ => 0⟩, fun _ => 0⟩
theorem lyO0_L : lyL lyO0 = lyZ := rfl
def updS (s : Nat → Int) (i : Nat) (x : Int) : Nat → Int := fun j => if j = i then x else s j
theorem lyL_s0 (l : LyD) (x : Int) (t : Nat) (ht : t < 30) : (if t = 23 then Value.int .i64 x else (lyL l).getD t undef) = (lyL { l with sh := updS l.sh 0 x }).getD t undef := by
  match t, ht with
  | 0, _ => rfl
  | 1, _ => rfl
  | 2, _ => rfl
  | 3, _ => rfl
  | 4, _ => rfl
  | 5, _ => rfl
  | 6, _ => rfl
  | 7, _ => rfl
  | 8, _ => rfl
  | 9, _ => rfl
  | 10, _ => rfl
  | 11, _ => rfl
  | 12, _ => rfl
  | 13, _ => rfl
  | 14, _ => rfl
  | 15, _ => rfl
  | 16, _ => rfl
  | 17, _ => rfl
  | 18, _ => rfl
  | 19, _ => rfl
  | 20, _ => rfl
  | 21, _ => rfl
  | 22, _ => rfl
  | 23, _ => rfl
  | 24, _ => rfl
  | 25, _ => rfl
  | 26, _ => rfl
  | 27, _ => rfl
  | 28, _ => rfl
  | 29, _ => rfl
  | j + 30, h => exact absurd h (by omega)
theorem lyL_s1 (l : LyD) (x : Int) (t : Nat) (ht : t < 30) : (if t = 24 then Value.int .i64 x else (lyL l).getD t undef) = (lyL { l with sh := updS l.sh 1 x }).getD t undef := by
  match t, ht with
  | 0, _ => rfl
  | 1, _ => rfl
  | 2, _ => rfl
  | 3, _ => rfl
  | 4, _ => rfl
  | 5, _ => rfl
  | 6, _ => rfl
  | 7, _ => rfl
  | 8, _ => rfl
  | 9, _ => rfl
  | 10, _ => rfl
  | 11, _ => rfl
  | 12, _ => rfl
  | 13, _ => rfl
  | 14, _ => rfl
  | 15, _ => rfl
  | 16, _ => rfl
  | 17, _ => rfl
  | 18, _ => rfl
  | 19, _ => rfl
  | 20, _ => rfl
  | 21, _ => rfl
  | 22, _ => rfl
  | 23, _ => rfl
  | 24, _ => rfl
  | 25, _ => rfl
  | 26, _ => rfl
  | 27, _ => rfl
  | 28, _ => rfl
  | 29, _ => rfl
  | j + 30, h => exact absurd h (by omega)
theorem lyL_s2 (l : LyD) (x : Int) (t : Nat) (ht : t < 30) : (if t = 25 then Value.int .i64 x else (lyL l).getD t undef) = (lyL { l with sh := updS l.sh 2 x }).getD t undef := by
  match t, ht with
  | 0, _ => rfl
  | 1, _ => rfl
  | 2, _ => rfl
  | 3, _ => rfl
  | 4, _ => rfl
  | 5, _ => rfl
  | 6, _ => rfl
  | 7, _ => rfl
  | 8, _ => rfl
  | 9, _ => rfl
  | 10, _ => rfl
  | 11, _ => rfl
  | 12, _ => rfl
  | 13, _ => rfl
  | 14, _ => rfl
  | 15, _ => rfl
  | 16, _ => rfl
  | 17, _ => rfl
  | 18, _ => rfl
  | 19, _ => rfl
  | 20, _ => rfl
  | 21, _ => rfl
  | 22, _ => rfl
  | 23, _ => rfl
  | 24, _ => rfl
  | 25, _ => rfl
  | 26, _ => rfl
  | 27, _ => rfl
  | 28, _ => rfl
  | 29, _ => rfl
  | j + 30, h => exact absurd h (by omega)
theorem lyL_s3 (l : LyD) (x : Int) (t : Nat) (ht : t < 30) : (if t = 26 then Value.int .i64 x else (lyL l).getD t undef) = (lyL { l with sh := updS l.sh 3 x }).getD t undef := by
  match t, ht with
  | 0, _ => rfl
  | 1, _ => rfl
  | 2, _ => rfl
  | 3, _ => rfl
  | 4, _ => rfl
  | 5, _ => rfl
  | 6, _ => rfl
  | 7, _ => rfl
  | 8, _ => rfl
  | 9, _ => rfl
  | 10, _ => rfl
  | 11, _ => rfl
  | 12, _ => rfl
  | 13, _ => rfl
  | 14, _ => rfl
  | 15, _ => rfl
  | 16, _ => rfl
  | 17, _ => rfl
  | 18, _ => rfl
  | 19, _ => rfl
  | 20, _ => rfl
  | 21, _ => rfl
  | 22, _ => rfl
  | 23, _ => rfl
  | 24, _ => rfl
  | 25, _ => rfl
  | 26, _ => rfl
  | 27, _ => rfl
  | 28, _ => rfl
  | 29, _ => rfl
  | j + 30, h => exact absurd h (by omega)
theorem lyL_s4 (l : LyD) (x : Int) (t : Nat) (ht : t < 30) : (if t = 27 then Value.int .i64 x else (lyL l).getD t undef) = (lyL { l with sh := updS l.sh 4 x }).getD t undef := by
  match t, ht with
  | 0, _ => rfl
  | 1, _ => rfl
  | 2, _ => rfl
  | 3, _ => rfl
  | 4, _ => rfl
  | 5, _ => rfl
  | 6, _ => rfl
  | 7, _ => rfl
  | 8, _ => rfl
  | 9, _ => rfl
  | 10, _ => rfl
  | 11, _ => rfl
  | 12, _ => rfl
  | 13, _ => rfl
  | 14, _ => rfl
  | 15, _ => rfl
  | 16, _ => rfl
  | 17, _ => rfl
  | 18, _ => rfl
  | 19, _ => rfl
  | 20, _ => rfl
  | 21, _ => rfl
  | 22, _ => rfl
  | 23, _ => rfl
  | 24, _ => rfl
  | 25, _ => rfl
  | 26, _ => rfl
  | 27, _ => rfl
  | 28, _ => rfl
  | 29, _ => rfl
  | j + 30, h => exact absurd h (by omega)
theorem lyL_s5 (l : LyD) (x : Int) (t : Nat) (ht : t < 30) : (if t = 28 then Value.int .i64 x else (lyL l).getD t undef) = (lyL { l with sh := updS l.sh 5 x }).getD t undef := by
  match t, ht with
  | 0, _ => rfl
  | 1, _ => rfl
  | 2, _ => rfl
  | 3, _ => rfl
  | 4, _ => rfl
  | 5, _ => rfl
  | 6, _ => rfl
  | 7, _ => rfl
  | 8, _ => rfl
  | 9, _ => rfl
  | 10, _ => rfl
  | 11, _ => rfl
  | 12, _ => rfl
  | 13, _ => rfl
  | 14, _ => rfl
  | 15, _ => rfl
  | 16, _ => rfl
  | 17, _ => rfl
  | 18, _ => rfl
  | 19, _ => rfl
  | 20, _ => rfl
  | 21, _ => rfl
  | 22, _ => rfl
  | 23, _ => rfl
  | 24, _ => rfl
  | 25, _ => rfl
  | 26, _ => rfl
  | 27, _ => rfl
  | 28, _ => rfl
  | 29, _ => rfl
  | j + 30, h => exact absurd h (by omega)
theorem lyL_s6 (l : LyD) (x : Int) (t : Nat) (ht : t < 30) : (if t = 29 then Value.int .i64 x else (lyL l).getD t undef) = (lyL { l with sh := updS l.sh 6 x }).getD t undef := by
  match t, ht with
  | 0, _ => rfl
  | 1, _ => rfl
  | 2, _ => rfl
  | 3, _ => rfl
  | 4, _ => rfl
  | 5, _ => rfl
  | 6, _ => rfl
  | 7, _ => rfl
  | 8, _ => rfl
  | 9, _ => rfl
  | 10, _ => rfl
  | 11, _ => rfl
  | 12, _ => rfl
  | 13, _ => rfl
  | 14, _ => rfl
  | 15, _ => rfl
  | 16, _ => rfl
  | 17, _ => rfl
  | 18, _ => rfl
  | 19, _ => rfl
  | 20, _ => rfl
  | 21, _ => rfl
  | 22, _ => rfl
  | 23, _ => rfl
  | 24, _ => rfl
  | 25, _ => rfl
  | 26, _ => rfl
  | 27, _ => rfl
  | 28, _ => rfl
  | 29, _ => rfl
  | j + 30, h => exact absurd h (by omega)
theorem lyL_sh (l : LyD) (i : Nat) (hi : i < 7) (x : Int) (t : Nat) (ht : t < 30) : (if t = 23 + i then Value.int .i64 x else (lyL l).getD t undef) = (lyL { l with sh := updS l.sh i x }).getD t undef := by
  match i, hi with
  | 0, _ => exact lyL_s0 l x t ht
  | 1, _ => exact lyL_s1 l x t ht
  | 2, _ => exact lyL_s2 l x t ht
  | 3, _ => exact lyL_s3 l x t ht
  | 4, _ => exact lyL_s4 l x t ht
  | 5, _ => exact lyL_s5 l x t ht
  | 6, _ => exact lyL_s6 l x t ht
/-- all its lists are the call's own -/
structure Lo (wx : World) (b0 : Nat) (l : LyD) : Prop where
  n1 : Own wx b0 84 1 (.slice l.n1.O l.n1.n l.n1.c) l.n1.n (fun i => .int .i8 (l.n1.f i))
  n2 : Own wx b0 84 1 (.slice l.n2.O l.n2.n l.n2.c) l.n2.n (fun i => .int .i8 (l.n2.f i))
  mt : ∀ q, q < 7 → Own wx b0 84 1 (.slice (mtI l q).O (mtI l q).n (mtI l q).c) (mtI l q).n (fun i => .int .i8 ((mtI l q).f i))
theorem Lo.chg {wx wy : World} {b0 : Nat} {l : LyD} {T : Nat → Prop} (h : Lo wx b0 l) (c : Chg wx wy T) (hT : ∀ {v : Value} {n : Nat} {cs : Nat → Value}, Own wx b0 84 1 v n cs → ∀ b, v.ownBlock = some b → ¬ T b) : Lo wy b0 l :=
  ⟨h.n1.chg c (hT h.n1), h.n2.chg c (hT h.n2), fun q hq => (h.mt q hq).chg c (hT (h.mt q hq))⟩
theorem Lo.zero (wx : World) (b0 : Nat) : Lo wx b0 lyO0 := ⟨own_nil _ _ _ _ _, own_nil _ _ _ _ _, fun q hq => by
  match q, hq with
  | 0, _ | 1, _ | 2, _ | 3, _ | 4, _ | 5, _ | 6, _ => exact own_nil _ _ _ _ _⟩
structure Lwd (w wx : World) (v gl : Nat) (cf : List Int) (l : LyD) : Prop where
  box : wx.rowIs w.heap.size 23 8 (fun i => .int .i64 (cf.getD i 0))
  res : wx.rowIs (w.heap.size + 1) 67 30 (fun i => lyZ.getD i undef)
  loc : wx.rowIs (gl) 67 30 (lyr l)
  own : Lo wx (gl + 1) l
  chg : Chg w wx (fun b => b = v)
  hg : w.heap.size + 2 ≤ gl
theorem Lwd.size {w wx : World} {v gl : Nat} {cf : List Int} {l : LyD} (h : Lwd w wx v gl cf l) : gl + 1 ≤ wx.heap.size := by have := h.loc.lt; omega
theorem Lwd.call {w wx wy : World} {v gl : Nat} {cf : List Int} {l : LyD} (h : Lwd w wx v gl cf l) (hv : v < w.heap.size) (c : Chg wx wy (fun b => b = v)) : Lwd w wy v gl cf l :=
  ⟨c.row h.box (by omega), c.row h.res (by omega), c.row h.loc (by have := h.hg; omega), h.own.chg c (fun ho b e hb => by have := (ho.lt b e).1; have := h.hg; omega), h.chg.trans c (fun _ _ e => e), h.hg⟩
theorem Lwd.fresh {w wx wy : World} {v gl : Nat} {cf : List Int} {l : LyD} (h : Lwd w wx v gl cf l) (hv : v < w.heap.size) (f : Below wx.heap.size wx wy) : Lwd w wy v gl cf l := h.call hv (Chg.of_below _ f)
theorem Lwd.off {w wx : World} {v gl : Nat} {cf : List Int} {l : LyD} (h : Lwd w wx v gl cf l) {base : Nat} {u : Value} {n : Nat} {cs : Nat → Value} (ho : Own wx base 84 1 u n cs) : ∀ b, u.ownBlock = some b → ¬ b = gl := fun b e e2 => by
  rw [e2] at e
  exact ho.apart h.loc (by decide) e
theorem Lwd.put {w wx wy : World} {v gl : Nat} {cf : List Int} {l l' : LyD} (h : Lwd w wx v gl cf l) (c : Chg wx wy (fun b => b = gl)) (hr : wy.rowIs (gl) 67 30 (lyr l')) (ho : Lo wy (gl + 1) l') : Lwd w wy v gl cf l' :=
  ⟨c.row h.box (by have := h.hg; omega), c.row h.res (by have := h.hg; omega), hr, ho, h.chg.trans c (fun b hb e => by have := h.hg; omega), h.hg⟩
theorem Lwd.keep {w wx wy : World} {v gl : Nat} {cf : List Int} {l : LyD} (h : Lwd w wx v gl cf l) (c : Chg wx wy (fun b => b = gl)) {base : Nat} {u : Value} {n : Nat} {cs : Nat → Value} (ho : Own wx base 84 1 u n cs) : Own wy base 84 1 u n cs := ho.chg c (h.off ho)
theorem Lwd.n1 {w wx : World} {v gl : Nat} {cf : List Int} {l : LyD} (h : Lwd w wx v gl cf l) (a : LsD) (ha : Own wx (gl + 1) 84 1 (.slice a.O a.n a.c) a.n (fun i => .int .i8 (a.f i))) : Lwd w (wx.setCell ⟨gl, 0, none⟩ (.slice a.O a.n a.c)) v gl cf { l with n1 := a } := by
  have c := Chg.of_set wx (gl) 0 (.slice a.O a.n a.c)
  exact h.put c ((h.loc.set 0 _).congr (fun i hi => lyL_n1 l a i hi)) ⟨h.keep c ha, h.keep c h.own.n2, fun q hq => by
    match q, hq with
    | 0, hq | 1, hq | 2, hq | 3, hq | 4, hq | 5, hq | 6, hq => exact h.keep c (h.own.mt _ hq)⟩
theorem Lwd.n2 {w wx : World} {v gl : Nat} {cf : List Int} {l : LyD} (h : Lwd w wx v gl cf l) (a : LsD) (ha : Own wx (gl + 1) 84 1 (.slice a.O a.n a.c) a.n (fun i => .int .i8 (a.f i))) : Lwd w (wx.setCell ⟨gl, 1, none⟩ (.slice a.O a.n a.c)) v gl cf { l with n2 := a } := by
  have c := Chg.of_set wx (gl) 1 (.slice a.O a.n a.c)
  exact h.put c ((h.loc.set 1 _).congr (fun i hi => lyL_n2 l a i hi)) ⟨h.keep c h.own.n1, h.keep c ha, fun q hq => by
    match q, hq with
    | 0, hq | 1, hq | 2, hq | 3, hq | 4, hq | 5, hq | 6, hq => exact h.keep c (h.own.mt _ hq)⟩
theorem Lwd.mt {w wx : World} {v gl : Nat} {cf : List Int} {l : LyD} (h : Lwd w wx v gl cf l) {r : Nat} (hr : r < 7) (m : MtD) (ha : Own wx (gl + 1) 84 1 (.slice m.O m.n m.c) m.n (fun i => .int .i8 (m.f i))) :
    Lwd w (((wx.setCell ⟨gl, 2 + 3 * r, none⟩ (.int .i64 m.R)).setCell ⟨gl, 2 + 3 * r + 1, none⟩ (.int .i64 m.C)).setCell ⟨gl, 2 + 3 * r + 2, none⟩ (.slice m.O m.n m.c)) v gl cf (setMI l r m) := by
  have c : Chg wx (((wx.setCell ⟨gl, 2 + 3 * r, none⟩ (.int .i64 m.R)).setCell ⟨gl, 2 + 3 * r + 1, none⟩ (.int .i64 m.C)).setCell ⟨gl, 2 + 3 * r + 2, none⟩ (.slice m.O m.n m.c)) (fun b => b = gl) := ((Chg.of_set wx _ _ _).trans (Chg.of_set _ _ _ _) (fun _ _ e => e)).trans (Chg.of_set _ _ _ _) (fun _ _ e => e)
  obtain ⟨e1, e2, e3⟩ := setMI_rest l r m hr
  refine h.put c ((((h.loc.set (2 + 3 * r) _).set (2 + 3 * r + 1) _).set (2 + 3 * r + 2) _).congr (fun i hi => (lyL_set l r i m hr hi).symm)) ⟨?_, ?_, fun q hq => ?_⟩
  · rw [e1]; exact h.keep c h.own.n1
  · rw [e2]; exact h.keep c h.own.n2
  · by_cases e : q = r
    · subst e
      rw [mtI_same l q m hr]
      exact h.keep c ha
    · rw [mtI_other l r q m hr hq e]
      exact h.keep c (h.own.mt q hq)
theorem Lwd.sh {w wx : World} {v gl : Nat} {cf : List Int} {l : LyD} (h : Lwd w wx v gl cf l) {i : Nat} (hi : i < 7) (x : Int) : Lwd w (wx.setCell ⟨gl, 23 + i, none⟩ (.int .i64 x)) v gl cf { l with sh := updS l.sh i x } := by
  have c := Chg.of_set wx (gl) (23 + i) (.int .i64 x)
  exact h.put c ((h.loc.set (23 + i) _).congr (fun t ht => lyL_sh l i hi x t ht)) ⟨h.keep c h.own.n1, h.keep c h.own.n2, fun q hq => by
    match q, hq with
    | 0, hq | 1, hq | 2, hq | 3, hq | 4, hq | 5, hq | 6, hq => exact h.keep c (h.own.mt _ hq)⟩
end Go.Proofs.Ytilghknalbhacaa
namespace Go.Proofs.Ytilghknalbhacaa
open Go.RowKit
/-! The reference's view of bytes: narrow. -/
structure Vw (w : World) (v bb : Nat) (B : List Int) (p : Nat) : Prop where
  ex : ∃ bo cb, w.rowIs v 93 2 (fun i => if i = 0 then .slice bo B.length cb else .int .i64 (p : Int)) ∧ RdA w bo 1 B.length cb (bV B) ∧ ∀ b o, bo = some ⟨b, o, none⟩ → 0 < B.length → b = bb
  ne : bb ≠ v
  byt : Byt B
theorem Vw.lt {w : World} {v bb : Nat} {B : List Int} {p : Nat} (h : Vw w v bb B p) : v < w.heap.size := by
  obtain ⟨bo, cb, h1, _⟩ := h.ex
  exact h1.lt
theorem Vw.chg {w w' : World} {v bb : Nat} {B : List Int} {p : Nat} {T : Nat → Prop} (h : Vw w v bb B p) (c : Chg w w' T) (hv : ¬ T v) (hb : ¬ T bb) : Vw w' v bb B p := by
  obtain ⟨bo, cb, h1, h2, h3⟩ := h.ex
  refine ⟨⟨bo, cb, c.row h1 hv, RdA.chg h2 c (fun b o e h0 => ?_), h3⟩, h.ne, h.byt⟩
  rw [h3 b o e h0]
  exact hb
theorem Vw.fresh {w w' : World} {v bb : Nat} {B : List Int} {p : Nat} (h : Vw w v bb B p) (f : Below w.heap.size w w') : Vw w' v bb B p := by
  obtain ⟨bo, cb, h1, h2, h3⟩ := h.ex
  exact ⟨⟨bo, cb, h1.of_block (f.block _ h1.lt), h2.fresh f, h3⟩, h.ne, h.byt⟩
theorem Vw.move {w : World} {v bb : Nat} {B : List Int} {p : Nat} (h : Vw w v bb B p) (q : Nat) : Vw (w.setCell ⟨v, 1, none⟩ (.int .i64 (q : Int))) v bb B q := by
  obtain ⟨bo, cb, h1, h2, h3⟩ := h.ex
  refine ⟨⟨bo, cb, (h1.set 1 _).congr (fun i hi => ?_), RdA.chg h2 (Chg.of_set w v 1 _) (fun b o e h0 => by rw [h3 b o e h0]; exact h.ne), h3⟩, h.ne, h.byt⟩
  rcases i with _ | _ | i
  · rfl
  · simp
  · omega
/-- the numbers from a place on -/
def vnF (B : List Int) (p : Nat) : Nat → Int := fun i => i8v (B.getD (p + i) 0)
theorem vnF_bd {B : List Int} (h : Byt B) (p i : Nat) : -128 ≤ vnF B p i ∧ vnF B p i ≤ 127 := by
  have := i8v_bd (h.at_ (p + i))
  exact ⟨this.1, this.2.1⟩
set_option maxRecDepth 20000 in
set_option maxHeartbeats 1600000 in
theorem vnarrow_any {w : World} {v bb : Nat} {B : List Int} {p : Nat} (h : Vw w v bb B p) (hbb : bb < w.heap.size) {n : Nat} (hn : n ≤ 1048576) (hp : p ≤ 1099511627776) :
    Calls Try.prog 60 #[.pointer (some ⟨v, 0, none⟩), .int .i64 n] w fun e w' => ∃ u c, e = .returned (.slice u n c) ∧ Own w' w.heap.size 84 1 (.slice u n c) n (fun i => .int .i8 (vnF B p i)) ∧ Vw w' v bb B (p + n) ∧ Chg w w' (fun b => b = v) := by
  have HV := hidd h
  have hvl := h.lt
  have HBY := hidd h.byt
  clear h
  go_enter Try.func60, Try.ntmps60
  go_upto_region 2 with fail
  go_wp2
  go_loopw [5, 6] (fun lv iv wr => ∃ (i : Nat) (u : Option Addr) (c : Nat), i ≤ n ∧ iv = .int .i64 i ∧ lv = .slice u i c ∧ Hid (Own wr w.heap.size 84 1 (.slice u i c) i (fun j => .int .i8 (vnF B p j))) ∧ Hid (Vw wr v bb B (p + i)) ∧ Hid (Chg w wr (fun b => b = v))) (fun _ iv _ => n - (intOf iv).toNat)
  case atStart => exact ⟨0, none, 0, by omega, rfl, rfl, own_nil _ _ _ _ _, HV.out, Chg.refl _ _⟩
  case round =>
    clear HV
    obtain ⟨i, u, c, hi, rfl, rfl, HO, HW, HC⟩ := hrel
    by_cases hlt : i < n
    · have i1 : (i : Int) < (n : Int) := by omega
      obtain ⟨bo, cb, hr, hb, hne⟩ := HW.out.ex
      have n1 := hb.le
      have n2 := hb.top
      unfold maxLen at n2
      have c0 : wr.cell? ⟨v, 0, none⟩ = some (.slice bo B.length cb) := hr.cell (i := 0) (by decide)
      have c1 : wr.cell? ⟨v, 1, none⟩ = some (.int .i64 ((p + i : Nat) : Int)) := hr.cell (i := 1) (by decide)
      obtain ⟨q, hq⟩ : ∃ q, Hid (q = p + i) := ⟨_, rfl⟩
      have hqb : q ≤ 1099512676352 := by rw [hq.out]; omega
      rw [← hq.out] at c1
      have HW1 := HW
      rw [← hq.out] at HW1
      obtain ⟨l, hl⟩ : ∃ l, Hid (l = B.length) := ⟨_, rfl⟩
      rw [← hl.out] at c0 n1
      have hsz := HC.out.size
      have wq : IntKind.i64.wrap ((q : Int) + 1) = ((q + 1 : Nat) : Int) := by rw [show (q : Int) + 1 = ((q + 1 : Nat) : Int) by omega]; exact wrap_small _ (by omega) (by omega)
      have HFIN : Hid (∀ (y : Int) (z : World), y = vnF B p i → Below wr.heap.size wr z → ∀ (v' : Value) (w6 : World), Own w6 w.heap.size 84 1 v' (i + 1) (fun j => .int .i8 (vnF B p j)) → App (z.alloc (.cells #[.int .i8 y] 84)) w6 (.slice u i c) v' → w6.cell? ⟨v, 1, none⟩ = some (.int .i64 (q : Int)) ∧ (∀ j, w6.frozen? ⟨v, j, none⟩ = false) ∧ Own (w6.setCell ⟨v, 1, none⟩ (.int .i64 ((q + 1 : Nat) : Int))) w.heap.size 84 1 v' (i + 1) (fun j => .int .i8 (vnF B p j)) ∧ Vw (w6.setCell ⟨v, 1, none⟩ (.int .i64 ((q + 1 : Nat) : Int))) v bb B (p + (i + 1)) ∧ Chg w (w6.setCell ⟨v, 1, none⟩ (.int .i64 ((q + 1 : Nat) : Int))) (fun b => b = v)) := by
        intro y z _ fz v' w6 ho ha
        have fz2 := fresh_trans fz (fresh_alloc z (.cells #[.int .i8 y] 84))
        have c6 := Chg.of_app ha
        have hoff : ∀ b, (Value.slice u i c).ownBlock = some b → w.heap.size ≤ b := fun b e => (HO.out.lt b e).1
        have hv6 := (HW1.out.fresh fz2).chg c6 (fun e => by have := hoff v e; omega) (fun e => by have := hoff bb e; omega)
        obtain ⟨bo6, cb6, hr6, _, _⟩ := hv6.ex
        refine ⟨hr6.cell (i := 1) (by decide), hr6.frozen, ?_, ?_, ?_⟩
        · exact ho.chg (Chg.of_set w6 v 1 _) (fun b e hb => by have := (ho.lt b e).1; omega)
        · have := hv6.move (q + 1)
          rw [show p + (i + 1) = q + 1 by rw [hq.out]; omega]
          exact this
        · exact (((HC.out.post fz2)).trans c6 (fun b hb e => by have := hoff b e; omega)).trans (Chg.of_set w6 v 1 _) (fun _ _ e => e)
      have HON : Hid (∀ z : World, Below wr.heap.size wr z → Own z w.heap.size 84 1 (.slice u i c) i (fun j => .int .i8 (vnF B p j))) := fun z fz => HO.out.kept fz
      have hne2 := later_some wr
      by_cases hin : q < l
      · have j1 : (q : Int) < (l : Int) := by omega
        obtain ⟨b, o, rfl, hcc⟩ := hb.one (by rw [← hl.out]; omega)
        obtain ⟨x, hx⟩ : ∃ x, Hid (x = B.getD q 0) := ⟨_, rfl⟩
        have cx : wr.cell? ⟨b, o + q, none⟩ = some (.int .u8 x) := by rw [hx.out]; exact hcc q (by rw [← hl.out]; omega)
        have hw8 : IntKind.i8.wrap x = i8v x := wrap_i8 (by rw [hx.out]; exact HBY.out.at_ q)
        obtain ⟨y, hy⟩ : ∃ y, Hid (y = i8v x) := ⟨_, rfl⟩
        rw [← hy.out] at hw8
        have HY : Hid (y = vnF B p i) := by rw [hy.out, hx.out, hq.out]; rfl
        clear hr hb hne hcc HW HW1 HO HC
        go_upto_region 6 with fail
        go_region
        go_upto_region 7 with fail
        go_region
        clear c0 c1 cx
        have HF := hidd ((Below.refl _ wr).drew.drew : Below wr.heap.size wr wr.drew.drew)
        have HNC : Hid ((wr.drew.drew.alloc (.cells #[.int .i8 y] 84)).cell? ⟨wr.drew.drew.heap.size, 0, none⟩ = some (.int .i8 (vnF B p i))) := by rw [← HY.out]; exact new_cell _ _ _
        have HO1 := hidd ((HON.out _ HF.out).kept (fresh_alloc wr.drew.drew (.cells #[.int .i8 y] 84)))
        go_upto_region 9 with (at_builtin; refine wpList_app1 _ rfl _ _ 27 rfl w.heap.size 84 (.int .i8 0) 1 Try.underlying27 infoI8 rfl _ i (fun j => .int .i8 (vnF B p j)) rfl HO1.out _ 1 rfl HNC.out rfl (by omega) (by omega) (by have := HF.out.size; simp at this ⊢; omega) ?_; intro v' w6 ho ha; have HG := hidd (HFIN.out y _ HY.out HF.out v' w6 ho ha); obtain ⟨u6, k6, hv6, _⟩ := ho.rd; subst hv6; clear ho ha)
        have g1 := HG.out.1
        have fz6 := HG.out.2.1
        clear HNC HO1 HF
        go_wp2
        go_roundw
        case rel => exact ⟨i + 1, _, _, by omega, by go_num, rfl, HG.out.2.2.1, HG.out.2.2.2.1, HG.out.2.2.2.2⟩
        case measure => simp [intOf]; omega
      · have j1 : ¬ (q : Int) < (l : Int) := by omega
        obtain ⟨y, hy⟩ : ∃ y : Int, Hid (y = 0) := ⟨_, rfl⟩
        have HY : Hid (y = vnF B p i) := by
          rw [hy.out]
          unfold vnF i8v
          rw [← hq.out, List.getD_eq_getElem?_getD, List.getElem?_eq_none (by rw [← hl.out]; omega)]
          rfl
        have hw8 : IntKind.i8.wrap 0 = y := by rw [hy.out]; rfl
        clear hr hb hne HW HW1 HO HC
        go_upto_region 6 with fail
        go_region
        clear c0 c1
        have HF := hidd ((Below.refl _ wr).drew : Below wr.heap.size wr wr.drew)
        have HNC : Hid ((wr.drew.alloc (.cells #[.int .i8 y] 84)).cell? ⟨wr.drew.heap.size, 0, none⟩ = some (.int .i8 (vnF B p i))) := by rw [← HY.out]; exact new_cell _ _ _
        have HO1 := hidd ((HON.out _ HF.out).kept (fresh_alloc wr.drew (.cells #[.int .i8 y] 84)))
        go_upto_region 9 with (at_builtin; refine wpList_app1 _ rfl _ _ 27 rfl w.heap.size 84 (.int .i8 0) 1 Try.underlying27 infoI8 rfl _ i (fun j => .int .i8 (vnF B p j)) rfl HO1.out _ 1 rfl HNC.out rfl (by omega) (by omega) (by have := HF.out.size; simp at this ⊢; omega) ?_; intro v' w6 ho ha; have HG := hidd (HFIN.out y _ HY.out HF.out v' w6 ho ha); obtain ⟨u6, k6, hv6, _⟩ := ho.rd; subst hv6; clear ho ha)
        have g1 := HG.out.1
        have fz6 := HG.out.2.1
        clear HNC HO1 HF
        go_wp2
        go_roundw
        case rel => exact ⟨i + 1, _, _, by omega, by go_num, rfl, HG.out.2.2.1, HG.out.2.2.2.1, HG.out.2.2.2.2⟩
        case measure => simp [intOf]; omega
    · have i1 : ¬ (i : Int) < (n : Int) := by omega
      have ei : i = n := by omega
      subst ei
      go_wp2
      go_ret
      exact ⟨_, _, rfl, HO.out, HW.out, HC.out⟩
end Go.Proofs.Ytilghknalbhacaa
