import Derived.Test.YtilghknalbhacaaLyRef
import Derived.Deep.MidRow
import Derived.Test.YtilghknalbhacaaJAI
import Derived.Deep.WholeRow
import Derived.Laws.Tables
import Derived.BigRegion
namespace Go.Proofs.Ytilghknalbhacaa
open Go.RowKit
/-! Weights as data. -/
structure WtD where
  V : Int
  W : Int
  H : Int
  K : Int
  L : Int
  D : Int
  N : Int
  M : Int
  E : MtD
  tO : Option Addr
  tn : Nat
  tc : Nat
  tC : Nat → Int
  tS : Nat → Int
  yO : Option Addr
  yn : Nat
  yc : Nat
  ly : Nat → LyD
  F : LsD
  Q : MtD
  mO : Option Addr
  mn : Nat
  mc : Nat
  md : Nat → MtD
def LyC (w : World) (b off : Nat) (l : LyD) : Prop := w.cell? ⟨b, off, none⟩ = some (.slice l.n1.O l.n1.n l.n1.c) ∧ w.cell? ⟨b, off + 1, none⟩ = some (.slice l.n2.O l.n2.n l.n2.c) ∧ w.cell? ⟨b, off + 2, none⟩ = some (.int .i64 l.q.R) ∧ w.cell? ⟨b, off + 3, none⟩ = some (.int .i64 l.q.C) ∧ w.cell? ⟨b, off + 4, none⟩ = some (.slice l.q.O l.q.n l.q.c) ∧ w.cell? ⟨b, off + 5, none⟩ = some (.int .i64 l.k.R) ∧ w.cell? ⟨b, off + 6, none⟩ = some (.int .i64 l.k.C) ∧ w.cell? ⟨b, off + 7, none⟩ = some (.slice l.k.O l.k.n l.k.c) ∧ w.cell? ⟨b, off + 8, none⟩ = some (.int .i64 l.v.R) ∧ w.cell? ⟨b, off + 9, none⟩ = some (.int .i64 l.v.C) ∧ w.cell? ⟨b, off + 10, none⟩ = some (.slice l.v.O l.v.n l.v.c) ∧ w.cell? ⟨b, off + 11, none⟩ = some (.int .i64 l.o.R) ∧ w.cell? ⟨b, off + 12, none⟩ = some (.int .i64 l.o.C) ∧ w.cell? ⟨b, off + 13, none⟩ = some (.slice l.o.O l.o.n l.o.c) ∧ w.cell? ⟨b, off + 14, none⟩ = some (.int .i64 l.g.R) ∧ w.cell? ⟨b, off + 15, none⟩ = some (.int .i64 l.g.C) ∧ w.cell? ⟨b, off + 16, none⟩ = some (.slice l.g.O l.g.n l.g.c) ∧ w.cell? ⟨b, off + 17, none⟩ = some (.int .i64 l.u.R) ∧ w.cell? ⟨b, off + 18, none⟩ = some (.int .i64 l.u.C) ∧ w.cell? ⟨b, off + 19, none⟩ = some (.slice l.u.O l.u.n l.u.c) ∧ w.cell? ⟨b, off + 20, none⟩ = some (.int .i64 l.d.R) ∧ w.cell? ⟨b, off + 21, none⟩ = some (.int .i64 l.d.C) ∧ w.cell? ⟨b, off + 22, none⟩ = some (.slice l.d.O l.d.n l.d.c) ∧ w.cell? ⟨b, off + 23, none⟩ = some (.int .i64 (l.sh 0)) ∧ w.cell? ⟨b, off + 24, none⟩ = some (.int .i64 (l.sh 1)) ∧ w.cell? ⟨b, off + 25, none⟩ = some (.int .i64 (l.sh 2)) ∧ w.cell? ⟨b, off + 26, none⟩ = some (.int .i64 (l.sh 3)) ∧ w.cell? ⟨b, off + 27, none⟩ = some (.int .i64 (l.sh 4)) ∧ w.cell? ⟨b, off + 28, none⟩ = some (.int .i64 (l.sh 5)) ∧ w.cell? ⟨b, off + 29, none⟩ = some (.int .i64 (l.sh 6))
def MtC (w : World) (b off : Nat) (m : MtD) : Prop := w.cell? ⟨b, off, none⟩ = some (.int .i64 m.R) ∧ w.cell? ⟨b, off + 1, none⟩ = some (.int .i64 m.C) ∧ w.cell? ⟨b, off + 2, none⟩ = some (.slice m.O m.n m.c)
theorem LyC.fresh {w w' : World} {b off : Nat} {l : LyD} (h : LyC w b off l) (f : Below w.heap.size w w') : LyC w' b off l :=
  ⟨fresh_cell f h.1, fresh_cell f h.2.1, fresh_cell f h.2.2.1, fresh_cell f h.2.2.2.1, fresh_cell f h.2.2.2.2.1, fresh_cell f h.2.2.2.2.2.1, fresh_cell f h.2.2.2.2.2.2.1, fresh_cell f h.2.2.2.2.2.2.2.1, fresh_cell f h.2.2.2.2.2.2.2.2.1, fresh_cell f h.2.2.2.2.2.2.2.2.2.1, fresh_cell f h.2.2.2.2.2.2.2.2.2.2.1, fresh_cell f h.2.2.2.2.2.2.2.2.2.2.2.1, fresh_cell f h.2.2.2.2.2.2.2.2.2.2.2.2.1, fresh_cell f h.2.2.2.2.2.2.2.2.2.2.2.2.2.1, fresh_cell f h.2.2.2.2.2.2.2.2.2.2.2.2.2.2.1, fresh_cell f h.2.2.2.2.2.2.2.2.2.2.2.2.2.2.2.1, fresh_cell f h.2.2.2.2.2.2.2.2.2.2.2.2.2.2.2.2.1, fresh_cell f h.2.2.2.2.2.2.2.2.2.2.2.2.2.2.2.2.2.1, fresh_cell f h.2.2.2.2.2.2.2.2.2.2.2.2.2.2.2.2.2.2.1, fresh_cell f h.2.2.2.2.2.2.2.2.2.2.2.2.2.2.2.2.2.2.2.1, fresh_cell f h.2.2.2.2.2.2.2.2.2.2.2.2.2.2.2.2.2.2.2.2.1, fresh_cell f h.2.2.2.2.2.2.2.2.2.2.2.2.2.2.2.2.2.2.2.2.2.1, fresh_cell f h.2.2.2.2.2.2.2.2.2.2.2.2.2.2.2.2.2.2.2.2.2.2.1, fresh_cell f h.2.2.2.2.2.2.2.2.2.2.2.2.2.2.2.2.2.2.2.2.2.2.2.1, fresh_cell f h.2.2.2.2.2.2.2.2.2.2.2.2.2.2.2.2.2.2.2.2.2.2.2.2.1, fresh_cell f h.2.2.2.2.2.2.2.2.2.2.2.2.2.2.2.2.2.2.2.2.2.2.2.2.2.1, fresh_cell f h.2.2.2.2.2.2.2.2.2.2.2.2.2.2.2.2.2.2.2.2.2.2.2.2.2.2.1, fresh_cell f h.2.2.2.2.2.2.2.2.2.2.2.2.2.2.2.2.2.2.2.2.2.2.2.2.2.2.2.1, fresh_cell f h.2.2.2.2.2.2.2.2.2.2.2.2.2.2.2.2.2.2.2.2.2.2.2.2.2.2.2.2.1, fresh_cell f h.2.2.2.2.2.2.2.2.2.2.2.2.2.2.2.2.2.2.2.2.2.2.2.2.2.2.2.2.2⟩
theorem MtC.fresh {w w' : World} {b off : Nat} {m : MtD} (h : MtC w b off m) (f : Below w.heap.size w w') : MtC w' b off m := ⟨fresh_cell f h.1, fresh_cell f h.2.1, fresh_cell f h.2.2⟩
structure WtR (w : World) (x : WtD) : Prop where
  E : MtR w x.E
  T : RdA w x.tO 2 x.tn x.tc (tcs x.tC x.tS)
  F : LsR w x.F
  Q : MtR w x.Q
  yle : x.yn ≤ x.yc
  ytop : x.yc ≤ maxLen
  yat : 0 < x.yn → ∃ b off, x.yO = some ⟨b, off, none⟩ ∧ ∀ k, k < x.yn → LyC w b (off + k * 30) (x.ly k)
  yr : ∀ k, k < x.yn → LyR w (x.ly k)
  mle : x.mn ≤ x.mc
  mtop : x.mc ≤ maxLen
  mat : 0 < x.mn → ∃ b off, x.mO = some ⟨b, off, none⟩ ∧ ∀ k, k < x.mn → MtC w b (off + k * 3) (x.md k)
  mr : ∀ k, k < x.mn → MtR w (x.md k)
theorem WtR.fresh {w w' : World} {x : WtD} (h : WtR w x) (f : Below w.heap.size w w') : WtR w' x := by
  refine ⟨h.E.fresh f, h.T.fresh f, h.F.fresh f, h.Q.fresh f, h.yle, h.ytop, fun h0 => ?_, fun k hk => (h.yr k hk).fresh f, h.mle, h.mtop, fun h0 => ?_, fun k hk => (h.mr k hk).fresh f⟩
  · obtain ⟨b, off, e, hc⟩ := h.yat h0
    exact ⟨b, off, e, fun k hk => (hc k hk).fresh f⟩
  · obtain ⟨b, off, e, hc⟩ := h.mat h0
    exact ⟨b, off, e, fun k hk => (hc k hk).fresh f⟩
def WtD.may (x : WtD) : Prop := Go.Proofs.Ytilghknalbhacaa.may x.V x.W x.H x.K x.L x.D x.N x.M
/-- the weights fit -/
structure WtP (x : WtD) : Prop where
  E : x.E.isa x.V x.W
  Q : x.Q.isa x.V x.W
  F : x.F.gains x.W
  T : TnP x.tn x.tC x.tS (x.W / x.H / 2)
  yn : (x.yn : Int) = x.L
  mn : (x.mn : Int) = x.M
  y : ∀ k, k < x.yn → LyP (x.ly k) x.W (x.K * (x.W / x.H)) x.D
  m : ∀ k, k < x.mn → (x.md k).isa x.V x.W
/-- Check's answer -/
def IsE (x : WtD) (e : Int) : Prop := (¬ x.may ∧ e = 40) ∨ (x.may ∧ ¬ WtP x ∧ e = 41) ∨ (x.may ∧ WtP x ∧ e = 0)
theorem kv_bd {W H K : Int} (h1 : 1 ≤ H) (h2 : 1 ≤ K) (h3 : K ≤ H) (h4 : 2 ≤ W) (h5 : W ≤ 32) : 0 ≤ K * (W / H) ∧ K * (W / H) ≤ 128 := by
  have hq := Int.ediv_nonneg (show 0 ≤ W by omega) (show 0 ≤ H by omega)
  have hm := Int.mul_ediv_self_le (x := W) (k := H) (by omega)
  have h6 : K * (W / H) ≤ H * (W / H) := Int.mul_le_mul_of_nonneg_right h3 hq
  exact ⟨Int.mul_nonneg (by omega) hq, by omega⟩
end Go.Proofs.Ytilghknalbhacaa
namespace Go.Proofs.Ytilghknalbhacaa
open Go.RowKit
/-! A layer is loaded whole in a drawn region. -/
theorem quiet_load_mid {P : Program} {o : Oper} {a : Act} {C : World → Prop} {K : Act → Prop} (ty : TypeId) (x : Operand) (ho : o.op = .load ty x) (b off : Nat) (hx : a.eval x = .pointer (some ⟨b, off, none⟩)) (cs : List Value) (d : TypeDesc) (hc : ∀ w, C w → w.rangeAt b off cs)
    (hu : P.underlying ty = some d) (hd : d.isRow = true) (hi : (P.info? ty).map (·.size) = some cs.length) (hk : K (a.put o.dst (.agg cs.toArray))) : o.quiet P a C K :=
  ⟨_, fun w hw => by
    unfold Oper.quietAt execOp
    simp only [ho, hx, Sem.run_bind, Sem.run_pure, Result.andThen_ok, run_loadAt_mid w b off ty cs d (hc w hw) hu hd hi]
    exact ⟨rfl, rfl⟩, hk⟩
theorem put_list (l : List Value) (ds : List Deferred) (d : Tmp) (v : Value) : Act.put { tmps := l.toArray, defers := ds } (some d) v = { tmps := (l.set d v).toArray, defers := ds } := by simp [Act.put]
def lyL (l : LyD) : List Value := [.slice l.n1.O l.n1.n l.n1.c, .slice l.n2.O l.n2.n l.n2.c, .int .i64 l.q.R, .int .i64 l.q.C, .slice l.q.O l.q.n l.q.c, .int .i64 l.k.R, .int .i64 l.k.C, .slice l.k.O l.k.n l.k.c, .int .i64 l.v.R, .int .i64 l.v.C, .slice l.v.O l.v.n l.v.c, .int .i64 l.o.R, .int .i64 l.o.C, .slice l.o.O l.o.n l.o.c, .int .i64 l.g.R, .int .i64 l.g.C, .slice l.g.O l.g.n l.g.c, .int .i64 l.u.R, .int .i64 l.u.C, .slice l.u.O l.u.n l.u.c, .int .i64 l.d.R, .int .i64 l.d.C, .slice l.d.O l.d.n l.d.c, .int .i64 (l.sh 0), .int .i64 (l.sh 1), .int .i64 (l.sh 2), .int .i64 (l.sh 3), .int .i64 (l.sh 4), .int .i64 (l.sh 5), .int .i64 (l.sh 6)]
theorem LyC.range {w : World} {b off : Nat} {l : LyD} (h : LyC w b off l) : w.rangeAt b off (lyL l) := by
  obtain ⟨y0, y1, y2, y3, y4, y5, y6, y7, y8, y9, y10, y11, y12, y13, y14, y15, y16, y17, y18, y19, y20, y21, y22, y23, y24, y25, y26, y27, y28, y29⟩ := h
  intro j v hj
  unfold lyL at hj
  match j, hj with
  | 0, hj => simp only [List.getElem?_cons_zero, Option.some.injEq] at hj; rw [← hj]; exact y0
  | 1, hj => simp only [List.getElem?_cons_zero, List.getElem?_cons_succ, Option.some.injEq] at hj; rw [← hj]; exact y1
  | 2, hj => simp only [List.getElem?_cons_zero, List.getElem?_cons_succ, Option.some.injEq] at hj; rw [← hj]; exact y2
  | 3, hj => simp only [List.getElem?_cons_zero, List.getElem?_cons_succ, Option.some.injEq] at hj; rw [← hj]; exact y3
  | 4, hj => simp only [List.getElem?_cons_zero, List.getElem?_cons_succ, Option.some.injEq] at hj; rw [← hj]; exact y4
  | 5, hj => simp only [List.getElem?_cons_zero, List.getElem?_cons_succ, Option.some.injEq] at hj; rw [← hj]; exact y5
  | 6, hj => simp only [List.getElem?_cons_zero, List.getElem?_cons_succ, Option.some.injEq] at hj; rw [← hj]; exact y6
  | 7, hj => simp only [List.getElem?_cons_zero, List.getElem?_cons_succ, Option.some.injEq] at hj; rw [← hj]; exact y7
  | 8, hj => simp only [List.getElem?_cons_zero, List.getElem?_cons_succ, Option.some.injEq] at hj; rw [← hj]; exact y8
  | 9, hj => simp only [List.getElem?_cons_zero, List.getElem?_cons_succ, Option.some.injEq] at hj; rw [← hj]; exact y9
  | 10, hj => simp only [List.getElem?_cons_zero, List.getElem?_cons_succ, Option.some.injEq] at hj; rw [← hj]; exact y10
  | 11, hj => simp only [List.getElem?_cons_zero, List.getElem?_cons_succ, Option.some.injEq] at hj; rw [← hj]; exact y11
  | 12, hj => simp only [List.getElem?_cons_zero, List.getElem?_cons_succ, Option.some.injEq] at hj; rw [← hj]; exact y12
  | 13, hj => simp only [List.getElem?_cons_zero, List.getElem?_cons_succ, Option.some.injEq] at hj; rw [← hj]; exact y13
  | 14, hj => simp only [List.getElem?_cons_zero, List.getElem?_cons_succ, Option.some.injEq] at hj; rw [← hj]; exact y14
  | 15, hj => simp only [List.getElem?_cons_zero, List.getElem?_cons_succ, Option.some.injEq] at hj; rw [← hj]; exact y15
  | 16, hj => simp only [List.getElem?_cons_zero, List.getElem?_cons_succ, Option.some.injEq] at hj; rw [← hj]; exact y16
  | 17, hj => simp only [List.getElem?_cons_zero, List.getElem?_cons_succ, Option.some.injEq] at hj; rw [← hj]; exact y17
  | 18, hj => simp only [List.getElem?_cons_zero, List.getElem?_cons_succ, Option.some.injEq] at hj; rw [← hj]; exact y18
  | 19, hj => simp only [List.getElem?_cons_zero, List.getElem?_cons_succ, Option.some.injEq] at hj; rw [← hj]; exact y19
  | 20, hj => simp only [List.getElem?_cons_zero, List.getElem?_cons_succ, Option.some.injEq] at hj; rw [← hj]; exact y20
  | 21, hj => simp only [List.getElem?_cons_zero, List.getElem?_cons_succ, Option.some.injEq] at hj; rw [← hj]; exact y21
  | 22, hj => simp only [List.getElem?_cons_zero, List.getElem?_cons_succ, Option.some.injEq] at hj; rw [← hj]; exact y22
  | 23, hj => simp only [List.getElem?_cons_zero, List.getElem?_cons_succ, Option.some.injEq] at hj; rw [← hj]; exact y23
  | 24, hj => simp only [List.getElem?_cons_zero, List.getElem?_cons_succ, Option.some.injEq] at hj; rw [← hj]; exact y24
  | 25, hj => simp only [List.getElem?_cons_zero, List.getElem?_cons_succ, Option.some.injEq] at hj; rw [← hj]; exact y25
  | 26, hj => simp only [List.getElem?_cons_zero, List.getElem?_cons_succ, Option.some.injEq] at hj; rw [← hj]; exact y26
  | 27, hj => simp only [List.getElem?_cons_zero, List.getElem?_cons_succ, Option.some.injEq] at hj; rw [← hj]; exact y27
  | 28, hj => simp only [List.getElem?_cons_zero, List.getElem?_cons_succ, Option.some.injEq] at hj; rw [← hj]; exact y28
  | 29, hj => simp only [List.getElem?_cons_zero, List.getElem?_cons_succ, Option.some.injEq] at hj; rw [← hj]; exact y29
  | j + 30, hj => simp at hj
theorem sizeLy (l : LyD) : (Try.prog.info? 67).map (·.size) = some (lyL l).length := by
  have : (Try.prog.info? 67).map (·.size) = some 30 := by kernel_rfl
  rw [this]
  rfl
end Go.Proofs.Ytilghknalbhacaa
namespace Go.Proofs.Ytilghknalbhacaa
open Go.RowKit
/-! Shifts, cut. -/
def ct (x : Int) : Int := min (max x 0) 24
theorem ct_same (x : Int) : ct x = x ↔ 0 ≤ x ∧ x ≤ 24 := by unfold ct; omega
end Go.Proofs.Ytilghknalbhacaa
namespace Go.Proofs.Ytilghknalbhacaa
open Go.RowKit
/-! shapes, matsOf, cutShifts. -/
def fv (n : Nat) : Value := .func (.func n) #[] #[]
def tab8 : Array Value := #[.func (.func 96) #[] #[], .func (.func 96) #[] #[], .func (.func 98) #[] #[], .func (.func 96) #[] #[], .func (.func 98) #[] #[], .func (.func 96) #[] #[], .func (.func 96) #[] #[], .func (.func 96) #[] #[], .func (.func 97) #[] #[], .func (.func 96) #[] #[], .func (.func 97) #[] #[], .func (.func 96) #[] #[], .func (.func 96) #[] #[], .func (.func 97) #[] #[], .func (.func 95) #[] #[], .func (.func 96) #[] #[]]
theorem size8 : (Try.prog.info? 118).map (·.size) = some 16 := by kernel_rfl
set_option maxRecDepth 20000 in
set_option maxHeartbeats 1600000 in
theorem shapes_any (w : World) : Calls Try.prog 84 #[] w fun e w' => e = .returned (.agg tab8) ∧ Below w.heap.size w w' := by
  go_enter Try.func84, Try.ntmps84
  go_wp2_with (refine wpList_store_row rfl 118 _ _ rfl w.heap.size tab8 rfl rfl 118 _ (heap_new _ _) size8 rfl (by kernel_rfl) ?_)
  refine bodyPost_ret (v := .agg tab8) ?_ ?_ ?_
  · exact results_cell_row Try.results84 _ _ w.heap.size 118 _ (0, 0) _ rfl (setRow_heap _ _ _ _ _ _ (heap_new _ _)) Try.underlying118 rfl (by kernel_rfl)
  · rfl
  · exact ⟨rfl, below_setRow (fresh_alloc _ _) (Nat.le_refl _) _⟩
end Go.Proofs.Ytilghknalbhacaa
namespace Go.Proofs.Ytilghknalbhacaa
open Go.RowKit
/-! matsOf. -/
theorem fresh_setCells {w : World} (g : Nat) {B : Nat} (hB : B ≤ g) : ∀ (vs : List Value) (o : Nat) (w' : World), Below B w w' → Below B w (w'.setCells g o vs)
  | [], _, _, h => h
  | _ :: r, o, _, h => fresh_setCells g hB r (o + 1) _ (h.setCell hB _)
theorem results_cell_mid {P : Program} {fn : Func} {p : Tmp} {ty : TypeId} (h : fn.results = #[.cell p ty]) (tmps : Array Value) (w : World) (g : Nat) (cs : List Value) (d : TypeDesc)
    (hp : tmps.getD p undef = .pointer (some ⟨g, 0, none⟩)) (hc : w.rangeAt g 0 cs) (hu : P.underlying ty = some d) (hd : d.isRow = true) (hi : (P.info? ty).map (·.size) = some cs.length) :
    (results fn tmps).run P w = .ok (.agg cs.toArray) w := by
  have hp' : tmps[p]?.getD undef = .pointer (some ⟨g, 0, none⟩) := by simpa using hp
  simp [results, h, hp', asAddr, run_loadVar_mid w g 0 ty cs d hc hu hd hi]
def pm7 (b o : Nat) : Array Value := #[.pointer (some ⟨b, o + 2, none⟩), .pointer (some ⟨b, o + 5, none⟩), .pointer (some ⟨b, o + 8, none⟩), .pointer (some ⟨b, o + 11, none⟩), .pointer (some ⟨b, o + 14, none⟩), .pointer (some ⟨b, o + 17, none⟩), .pointer (some ⟨b, o + 20, none⟩)]
set_option maxRecDepth 20000 in
set_option maxHeartbeats 1600000 in
theorem matsOf_any (w : World) (b o : Nat) : Calls Try.prog 63 #[.pointer (some ⟨b, o, none⟩)] w fun e w' => e = .returned (.agg (pm7 b o)) ∧ Below w.heap.size w w' := by
  go_enter Try.func63, Try.ntmps63
  go_wp2
  have hf := fresh_alloc w (.cells #[.pointer none, .pointer none, .pointer none, .pointer none, .pointer none, .pointer none, .pointer none] 104)
  have hN := heap_new w (.cells #[.pointer none, .pointer none, .pointer none, .pointer none, .pointer none, .pointer none, .pointer none] 104)
  have p0 : (w.alloc (.cells #[.pointer none, .pointer none, .pointer none, .pointer none, .pointer none, .pointer none, .pointer none] 104)).cell? ⟨w.heap.size, 0, none⟩ = some (.pointer none) := cell_heap hN 0
  have q0 : (w.alloc (.cells #[.pointer none, .pointer none, .pointer none, .pointer none, .pointer none, .pointer none, .pointer none] 104)).frozen? ⟨w.heap.size, 0, none⟩ = false := by simp
  have p1 : (w.alloc (.cells #[.pointer none, .pointer none, .pointer none, .pointer none, .pointer none, .pointer none, .pointer none] 104)).cell? ⟨w.heap.size, 1, none⟩ = some (.pointer none) := cell_heap hN 1
  have q1 : (w.alloc (.cells #[.pointer none, .pointer none, .pointer none, .pointer none, .pointer none, .pointer none, .pointer none] 104)).frozen? ⟨w.heap.size, 1, none⟩ = false := by simp
  have p2 : (w.alloc (.cells #[.pointer none, .pointer none, .pointer none, .pointer none, .pointer none, .pointer none, .pointer none] 104)).cell? ⟨w.heap.size, 2, none⟩ = some (.pointer none) := cell_heap hN 2
  have q2 : (w.alloc (.cells #[.pointer none, .pointer none, .pointer none, .pointer none, .pointer none, .pointer none, .pointer none] 104)).frozen? ⟨w.heap.size, 2, none⟩ = false := by simp
  have p3 : (w.alloc (.cells #[.pointer none, .pointer none, .pointer none, .pointer none, .pointer none, .pointer none, .pointer none] 104)).cell? ⟨w.heap.size, 3, none⟩ = some (.pointer none) := cell_heap hN 3
  have q3 : (w.alloc (.cells #[.pointer none, .pointer none, .pointer none, .pointer none, .pointer none, .pointer none, .pointer none] 104)).frozen? ⟨w.heap.size, 3, none⟩ = false := by simp
  have p4 : (w.alloc (.cells #[.pointer none, .pointer none, .pointer none, .pointer none, .pointer none, .pointer none, .pointer none] 104)).cell? ⟨w.heap.size, 4, none⟩ = some (.pointer none) := cell_heap hN 4
  have q4 : (w.alloc (.cells #[.pointer none, .pointer none, .pointer none, .pointer none, .pointer none, .pointer none, .pointer none] 104)).frozen? ⟨w.heap.size, 4, none⟩ = false := by simp
  have p5 : (w.alloc (.cells #[.pointer none, .pointer none, .pointer none, .pointer none, .pointer none, .pointer none, .pointer none] 104)).cell? ⟨w.heap.size, 5, none⟩ = some (.pointer none) := cell_heap hN 5
  have q5 : (w.alloc (.cells #[.pointer none, .pointer none, .pointer none, .pointer none, .pointer none, .pointer none, .pointer none] 104)).frozen? ⟨w.heap.size, 5, none⟩ = false := by simp
  have p6 : (w.alloc (.cells #[.pointer none, .pointer none, .pointer none, .pointer none, .pointer none, .pointer none, .pointer none] 104)).cell? ⟨w.heap.size, 6, none⟩ = some (.pointer none) := cell_heap hN 6
  have q6 : (w.alloc (.cells #[.pointer none, .pointer none, .pointer none, .pointer none, .pointer none, .pointer none, .pointer none] 104)).frozen? ⟨w.heap.size, 6, none⟩ = false := by simp
  clear hN
  generalize w.alloc (.cells #[.pointer none, .pointer none, .pointer none, .pointer none, .pointer none, .pointer none, .pointer none] 104) = w1 at *
  go_region
  go_wp2
  have hz := Nat.le_refl w.heap.size
  have HT : w1.there w.heap.size 0 7 := fun j hj => by
    match j, hj with
    | 0, _ => exact ⟨(congrArg Option.isSome p0).trans rfl, q0⟩
    | 1, _ => exact ⟨(congrArg Option.isSome p1).trans rfl, q1⟩
    | 2, _ => exact ⟨(congrArg Option.isSome p2).trans rfl, q2⟩
    | 3, _ => exact ⟨(congrArg Option.isSome p3).trans rfl, q3⟩
    | 4, _ => exact ⟨(congrArg Option.isSome p4).trans rfl, q4⟩
    | 5, _ => exact ⟨(congrArg Option.isSome p5).trans rfl, q5⟩
    | 6, _ => exact ⟨(congrArg Option.isSome p6).trans rfl, q6⟩
    | j + 7, hj => omega
  refine bodyPost_ret (v := .agg (pm7 b o)) ?_ ?_ ?_
  · refine results_cell_mid Try.results63 _ _ w.heap.size (pm7 b o).toList _ rfl ?_ Try.underlying104 rfl (by kernel_rfl)
    exact (World.rangeAt_drew _ _ _ _).2 (World.rangeAt_setCells_same w1 w.heap.size 0 (pm7 b o).toList HT)
  · rfl
  · exact ⟨rfl, (fresh_setCells w.heap.size hz (pm7 b o).toList 0 w1 hf).drew⟩
end Go.Proofs.Ytilghknalbhacaa
