import Derived.Test.YtjjnfpeeipainaaLyRef
namespace Go.Proofs.Ytjjnfpeeipainaa
open Go.RowKit
/-! Weights as data. -/
structure WtD where
  V : Int
  W : Int
  H : Int
  K : Int
  L : Int
  D : Int
  N : Int
  M : Int
  E : MtD
  tO : Option Addr
  tn : Nat
  tc : Nat
  tC : Nat → Int
  tS : Nat → Int
  yO : Option Addr
  yn : Nat
  yc : Nat
  ly : Nat → LyD
  F : LsD
  Q : MtD
  mO : Option Addr
  mn : Nat
  mc : Nat
  md : Nat → MtD
def LyC (w : World) (b off : Nat) (l : LyD) : Prop := w.cell? ⟨b, off, none⟩ = some (.slice l.n1.O l.n1.n l.n1.c) ∧ w.cell? ⟨b, off + 1, none⟩ = some (.slice l.n2.O l.n2.n l.n2.c) ∧ w.cell? ⟨b, off + 2, none⟩ = some (.int .i64 l.q.R) ∧ w.cell? ⟨b, off + 3, none⟩ = some (.int .i64 l.q.C) ∧ w.cell? ⟨b, off + 4, none⟩ = some (.slice l.q.O l.q.n l.q.c) ∧ w.cell? ⟨b, off + 5, none⟩ = some (.int .i64 l.k.R) ∧ w.cell? ⟨b, off + 6, none⟩ = some (.int .i64 l.k.C) ∧ w.cell? ⟨b, off + 7, none⟩ = some (.slice l.k.O l.k.n l.k.c) ∧ w.cell? ⟨b, off + 8, none⟩ = some (.int .i64 l.v.R) ∧ w.cell? ⟨b, off + 9, none⟩ = some (.int .i64 l.v.C) ∧ w.cell? ⟨b, off + 10, none⟩ = some (.slice l.v.O l.v.n l.v.c) ∧ w.cell? ⟨b, off + 11, none⟩ = some (.int .i64 l.o.R) ∧ w.cell? ⟨b, off + 12, none⟩ = some (.int .i64 l.o.C) ∧ w.cell? ⟨b, off + 13, none⟩ = some (.slice l.o.O l.o.n l.o.c) ∧ w.cell? ⟨b, off + 14, none⟩ = some (.int .i64 l.g.R) ∧ w.cell? ⟨b, off + 15, none⟩ = some (.int .i64 l.g.C) ∧ w.cell? ⟨b, off + 16, none⟩ = some (.slice l.g.O l.g.n l.g.c) ∧ w.cell? ⟨b, off + 17, none⟩ = some (.int .i64 l.u.R) ∧ w.cell? ⟨b, off + 18, none⟩ = some (.int .i64 l.u.C) ∧ w.cell? ⟨b, off + 19, none⟩ = some (.slice l.u.O l.u.n l.u.c) ∧ w.cell? ⟨b, off + 20, none⟩ = some (.int .i64 l.d.R) ∧ w.cell? ⟨b, off + 21, none⟩ = some (.int .i64 l.d.C) ∧ w.cell? ⟨b, off + 22, none⟩ = some (.slice l.d.O l.d.n l.d.c) ∧ w.cell? ⟨b, off + 23, none⟩ = some (.int .i64 (l.sh 0)) ∧ w.cell? ⟨b, off + 24, none⟩ = some (.int .i64 (l.sh 1)) ∧ w.cell? ⟨b, off + 25, none⟩ = some (.int .i64 (l.sh 2)) ∧ w.cell? ⟨b, off + 26, none⟩ = some (.int .i64 (l.sh 3)) ∧ w.cell? ⟨b, off + 27, none⟩ = some (.int .i64 (l.sh 4)) ∧ w.cell? ⟨b, off + 28, none⟩ = some (.int .i64 (l.sh 5)) ∧ w.cell? ⟨b, off + 29, none⟩ = some (.int .i64 (l.sh 6))
def MtC (w : World) (b off : Nat) (m : MtD) : Prop := w.cell? ⟨b, off, none⟩ = some (.int .i64 m.R) ∧ w.cell? ⟨b, off + 1, none⟩ = some (.int .i64 m.C) ∧ w.cell? ⟨b, off + 2, none⟩ = some (.slice m.O m.n m.c)
theorem LyC.fresh {w w' : World} {b off : Nat} {l : LyD} (h : LyC w b off l) (f : Below w.heap.size w w') : LyC w' b off l :=
  ⟨fresh_cell f h.1, fresh_cell f h.2.1, fresh_cell f h.2.2.1, fresh_cell f h.2.2.2.1, fresh_cell f h.2.2.2.2.1, fresh_cell f h.2.2.2.2.2.1, fresh_cell f h.2.2.2.2.2.2.1, fresh_cell f h.2.2.2.2.2.2.2.1, fresh_cell f h.2.2.2.2.2.2.2.2.1, fresh_cell f h.2.2.2.2.2.2.2.2.2.1, fresh_cell f h.2.2.2.2.2.2.2.2.2.2.1, fresh_cell f h.2.2.2.2.2.2.2.2.2.2.2.1, fresh_cell f h.2.2.2.2.2.2.2.2.2.2.2.2.1, fresh_cell f h.2.2.2.2.2.2.2.2.2.2.2.2.2.1, fresh_cell f h.2.2.2.2.2.2.2.2.2.2.2.2.2.2.1, fresh_cell f h.2.2.2.2.2.2.2.2.2.2.2.2.2.2.2.1, fresh_cell f h.2.2.2.2.2.2.2.2.2.2.2.2.2.2.2.2.1, fresh_cell f h.2.2.2.2.2.2.2.2.2.2.2.2.2.2.2.2.2.1, fresh_cell f h.2.2.2.2.2.2.2.2.2.2.2.2.2.2.2.2.2.2.1, fresh_cell f h.2.2.2.2.2.2.2.2.2.2.2.2.2.2.2.2.2.2.2.1, fresh_cell f h.2.2.2.2.2.2.2.2.2.2.2.2.2.2.2.2.2.2.2.2.1, fresh_cell f h.2.2.2.2.2.2.2.2.2.2.2.2.2.2.2.2.2.2.2.2.2.1, fresh_cell f h.2.2.2.2.2.2.2.2.2.2.2.2.2.2.2.2.2.2.2.2.2.2.1, fresh_cell f h.2.2.2.2.2.2.2.2.2.2.2.2.2.2.2.2.2.2.2.2.2.2.2.1, fresh_cell f h.2.2.2.2.2.2.2.2.2.2.2.2.2.2.2.2.2.2.2.2.2.2.2.2.1, fresh_cell f h.2.2.2.2.2.2.2.2.2.2.2.2.2.2.2.2.2.2.2.2.2.2.2.2.2.1, fresh_cell f h.2.2.2.2.2.2.2.2.2.2.2.2.2.2.2.2.2.2.2.2.2.2.2.2.2.2.1, fresh_cell f h.2.2.2.2.2.2.2.2.2.2.2.2.2.2.2.2.2.2.2.2.2.2.2.2.2.2.2.1, fresh_cell f h.2.2.2.2.2.2.2.2.2.2.2.2.2.2.2.2.2.2.2.2.2.2.2.2.2.2.2.2.1, fresh_cell f h.2.2.2.2.2.2.2.2.2.2.2.2.2.2.2.2.2.2.2.2.2.2.2.2.2.2.2.2.2⟩
theorem MtC.fresh {w w' : World} {b off : Nat} {m : MtD} (h : MtC w b off m) (f : Below w.heap.size w w') : MtC w' b off m := ⟨fresh_cell f h.1, fresh_cell f h.2.1, fresh_cell f h.2.2⟩
structure WtR (w : World) (x : WtD) : Prop where
  E : MtR w x.E
  T : RdA w x.tO 2 x.tn x.tc (tcs x.tC x.tS)
  F : LsR w x.F
  Q : MtR w x.Q
  yle : x.yn ≤ x.yc
  ytop : x.yc ≤ maxLen
  yat : 0 < x.yn → ∃ b off, x.yO = some ⟨b, off, none⟩ ∧ ∀ k, k < x.yn → LyC w b (off + k * 30) (x.ly k)
  yr : ∀ k, k < x.yn → LyR w (x.ly k)
  mle : x.mn ≤ x.mc
  mtop : x.mc ≤ maxLen
  mat : 0 < x.mn → ∃ b off, x.mO = some ⟨b, off, none⟩ ∧ ∀ k, k < x.mn → MtC w b (off + k * 3) (x.md k)
  mr : ∀ k, k < x.mn → MtR w (x.md k)
theorem WtR.fresh {w w' : World} {x : WtD} (h : WtR w x) (f : Below w.heap.size w w') : WtR w' x := by
  refine ⟨h.E.fresh f, h.T.fresh f, h.F.fresh f, h.Q.fresh f, h.yle, h.ytop, fun h0 => ?_, fun k hk => (h.yr k hk).fresh f, h.mle, h.mtop, fun h0 => ?_, fun k hk => (h.mr k hk).fresh f⟩
  · obtain ⟨b, off, e, hc⟩ := h.yat h0
    exact ⟨b, off, e, fun k hk => (hc k hk).fresh f⟩
  · obtain ⟨b, off, e, hc⟩ := h.mat h0
    exact ⟨b, off, e, fun k hk => (hc k hk).fresh f⟩
def WtD.may (x : WtD) : Prop := Go.Proofs.Ytjjnfpeeipainaa.may x.V x.W x.H x.K x.L x.D x.N x.M
/-- the weights fit -/
structure WtP (x : WtD) : Prop where
  E : x.E.isa x.V x.W
  Q : x.Q.isa x.V x.W
  F : x.F.gains x.W
  T : TnP x.tn x.tC x.tS (x.W / x.H / 2)
  yn : (x.yn : Int) = x.L
  mn : (x.mn : Int) = x.M
  y : ∀ k, k < x.yn → LyP (x.ly k) x.W (x.K * (x.W / x.H)) x.D
  m : ∀ k, k < x.mn → (x.md k).isa x.V x.W
/-- Check's answer -/
def IsE (x : WtD) (e : Int) : Prop := (¬ x.may ∧ e = 40) ∨ (x.may ∧ ¬ WtP x ∧ e = 41) ∨ (x.may ∧ WtP x ∧ e = 0)
theorem kv_bd {W H K : Int} (h1 : 1 ≤ H) (h2 : 1 ≤ K) (h3 : K ≤ H) (h4 : 2 ≤ W) (h5 : W ≤ 32) : 0 ≤ K * (W / H) ∧ K * (W / H) ≤ 128 := by
  have hq := Int.ediv_nonneg (show 0 ≤ W by omega) (show 0 ≤ H by omega)
  have hm := Int.mul_ediv_self_le (x := W) (k := H) (by omega)
  have h6 : K * (W / H) ≤ H * (W / H) := Int.mul_le_mul_of_nonneg_right h3 hq
  exact ⟨Int.mul_nonneg (by omega) hq, by omega⟩
end Go.Proofs.Ytjjnfpeeipainaa
