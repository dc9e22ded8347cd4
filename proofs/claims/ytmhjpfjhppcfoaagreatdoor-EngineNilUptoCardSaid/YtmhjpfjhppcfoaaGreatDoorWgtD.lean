import Derived.Test.YtmhjpfjhppcfoaaGreatDoorMD
namespace Go.Proofs.YtmhjpfjhppcfoaaGreatDoor
open Go.RowKit
/-! Weights as data: a list of narrow numbers, a matrix, a layer. -/
structure LsD where
  O : Option Addr
  n : Nat
  c : Nat
  f : Nat → Int
structure MtD where
  R : Int
  C : Int
  O : Option Addr
  n : Nat
  c : Nat
  f : Nat → Int
structure LyD where
  n1 : LsD
  n2 : LsD
  q : MtD
  k : MtD
  v : MtD
  o : MtD
  g : MtD
  u : MtD
  d : MtD
  sh : Nat → Int
structure LsR (w : World) (l : LsD) : Prop where
  rd : RdA w l.O 1 l.n l.c (fun i => .int .i8 (l.f i))
  bd : ∀ i, i < l.n → -128 ≤ l.f i ∧ l.f i ≤ 127
structure MtR (w : World) (m : MtD) : Prop where
  rd : RdA w m.O 1 m.n m.c (fun i => .int .i8 (m.f i))
  bd : ∀ i, i < m.n → -128 ≤ m.f i ∧ m.f i ≤ 127
structure LyR (w : World) (l : LyD) : Prop where
  n1 : LsR w l.n1
  n2 : LsR w l.n2
  q : MtR w l.q
  k : MtR w l.k
  v : MtR w l.v
  o : MtR w l.o
  g : MtR w l.g
  u : MtR w l.u
  d : MtR w l.d
theorem LsR.fresh {w w' : World} {l : LsD} (h : LsR w l) (f : Below w.heap.size w w') : LsR w' l := ⟨h.rd.fresh f, h.bd⟩
theorem MtR.fresh {w w' : World} {m : MtD} (h : MtR w m) (f : Below w.heap.size w w') : MtR w' m := ⟨h.rd.fresh f, h.bd⟩
theorem LyR.fresh {w w' : World} {l : LyD} (h : LyR w l) (f : Below w.heap.size w w') : LyR w' l := ⟨h.n1.fresh f, h.n2.fresh f, h.q.fresh f, h.k.fresh f, h.v.fresh f, h.o.fresh f, h.g.fresh f, h.u.fresh f, h.d.fresh f⟩
def LsD.gains (l : LsD) (W : Int) : Prop := GnP l.n l.f W
def MtD.isa (m : MtD) (r c : Int) : Prop := MtP m.R m.C m.n m.f r c
/-- a layer fits -/
structure LyP (l : LyD) (W kv D : Int) : Prop where
  n1 : l.n1.gains W
  n2 : l.n2.gains W
  q : l.q.isa W W
  o : l.o.isa W W
  k : l.k.isa kv W
  v : l.v.isa kv W
  g : l.g.isa D W
  u : l.u.isa D W
  d : l.d.isa W D
  sh : ∀ i, i < 7 → 0 ≤ l.sh i ∧ l.sh i ≤ 24
end Go.Proofs.YtmhjpfjhppcfoaaGreatDoor
