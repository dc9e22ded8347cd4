import Derived.Test.YtmcefgpejocjfaaDoorCpy
import Derived.Test.YtmcefgpejocjfaaDoorBld
namespace Go.Proofs.YtmcefgpejocjfaaDoor
open Go.RowKit
/-! An operation, as it was handed in; its twin. -/
structure OpD where
  kind : Int
  R : Int
  C : Int
  N : Int
  dO : Option Addr
  nD : Nat
  cD : Nat
  D : Nat → Int
  aO : Option Addr
  nA : Nat
  cA : Nat
  A : Nat → Int
  bO : Option Addr
  nB : Nat
  cB : Nat
  B : Nat → Int
  xO : Option Addr
  nX : Nat
  cX : Nat
  X : Nat → Int
  vO : Option Addr
  nV : Nat
  cV : Nat
  Va : Nat → Option Addr
  Vl : Nat → Nat
  Vk : Nat → Nat
  Vx : Nat → Nat → Int
  tO : Option Addr
  nT : Nat
  cT : Nat
  Tc : Nat → Int
  Ts : Nat → Int
structure OpR (w : World) (o : OpD) : Prop where
  d : RdA w o.dO 1 o.nD o.cD (fun i => .int .i8 (o.D i))
  a : RdA w o.aO 1 o.nA o.cA (fun i => .int .i8 (o.A i))
  b : RdA w o.bO 1 o.nB o.cB (fun i => .int .i8 (o.B i))
  x : RdA w o.xO 1 o.nX o.cX (fun i => .int .i64 (o.X i))
  v : Vs w o.vO o.nV o.cV o.Va o.Vl o.Vk o.Vx
  t : RdA w o.tO 2 o.nT o.cT (tcs o.Tc o.Ts)
  bD : ∀ i, i < o.nD → -128 ≤ o.D i ∧ o.D i ≤ 127
  bA : ∀ i, i < o.nA → -128 ≤ o.A i ∧ o.A i ≤ 127
  bB : ∀ i, i < o.nB → -128 ≤ o.B i ∧ o.B i ≤ 127
  bX : ∀ i, i < o.nX → -9223372036854775808 ≤ o.X i ∧ o.X i ≤ 9223372036854775807
  bV : ∀ i j, i < o.nV → j < o.Vl i → -128 ≤ o.Vx i j ∧ o.Vx i j ≤ 127
  sD : o.nD ≤ 1048576
  sA : o.nA ≤ 1048576
  sB : o.nB ≤ 1048576
  sX : o.nX ≤ 1048576
  sV : o.nV ≤ 1048576
  sT : o.nT ≤ 1048576
  sL : ∀ i, i < o.nV → o.Vl i ≤ 1048576
theorem OpR.fresh {w w' : World} {o : OpD} (h : OpR w o) (f : Below w.heap.size w w') : OpR w' o :=
  ⟨h.d.fresh f, h.a.fresh f, h.b.fresh f, h.x.fresh f, h.v.fresh f, h.t.fresh f, h.bD, h.bA, h.bB, h.bX, h.bV, h.sD, h.sA, h.sB, h.sX, h.sV, h.sT, h.sL⟩
structure InD where
  aO : Option Addr
  cA : Nat
  bO : Option Addr
  cB : Nat
  dO : Option Addr
  cD : Nat
  xO : Option Addr
  cX : Nat
  tO : Option Addr
  cT : Nat
  vO : Option Addr
  cV : Nat
  Va : Nat → Option Addr
  Vk : Nat → Nat
structure InR (w : World) (i : InD) (o : OpD) : Prop where
  a : RdA w i.aO 1 (o.nA + 64) i.cA (fun j => .int .i8 (mkd o.nA o.A j))
  b : RdA w i.bO 1 (o.nB + 64) i.cB (fun j => .int .i8 (mkd o.nB o.B j))
  d : RdA w i.dO 1 (o.nD + 64) i.cD (fun j => .int .i8 (mkd o.nD o.D j))
  x : RdA w i.xO 1 (o.nX + 64) i.cX (fun j => .int .i64 (mkd o.nX o.X j))
  t : RdA w i.tO 2 (o.nT + 64) i.cT (tcs (mkd o.nT o.Tc) (mkz o.nT o.Ts))
  v : Vs w i.vO o.nV i.cV i.Va (fun k => o.Vl k + 64) i.Vk (fun k => mkd (o.Vl k) (o.Vx k))
theorem InR.fresh {w w' : World} {i : InD} {o : OpD} (h : InR w i o) (f : Below w.heap.size w w') : InR w' i o :=
  ⟨h.a.fresh f, h.b.fresh f, h.d.fresh f, h.x.fresh f, h.t.fresh f, h.v.fresh f⟩
/-- The list without the marks. -/
theorem RdA.short {w : World} {ao : Option Addr} {sz n m cap : Nat} {cs cs' : Nat → Value} (h : RdA w ao sz (n + m) cap cs) (e : ∀ j, j < n * sz → cs j = cs' j) : RdA w ao sz n cap cs' := by
  refine ⟨by have := h.le; omega, h.top, fun hn => ?_⟩
  obtain ⟨b, off, rfl, hc⟩ := h.at_ (by omega)
  refine ⟨b, off, rfl, fun j hj => ?_⟩
  rw [← e j hj]
  exact hc j (Nat.lt_of_lt_of_le hj (Nat.mul_le_mul_right _ (by omega)))
theorem short_mkd {w : World} {ao : Option Addr} {n cap : Nat} {f : Nat → Int} {k : IntKind} (h : RdA w ao 1 (n + 64) cap (fun j => .int k (mkd n f j))) : RdA w ao 1 n cap (fun j => .int k (f j)) :=
  h.short (fun j hj => by rw [mkd_lo n f (by omega)])
theorem short_tcs {w : World} {ao : Option Addr} {n cap : Nat} {C S : Nat → Int} (h : RdA w ao 2 (n + 64) cap (tcs (mkd n C) (mkz n S))) : RdA w ao 2 n cap (tcs C S) :=
  h.short (fun _ hj => (tcs_mkd hj).symm)
/-- Lists that were made, as they are read. -/
theorem Own.rd' {w : World} {base : Nat} {e : TypeId} {sz : Nat} {v : Value} {n : Nat} {cs : Nat → Value} (h : Own w base e sz v n cs) : ∃ ao cap, v = .slice ao n cap ∧ RdA w ao sz n cap cs := h.rd
set_option maxHeartbeats 1000000 in
theorem eqNarrows_same {w : World} {ao bo : Option Addr} {n ca cb : Nat} {A B : Nat → Option Addr} {L Ka Kb : Nat → Nat} {X Y : Nat → Nat → Int} (ha : Vs w ao n ca A L Ka X) (hb : Vs w bo n cb B L Kb Y) (hxy : ∀ i j, i < n → j < L i → X i j = Y i j) :
    Calls Tryd.prog 33 #[.slice ao n ca, .slice bo n cb] w fun e w' => e = .returned (.bool true) ∧ Below w.heap.size w w' := by
  have hn : n ≤ 9223372036854775807 := by have := ha.top.le; have := ha.top.top; unfold maxLen at this; omega
  have hne : ((n : Int) != (n : Int)) = false := by simp
  go_enter Tryd.func33, Tryd.ntmps33
  go_wp2
  clear hne
  go_loopw [5] (fun i wr => ∃ k : Nat, k ≤ n ∧ i = .int .i64 k ∧ Below w.heap.size w wr) (fun i _ => n - (intOf i).toNat)
  case atStart => exact ⟨0, by omega, rfl, Below.refl _ _⟩
  case round =>
    obtain ⟨k, hk, rfl, hf⟩ := hrel
    by_cases hlt : k < n
    · obtain ⟨b1, o1, rfl, h1⟩ := (ha.top.fresh hf).one (by omega)
      obtain ⟨b2, o2, rfl, h2⟩ := (hb.top.fresh hf).one (by omega)
      have c1 := h1 k hlt
      have c2 := h2 k hlt
      have r1 := (ha.row k hlt).fresh hf
      have r2 := (hb.row k hlt).fresh hf
      have e := hxy k
      clear h1 h2
      go_wp2
      replace c1 := later_cell c1; replace c2 := later_cell c2
      have ne := later_some wr
      refine wp_region_later (by kernel_rfl) (by kernel_rfl) ?_
      repeat (go_big_quiet_step (exact later_of (eqNarrow_same (r1.fresh (Later.fresh _)) (r2.fresh (Later.fresh _)) (fun j hj => e j hlt hj))))
      refine wpQuiet_nil ?_
      rintro _ ⟨z, rfl⟩
      have hf2 := fresh_trans hf z.fresh
      clear c1 c2 hf ne r1 r2 e
      go_wp2
      go_roundw
      case rel => exact ⟨k + 1, by omega, by go_num, hf2⟩
      case measure => simp [intOf]; omega
    · go_wp2
      go_ret
      exact ⟨rfl, hf⟩
end Go.Proofs.YtmcefgpejocjfaaDoor
