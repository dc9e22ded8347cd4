import Derived.Test.YtppcgfdogacmkaaLPKw
import Derived.ProofKit
import Derived.OpenShut
namespace Go.Proofs.Ytppcgfdogacmkaa
open Go.ChangeShapes Go.WideShapes Go.ChangeAt Go.RowKit
/-! The law PoolKeeps, from what came in. -/
theorem add_in4 (b off k j : Nat) : ((⟨b, off, none⟩ : Addr).add k).add j = ⟨b, off + k + j, none⟩ := by
  unfold Addr.add
  split <;> split <;> simp_all
theorem spot_none4 {w : World} {a : Addr} {v : Value} (h : w.cell? a = some v) : ∃ b off, a = ⟨b, off, none⟩ := by
  obtain ⟨b, off, sp⟩ := a
  cases sp with
  | none => exact ⟨b, off, rfl⟩
  | some x =>
    unfold World.cell? at h
    split at h <;> simp at h
theorem four_cells {w : World} {base : Nat} {a : Addr} {x y z u : Value} (h : w.cells? base a 4 = some [x, y, z, u]) : w.cell? (a.add 0) = some x ∧ w.cell? (a.add 1) = some y ∧ w.cell? (a.add 2) = some z ∧ w.cell? (a.add 3) = some u := by
  unfold World.cells? at h
  split at h
  · rw [show List.range 4 = [0, 1, 2, 3] from rfl] at h
    simp only [List.mapM_cons, List.mapM_nil, Option.bind_eq_bind, Option.bind_eq_some_iff, Option.pure_def, Option.some.injEq] at h
    obtain ⟨x0, e0, t0, ⟨y0, e1, t1, ⟨z0, e2, t2, ⟨u0, e3, t3, rfl, h3⟩, h2⟩, h1⟩, h0⟩ := h
    subst h3
    subst h2
    subst h1
    simp only [List.cons.injEq, and_true] at h0
    obtain ⟨rfl, rfl, rfl, rfl⟩ := h0
    exact ⟨e0, e1, e2, e3⟩
  · cases h
section
variable {H : Type} {enc : TypeId × Value → H} {W : World} {base : Nat} {sp : Nat → Bool} {held : Bool}
theorem cells_wr : Try.prog.cellsOf 39 = 4 := by kernel_rfl
theorem cells_wr_i : Try.prog.cellsOf 3 = 1 := by kernel_rfl
theorem cells_wr_b : Try.prog.cellsOf 4 = 1 := by kernel_rfl
theorem parts_wr {α : Type} {l : List α} (h : l.length = 4) : ∃ c0 c1 c2 c3, l = [c0, c1, c2, c3] :=
  match l, h with
  | [c0, c1, c2, c3], _ => ⟨c0, c1, c2, c3, rfl⟩
set_option maxRecDepth 100000 in
theorem cells_of_wr {fuel : Nat} {cs : List Value} {x : DataW H × List MemPlace} (h : DataW.trod enc Try.prog W base sp held fuel 39 cs = some x) :
    ∃ (b : Bool) (a1 a2 a3 : Int), cs = [.bool b, .int .i64 a1, .int .i64 a2, .int .i64 a3] := by
  obtain ⟨ys, n, rfl, rfl, hl, hlen, hf⟩ := DataW.trod_struct Try.underlying39 h
  have e0 : DataW.trod enc Try.prog W base sp held n 4 ((cs.drop 0).take (Try.prog.cellsOf 4)) = ys[0]? := hf 0 _ rfl
  have e1 : DataW.trod enc Try.prog W base sp held n 3 ((cs.drop 1).take (Try.prog.cellsOf 3)) = ys[1]? := hf 1 _ rfl
  have e2 : DataW.trod enc Try.prog W base sp held n 3 ((cs.drop 2).take (Try.prog.cellsOf 3)) = ys[2]? := hf 2 _ rfl
  have e3 : DataW.trod enc Try.prog W base sp held n 3 ((cs.drop 3).take (Try.prog.cellsOf 3)) = ys[3]? := hf 3 _ rfl
  rw [cells_wr] at hl
  obtain ⟨c0, c1, c2, c3, rfl⟩ := parts_wr hl
  obtain ⟨y0, y1, y2, y3, rfl⟩ := parts_wr (show ys.length = 4 from hlen)
  obtain ⟨b, q0, r0⟩ := DataW.trod_bool Try.underlying4 e0
  rw [cells_wr_b] at q0
  obtain ⟨a1, q1, r1, w1⟩ := DataW.trod_int Try.underlying3 e1
  rw [cells_wr_i] at q1
  obtain ⟨a2, q2, r2, w2⟩ := DataW.trod_int Try.underlying3 e2
  rw [cells_wr_i] at q2
  obtain ⟨a3, q3, r3, w3⟩ := DataW.trod_int Try.underlying3 e3
  rw [cells_wr_i] at q3
  simp at q0 q1 q2 q3
  subst q0 q1 q2 q3
  exact ⟨b, a1, a2, a3, rfl⟩
set_option maxRecDepth 100000 in
theorem open_writes {r : Reach} {b0 : Nat} {v : Value} {d : DataW H} {ps : List MemPlace} (hval : Value.okWide Try.prog W r b0 22 v) (hd : DataW.Trod enc Try.prog W base sp held 22 v d ps) :
    ∃ (ao : Option Addr) (n cap : Nat) (M : Nat → Bool) (A B C : Nat → Int), v = .slice ao n cap ∧ RdA W ao 4 n cap (wcs M A B C) := by
  obtain ⟨a0, len0, cap0, rfl⟩ := okWide_slice Try.underlying22 hval
  obtain ⟨fuel, hd⟩ := hd
  rcases DataW.trod_slice Try.underlying22 hd with ⟨hcs, _⟩ | ⟨a, len, cap, elems, rest, n, rfl, hcs, hx, hb, hl, hm, he, hel, _, _⟩
  · simp [Value.cells] at hcs
    obtain ⟨rfl, rfl, rfl⟩ := hcs
    exact ⟨none, 0, 0, fun _ => false, fun _ => 0, fun _ => 0, fun _ => 0, rfl, ⟨Nat.le_refl _, Nat.zero_le _, fun h => absurd h (by omega)⟩⟩
  · simp [Value.cells] at hcs
    obtain ⟨rfl, rfl, rfl⟩ := hcs
    have key : ∀ i, ∃ t : Bool × Int × Int × Int, i < len0 → W.cell? ((a.add (i * 4)).add 0) = some (.bool t.1) ∧ W.cell? ((a.add (i * 4)).add 1) = some (.int .i64 t.2.1) ∧ W.cell? ((a.add (i * 4)).add 2) = some (.int .i64 t.2.2.1) ∧ W.cell? ((a.add (i * 4)).add 3) = some (.int .i64 t.2.2.2) := by
      intro i
      by_cases hi : i < len0
      · have h1 := hel i hi
        rw [List.getElem?_eq_getElem (by omega), cells_wr] at h1
        obtain ⟨cs, q0, q1⟩ := Option.bind_eq_some_iff.1 h1
        obtain ⟨b, u, v, x, rfl⟩ := cells_of_wr q1
        obtain ⟨g0, g1, g2, g3⟩ := four_cells q0
        exact ⟨(b, u, v, x), fun _ => ⟨g0, g1, g2, g3⟩⟩
      · exact ⟨(false, 0, 0, 0), fun h => absurd h hi⟩
    obtain ⟨f, hf⟩ := Classical.axiomOfChoice key
    refine ⟨some a, len0, cap0, fun i => (f i).1, fun i => (f i).2.1, fun i => (f i).2.2.1, fun i => (f i).2.2.2, rfl, ⟨hl, hm, fun hp => ?_⟩⟩
    obtain ⟨b, off, rfl⟩ : ∃ b off, a = ⟨b, off, none⟩ := spot_none4 (show W.cell? a = _ from (hf 0 hp).1)
    refine ⟨b, off, rfl, fun j hj => ?_⟩
    obtain ⟨i, h⟩ : ∃ i, j = i * 4 ∨ j = i * 4 + 1 ∨ j = i * 4 + 2 ∨ j = i * 4 + 3 := ⟨j / 4, by omega⟩
    have hh := hf i (by omega)
    simp only [add_in4] at hh
    unfold wcs
    rcases h with rfl | rfl | rfl | rfl
    · rw [if_pos (by omega), show i * 4 / 4 = i by omega]; exact hh.1
    · rw [if_neg (by omega), if_pos (by omega), show (i * 4 + 1) / 4 = i by omega, show off + (i * 4 + 1) = off + i * 4 + 1 by omega]; exact hh.2.1
    · rw [if_neg (by omega), if_neg (by omega), if_pos (by omega), show (i * 4 + 2) / 4 = i by omega, show off + (i * 4 + 2) = off + i * 4 + 2 by omega]; exact hh.2.2.1
    · rw [if_neg (by omega), if_neg (by omega), if_neg (by omega), show (i * 4 + 3) / 4 = i by omega, show off + (i * 4 + 3) = off + i * 4 + 3 by omega]; exact hh.2.2.2
end
set_option maxRecDepth 100000 in
theorem poolKeeps_walk {H : Type} {enc : TypeId × Value → H} {base : Nat} {sp : Nat → Bool} {held : Bool} {r : Reach} {b0 : Nat} {v2 : Value} {d2 : DataW H} {ps2 : List MemPlace} (a0 a1 : Int) (W : World) (_ : -9223372036854775808 ≤ a0) (_ : a0 ≤ 9223372036854775807) (_ : -9223372036854775808 ≤ a1) (_ : a1 ≤ 9223372036854775807)
    (hval2 : Value.okWide Try.prog W r b0 22 v2) (h2 : DataW.Trod enc Try.prog W base sp held 22 v2 d2 ps2) :
    Calls Try.prog 3 #[.int .i64 a0, .int .i64 a1, v2] W fun e w' => e = .returned (.bool true) ∧ Below W.heap.size W w' := by
  obtain ⟨ao, n, cap, M, A, B, C, rfl, hr⟩ := open_writes hval2 h2
  exact keeps_law a0 a1 hr
end Go.Proofs.Ytppcgfdogacmkaa
