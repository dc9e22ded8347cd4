import Derived.Test.YtppcgfdogacmkaaLPLk
import Derived.Test.YtppcgfdogacmkaaAct
namespace Go.Proofs.Ytppcgfdogacmkaa
open Go.ChangeShapes Go.WideShapes Go.ChangeAt Go.RowKit
/-! The law PoolLeaks, from what came in. -/
theorem add_in (b off k j : Nat) : ((⟨b, off, none⟩ : Addr).add k).add j = ⟨b, off + k + j, none⟩ := by
  unfold Addr.add
  split <;> split <;> simp_all
theorem spot_none {w : World} {a : Addr} {v : Value} (h : w.cell? a = some v) : ∃ b off, a = ⟨b, off, none⟩ := by
  obtain ⟨b, off, sp⟩ := a
  cases sp with
  | none => exact ⟨b, off, rfl⟩
  | some x =>
    unfold World.cell? at h
    split at h <;> simp at h
theorem three_cells {w : World} {base : Nat} {a : Addr} {x y z : Value} (h : w.cells? base a 3 = some [x, y, z]) : w.cell? (a.add 0) = some x ∧ w.cell? (a.add 1) = some y ∧ w.cell? (a.add 2) = some z := by
  unfold World.cells? at h
  split at h
  · rw [show List.range 3 = [0, 1, 2] from rfl] at h
    simp only [List.mapM_cons, List.mapM_nil, Option.bind_eq_bind, Option.bind_eq_some_iff, Option.pure_def, Option.some.injEq] at h
    obtain ⟨x0, e0, t0, ⟨y0, e1, t1, ⟨z0, e2, t2, rfl, h2⟩, h1⟩, h0⟩ := h
    subst h2
    subst h1
    simp only [List.cons.injEq, and_true] at h0
    obtain ⟨rfl, rfl, rfl⟩ := h0
    exact ⟨e0, e1, e2⟩
  · cases h
set_option maxRecDepth 100000 in
theorem open_acts {H : Type} {enc : TypeId × Value → H} {W : World} {base : Nat} {sp : Nat → Bool} {held : Bool} {r : Reach} {b0 : Nat} {v : Value} {d : DataW H} {ps : List MemPlace} (hval : Value.okWide Try.prog W r b0 57 v) (hd : DataW.Trod enc Try.prog W base sp held 57 v d ps) :
    ∃ (ao : Option Addr) (n cap : Nat) (K O N : Nat → Int), v = .slice ao n cap ∧ RdA W ao 3 n cap (acs K O N) ∧ ∀ i, i < n → N i ≤ 9223372036854775807 := by
  obtain ⟨a0, len0, cap0, rfl⟩ := okWide_slice Try.underlying57 hval
  obtain ⟨fuel, hd⟩ := hd
  rcases DataW.trod_slice Try.underlying57 hd with ⟨hcs, _⟩ | ⟨a, len, cap, elems, rest, n, rfl, hcs, hx, hb, hl, hm, he, hel, _, _⟩
  · simp [Value.cells] at hcs
    obtain ⟨rfl, rfl, rfl⟩ := hcs
    exact ⟨none, 0, 0, fun _ => 0, fun _ => 0, fun _ => 0, rfl, ⟨Nat.le_refl _, Nat.zero_le _, fun h => absurd h (by omega)⟩, fun i hi => absurd hi (by omega)⟩
  · simp [Value.cells] at hcs
    obtain ⟨rfl, rfl, rfl⟩ := hcs
    have key : ∀ i, ∃ t : Int × Int × Int, i < len0 → W.cell? ((a.add (i * 3)).add 0) = some (.int .i64 t.1) ∧ W.cell? ((a.add (i * 3)).add 1) = some (.int .i64 t.2.1) ∧ W.cell? ((a.add (i * 3)).add 2) = some (.int .i64 t.2.2) ∧ t.2.2 ≤ 9223372036854775807 := by
      intro i
      by_cases hi : i < len0
      · have h1 := hel i hi
        rw [List.getElem?_eq_getElem (by omega), cells_act] at h1
        obtain ⟨cs, q0, q1⟩ := Option.bind_eq_some_iff.1 h1
        obtain ⟨s, u, v, rfl, _, _, _, wv⟩ := cells_of_act q1
        have bs := bounds_i64 wv
        obtain ⟨g0, g1, g2⟩ := three_cells q0
        exact ⟨(s, u, v), fun _ => ⟨g0, g1, g2, by show v ≤ _; omega⟩⟩
      · exact ⟨(0, 0, 0), fun h => absurd h hi⟩
    obtain ⟨f, hf⟩ := Classical.axiomOfChoice key
    refine ⟨some a, len0, cap0, fun i => (f i).1, fun i => (f i).2.1, fun i => (f i).2.2, rfl, ⟨hl, hm, fun hp => ?_⟩, fun i hi => (hf i hi).2.2.2⟩
    obtain ⟨b, off, rfl⟩ : ∃ b off, a = ⟨b, off, none⟩ := spot_none (show W.cell? a = _ from (hf 0 hp).1)
    refine ⟨b, off, rfl, fun j hj => ?_⟩
    obtain ⟨i, h⟩ : ∃ i, j = i * 3 ∨ j = i * 3 + 1 ∨ j = i * 3 + 2 := ⟨j / 3, by omega⟩
    have hh := hf i (by omega)
    simp only [add_in] at hh
    unfold acs
    rcases h with rfl | rfl | rfl
    · rw [if_pos (by omega), show i * 3 / 3 = i by omega]; exact hh.1
    · rw [if_neg (by omega), if_pos (by omega), show (i * 3 + 1) / 3 = i by omega, show off + (i * 3 + 1) = off + i * 3 + 1 by omega]; exact hh.2.1
    · rw [if_neg (by omega), if_neg (by omega), show (i * 3 + 2) / 3 = i by omega, show off + (i * 3 + 2) = off + i * 3 + 2 by omega]; exact hh.2.2.1
set_option maxRecDepth 100000 in
theorem poolLeaks_walk {H : Type} {enc : TypeId × Value → H} {base : Nat} {sp : Nat → Bool} {held : Bool} {r : Reach} {b0 : Nat} {v2 : Value} {d2 : DataW H} {ps2 : List MemPlace} (a0 a1 : Int) (W : World) (_ : -9223372036854775808 ≤ a0) (_ : a0 ≤ 9223372036854775807) (_ : -9223372036854775808 ≤ a1) (_ : a1 ≤ 9223372036854775807)
    (hval2 : Value.okWide Try.prog W r b0 57 v2) (h2 : DataW.Trod enc Try.prog W base sp held 57 v2 d2 ps2) :
    Calls Try.prog 6 #[.int .i64 a0, .int .i64 a1, v2] W fun e w' => e = .returned (.bool true) ∧ Below W.heap.size W w' := by
  obtain ⟨ao, n, cap, K, O, N, rfl, hr, hN⟩ := open_acts hval2 h2
  exact leaks_law a0 a1 hr hN
end Go.Proofs.Ytppcgfdogacmkaa
