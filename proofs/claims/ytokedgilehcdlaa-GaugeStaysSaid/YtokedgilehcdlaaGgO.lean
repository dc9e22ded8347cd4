import Derived.WalkKit
import Derived.ProofKit
import Derived.OpenShut
import Derived.Test.YtokedgilehcdlaaGgK
import Derived.Test.YtokedgilehcdlaaWent
import Derived.Test.YtokedgilehcdlaaMdO
namespace Go.Proofs.Ytokedgilehcdlaa
open Go.ChangeShapes Go.WideShapes Go.ChangeAt Go.RowKit
/-! A list of trees' ends that came in. -/
theorem add_in (b off k j : Nat) : ((⟨b, off, none⟩ : Addr).add k).add j = ⟨b, off + k + j, none⟩ := by
  unfold Addr.add
  split <;> split <;> simp_all
theorem spot_none {w : World} {a : Addr} {v : Value} (h : w.cell? a = some v) : ∃ b off, a = ⟨b, off, none⟩ := by
  obtain ⟨b, off, sp⟩ := a
  cases sp with
  | none => exact ⟨b, off, rfl⟩
  | some x =>
    unfold World.cell? at h
    split at h <;> simp at h
theorem two_cells {w : World} {base : Nat} {a : Addr} {x y : Value} (h : w.cells? base a 2 = some [x, y]) : w.cell? (a.add 0) = some x ∧ w.cell? (a.add 1) = some y := by
  unfold World.cells? at h
  split at h
  · rw [show List.range 2 = [0, 1] from rfl] at h
    simp only [List.mapM_cons, List.mapM_nil, Option.bind_eq_bind, Option.bind_eq_some_iff, Option.pure_def, Option.some.injEq] at h
    obtain ⟨x0, e0, t0, ⟨y0, e1, t1, rfl, h1⟩, h0⟩ := h
    subst h1
    simp only [List.cons.injEq, and_true] at h0
    obtain ⟨rfl, rfl⟩ := h0
    exact ⟨e0, e1⟩
  · cases h
set_option maxRecDepth 100000 in
theorem open_wents {H : Type} {enc : TypeId × Value → H} {W : World} {base : Nat} {sp : Nat → Bool} {held : Bool} {r : Reach} {b0 : Nat} {v : Value} {d : DataW H} {ps : List MemPlace} (hval : Value.okWide Try.prog W r b0 35 v) (hd : DataW.Trod enc Try.prog W base sp held 35 v d ps) :
    ∃ (ao : Option Addr) (n cap : Nat) (N A : Nat → Int), v = .slice ao n cap ∧ RdA W ao 2 n cap (wtF N A) ∧ ∀ i, i < n → -9223372036854775808 ≤ A i ∧ A i ≤ 9223372036854775807 := by
  obtain ⟨a0, len0, cap0, rfl⟩ := okWide_slice Try.underlying35 hval
  obtain ⟨fuel, hd⟩ := hd
  rcases DataW.trod_slice Try.underlying35 hd with ⟨hcs, _⟩ | ⟨a, len, cap, elems, rest, n, rfl, hcs, _, _, hl, hm, he, hel, _, _⟩
  · simp [Value.cells] at hcs
    obtain ⟨rfl, rfl, rfl⟩ := hcs
    exact ⟨none, 0, 0, fun _ => 0, fun _ => 0, rfl, ⟨Nat.le_refl _, Nat.zero_le _, fun h => absurd h (by omega)⟩, fun i hi => absurd hi (by omega)⟩
  · simp [Value.cells] at hcs
    obtain ⟨rfl, rfl, rfl⟩ := hcs
    have key : ∀ i, ∃ t : Int × Int, i < len0 → W.cell? ((a.add (i * 2)).add 0) = some (.int .i64 t.1) ∧ W.cell? ((a.add (i * 2)).add 1) = some (.int .i64 t.2) ∧ -9223372036854775808 ≤ t.2 ∧ t.2 ≤ 9223372036854775807 := by
      intro i
      by_cases hi : i < len0
      · have h1 := hel i hi
        rw [List.getElem?_eq_getElem (by omega), cells_went] at h1
        obtain ⟨cs, q0, q1⟩ := Option.bind_eq_some_iff.1 h1
        obtain ⟨s, u, rfl, _, _, hw⟩ := cells_of_went q1
        obtain ⟨g0, g1⟩ := two_cells q0
        exact ⟨(s, u), fun _ => ⟨g0, g1, wf_i64 hw⟩⟩
      · exact ⟨(0, 0), fun h => absurd h hi⟩
    obtain ⟨f, hf⟩ := Classical.axiomOfChoice key
    refine ⟨some a, len0, cap0, fun i => (f i).1, fun i => (f i).2, rfl, ⟨hl, hm, fun hp => ?_⟩, fun i hi => (hf i hi).2.2⟩
    obtain ⟨b, off, rfl⟩ : ∃ b off, a = ⟨b, off, none⟩ := spot_none (show W.cell? a = _ from (hf 0 hp).1)
    refine ⟨b, off, rfl, fun j hj => ?_⟩
    obtain ⟨i, h⟩ : ∃ i, j = i * 2 ∨ j = i * 2 + 1 := ⟨j / 2, by omega⟩
    have hh := hf i (by omega)
    simp only [add_in] at hh
    rcases h with rfl | rfl
    · rw [wtF_0]; exact hh.1
    · rw [wtF_1, show off + (i * 2 + 1) = off + i * 2 + 1 by omega]; exact hh.2.1
theorem gaugeStays_walk {H : Type} {enc : TypeId × Value → H} {base : Nat} {sp : Nat → Bool} {held : Bool} {r : Reach} {b0 : Nat} {v : Value} {d : DataW H} {ps : List MemPlace} (k : Int) (W : World) (_ : -9223372036854775808 ≤ k) (_ : k ≤ 9223372036854775807)
    (hval : Value.okWide Try.prog W r b0 35 v) (hd : DataW.Trod enc Try.prog W base sp held 35 v d ps) :
    Calls Try.prog 8 #[.int .i64 k, v] W fun e w' => e = .returned (.bool true) ∧ Below W.heap.size W w' := by
  obtain ⟨ao, n, cap, N, A, rfl, h, hA⟩ := open_wents hval hd
  by_cases c : 2147483647 < n
  · exact stays_long k c
  · by_cases c2 : 1 ≤ k ∧ k ≤ 32
    · exact stays_ok h c c2.1 c2.2 hA
    · exact stays_bad c c2
end Go.Proofs.Ytokedgilehcdlaa
