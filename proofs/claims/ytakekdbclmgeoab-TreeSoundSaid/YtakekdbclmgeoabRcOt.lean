import Derived.Test.YtakekdbclmgeoabTrO
import Derived.Test.YtakekdbclmgeoabTjA
import Derived.Test.YtakekdbclmgeoabRaw
namespace Go.Proofs.Ytakekdbclmgeoab
open Go.ChangeShapes Go.WideShapes Go.ChangeAt Go.RowKit
/-! A raw tree that came in. -/
theorem two_cells {w : World} {base : Nat} {a : Addr} {x y : Value} (h : w.cells? base a 2 = some [x, y]) : w.cell? (a.add 0) = some x ∧ w.cell? (a.add 1) = some y := by
  unfold World.cells? at h
  split at h
  · rw [show List.range 2 = [0, 1] from rfl] at h
    simp only [List.mapM_cons, List.mapM_nil, Option.bind_eq_bind, Option.bind_eq_some_iff, Option.pure_def, Option.some.injEq] at h
    obtain ⟨x0, e0, t0, ⟨y0, e1, t1, rfl, h1⟩, h0⟩ := h
    subst h1
    simp only [List.cons.injEq, and_true] at h0
    obtain ⟨rfl, rfl⟩ := h0
    exact ⟨e0, e1⟩
  · cases h
section
variable {H : Type} {enc : TypeId × Value → H} {W : World} {base : Nat} {sp : Nat → Bool} {held : Bool}
set_option maxRecDepth 100000 in
theorem open_raw1 {fuel : Nat} {v : Value} {x : DataW H × List MemPlace} (h : DataW.trod enc Try.prog W base sp held fuel 22 [v] = some x) :
    ∃ (ao : Option Addr) (cap : Nat) (R : List (Int × Int)), v = .slice ao R.length cap ∧ RdA W ao 2 R.length cap (rwF R) ∧ ((x.1 = .nil ∧ R.length = 0) ∨ ∃ el rest, x.1 = .slice el rest ∧ el.length = R.length) := by
  rcases DataW.trod_slice Try.underlying22 h with ⟨hcs, hx⟩ | ⟨a, len, cap, elems, rest, n, rfl, hcs, hx, hb, hl, hm, he, hel, _, _⟩
  · simp at hcs
    exact ⟨none, 0, [], hcs, ⟨Nat.le_refl _, Nat.zero_le _, fun h => absurd h (by simp)⟩, .inl ⟨by rw [hx], rfl⟩⟩
  · simp at hcs
    subst hcs
    have key : ∀ i, ∃ t : Int × Int, i < len → W.cell? ((a.add (i * 2)).add 0) = some (.int .i64 t.1) ∧ W.cell? ((a.add (i * 2)).add 1) = some (.int .i64 t.2) := by
      intro i
      by_cases hi : i < len
      · have h1 := hel i hi
        rw [List.getElem?_eq_getElem (by omega), cells_raw] at h1
        obtain ⟨cs, q0, q1⟩ := Option.bind_eq_some_iff.1 h1
        obtain ⟨s, u, rfl, _, _, _⟩ := cells_of_raw q1
        obtain ⟨g0, g1⟩ := two_cells q0
        exact ⟨(s, u), fun _ => ⟨g0, g1⟩⟩
      · exact ⟨(0, 0), fun h => absurd h hi⟩
    obtain ⟨f, hf⟩ := Classical.axiomOfChoice key
    have hR : ((List.range len).map f).length = len := by simp
    refine ⟨some a, cap, (List.range len).map f, by rw [hR], ⟨by rw [hR]; exact hl, hm, fun hp => ?_⟩, ?_⟩
    · rw [hR] at hp
      obtain ⟨b, off, rfl⟩ : ∃ b off, a = ⟨b, off, none⟩ := spot_none (show W.cell? a = _ from (hf 0 hp).1)
      refine ⟨b, off, rfl, fun j hj => ?_⟩
      rw [hR] at hj
      have hg : ∀ i, i < len → ((List.range len).map f).getD i (0, 0) = f i := fun i hi => by
        rw [List.getD_eq_getElem?_getD]
        simp [hi]
      obtain ⟨i, h⟩ : ∃ i, j = i * 2 ∨ j = i * 2 + 1 := ⟨j / 2, by omega⟩
      have hh := hf i (by omega)
      simp only [add_in] at hh
      rcases h with rfl | rfl
      · rw [rwF_1, hg i (by omega)]; exact hh.1
      · rw [rwF_2, hg i (by omega), show off + (i * 2 + 1) = off + i * 2 + 1 by omega]; exact hh.2
    · exact .inr ⟨_, _, by rw [hx], by rw [List.length_map, hR]; omega⟩
end
theorem bytesR : Try.prog.bytesOf 41 = 16 := by kernel_rfl
theorem open_rawS {H : Type} {enc : TypeId × Value → H} {W : World} {base : Nat} {sp : Nat → Bool} {held : Bool} {r : Reach} {b0 : Nat} {v : Value} {d : DataW H} {ps : List MemPlace} (hval : Value.okWide Try.prog W r b0 22 v) (hd : DataW.Trod enc Try.prog W base sp held 22 v d ps) :
    ∃ (ao : Option Addr) (cap : Nat) (R : List (Int × Int)), v = .slice ao R.length cap ∧ RdA W ao 2 R.length cap (rwF R) ∧ ((d = .nil ∧ R.length = 0) ∨ ∃ el rest, d = .slice el rest ∧ el.length = R.length) := by
  obtain ⟨a2, l2, c2, rfl⟩ := okWide_slice Try.underlying22 hval
  obtain ⟨fuel, h1⟩ := hd
  have h1 : DataW.trod enc Try.prog W base sp held fuel 22 [.slice a2 l2 c2] = some (d, ps) := h1
  exact open_raw1 h1
theorem raw_sized {H : Type} {d0 : DataW H} {ts : List TypeId} {ds : List (DataW H)} {j n : Nat} (hsz : (DataW.weightsEach Try.prog ts ds).all (· ≤ reachBytes) = true) (ht : ts[j]? = some 22) (hd : ds[j]? = some d0) (hs : (d0 = .nil ∧ n = 0) ∨ ∃ el rest, d0 = .slice el rest ∧ el.length = n) : n * 16 ≤ 140737488351232 := by
  rcases hs with ⟨_, rfl⟩ | ⟨el, rest, e2, rfl⟩
  · omega
  · subst e2
    have hlen := sized_slice hsz ht hd Try.underlying22
    rw [bytesR] at hlen
    simp only [reachBytes] at hlen
    omega
end Go.Proofs.Ytakekdbclmgeoab
