import Derived.WalkKit
import Derived.ProofKit
import Derived.OpenShut
import Derived.SizedLaws
import Derived.Test.YtakekdbclmgeoaaTrA
import Derived.Test.YtakekdbclmgeoaaNode
namespace Go.Proofs.Ytakekdbclmgeoaa
open Go.ChangeShapes Go.WideShapes Go.ChangeAt Go.RowKit
/-! Lists of nodes that came in. -/
theorem add_in (b off k j : Nat) : ((⟨b, off, none⟩ : Addr).add k).add j = ⟨b, off + k + j, none⟩ := by
  unfold Addr.add
  split <;> split <;> simp_all
theorem spot_none {w : World} {a : Addr} {v : Value} (h : w.cell? a = some v) : ∃ b off, a = ⟨b, off, none⟩ := by
  obtain ⟨b, off, sp⟩ := a
  cases sp with
  | none => exact ⟨b, off, rfl⟩
  | some x =>
    unfold World.cell? at h
    split at h <;> simp at h
theorem three_cells {w : World} {base : Nat} {a : Addr} {x y z : Value} (h : w.cells? base a 3 = some [x, y, z]) : w.cell? (a.add 0) = some x ∧ w.cell? (a.add 1) = some y ∧ w.cell? (a.add 2) = some z := by
  unfold World.cells? at h
  split at h
  · rw [show List.range 3 = [0, 1, 2] from rfl] at h
    simp only [List.mapM_cons, List.mapM_nil, Option.bind_eq_bind, Option.bind_eq_some_iff, Option.pure_def, Option.some.injEq] at h
    obtain ⟨x0, e0, t0, ⟨y0, e1, t1, ⟨z0, e2, t2, rfl, h2⟩, h1⟩, h0⟩ := h
    subst h2
    subst h1
    simp only [List.cons.injEq, and_true] at h0
    obtain ⟨rfl, rfl, rfl⟩ := h0
    exact ⟨e0, e1, e2⟩
  · cases h
theorem bytesN : Try.prog.bytesOf 54 = 24 := by kernel_rfl
set_option maxRecDepth 100000 in
theorem open_nodes {H : Type} {enc : TypeId × Value → H} {W : World} {base : Nat} {sp : Nat → Bool} {held : Bool} {r : Reach} {b0 : Nat} {v : Value} {d : DataW H} {ps : List MemPlace} (hval : Value.okWide Try.prog W r b0 29 v) (hd : DataW.Trod enc Try.prog W base sp held 29 v d ps) :
    ∃ (ao : Option Addr) (n cap : Nat) (P T D : Nat → Int), v = .slice ao n cap ∧ RdA W ao 3 n cap (nds P T D) ∧ ((d = .nil ∧ n = 0) ∨ ∃ el rest, d = .slice el rest ∧ el.length = n) := by
  obtain ⟨a0, len0, cap0, rfl⟩ := okWide_slice Try.underlying29 hval
  obtain ⟨fuel, hd⟩ := hd
  rcases DataW.trod_slice Try.underlying29 hd with ⟨hcs, hx⟩ | ⟨a, len, cap, elems, rest, n, rfl, hcs, hx, hb, hl, hm, he, hel, _, _⟩
  · simp [Value.cells] at hcs
    obtain ⟨rfl, rfl, rfl⟩ := hcs
    have hx1 : d = .nil := congrArg Prod.fst hx
    exact ⟨none, 0, 0, fun _ => 0, fun _ => 0, fun _ => 0, rfl, ⟨Nat.le_refl _, Nat.zero_le _, fun h => absurd h (by omega)⟩, .inl ⟨hx1, rfl⟩⟩
  · simp [Value.cells] at hcs
    obtain ⟨rfl, rfl, rfl⟩ := hcs
    have key : ∀ i, ∃ t : Int × Int × Int, i < len0 → W.cell? ((a.add (i * 3)).add 0) = some (.int .i64 t.1) ∧ W.cell? ((a.add (i * 3)).add 1) = some (.int .i64 t.2.1) ∧ W.cell? ((a.add (i * 3)).add 2) = some (.int .i64 t.2.2) := by
      intro i
      by_cases hi : i < len0
      · have h1 := hel i hi
        rw [List.getElem?_eq_getElem (by omega), cells_node] at h1
        obtain ⟨cs, q0, q1⟩ := Option.bind_eq_some_iff.1 h1
        obtain ⟨s, u, v, rfl, _, _, _, _⟩ := cells_of_node q1
        obtain ⟨g0, g1, g2⟩ := three_cells q0
        exact ⟨(s, u, v), fun _ => ⟨g0, g1, g2⟩⟩
      · exact ⟨(0, 0, 0), fun h => absurd h hi⟩
    obtain ⟨f, hf⟩ := Classical.axiomOfChoice key
    have hx1 : d = _ := congrArg Prod.fst hx
    refine ⟨some a, len0, cap0, fun i => (f i).1, fun i => (f i).2.1, fun i => (f i).2.2, rfl, ⟨hl, hm, fun hp => ?_⟩, .inr ⟨_, _, hx1, by simp; omega⟩⟩
    obtain ⟨b, off, rfl⟩ : ∃ b off, a = ⟨b, off, none⟩ := spot_none (show W.cell? a = _ from (hf 0 hp).1)
    refine ⟨b, off, rfl, fun j hj => ?_⟩
    obtain ⟨i, h⟩ : ∃ i, j = i * 3 ∨ j = i * 3 + 1 ∨ j = i * 3 + 2 := ⟨j / 3, by omega⟩
    have hh := hf i (by omega)
    simp only [add_in] at hh
    rcases h with rfl | rfl | rfl
    · rw [nds_0]; exact hh.1
    · rw [nds_1, show off + (i * 3 + 1) = off + i * 3 + 1 by omega]; exact hh.2.1
    · rw [nds_2, show off + (i * 3 + 2) = off + i * 3 + 2 by omega]; exact hh.2.2
theorem nodes_sized {H : Type} {d0 : DataW H} {ts : List TypeId} {ds : List (DataW H)} {j n : Nat} (hsz : (DataW.weightsEach Try.prog ts ds).all (· ≤ reachBytes) = true) (ht : ts[j]? = some 29) (hd : ds[j]? = some d0) (hs : (d0 = .nil ∧ n = 0) ∨ ∃ el rest, d0 = .slice el rest ∧ el.length = n) : n * 24 ≤ 140737488351232 := by
  rcases hs with ⟨_, rfl⟩ | ⟨el, rest, e2, rfl⟩
  · omega
  · subst e2
    have hlen := sized_slice hsz ht hd Try.underlying29
    rw [bytesN] at hlen
    simp only [reachBytes] at hlen
    omega
end Go.Proofs.Ytakekdbclmgeoaa
