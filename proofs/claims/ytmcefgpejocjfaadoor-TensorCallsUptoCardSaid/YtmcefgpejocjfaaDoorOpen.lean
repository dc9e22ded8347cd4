import Derived.Test.YtmcefgpejocjfaaDoorRows
import Derived.Test.YtmcefgpejocjfaaDoorOwn
import Derived.Test.YtmcefgpejocjfaaDoorEqs
import Derived.Test.YtmcefgpejocjfaaDoorBld
import Derived.WalkKit
import Derived.ProofKit
import Derived.OpenShut
import Derived.SizedLaws
import Derived.Deep.SlicePairs
import Derived.Deep.Matrix
namespace Go.Proofs.YtmcefgpejocjfaaDoor
open Go.ChangeShapes Go.WideShapes Go.ChangeAt Go.RowKit Go.Deep
/-! Lists that came in: what is read of them. -/
theorem add_lit (b off j : Nat) : (⟨b, off, none⟩ : Addr).add j = ⟨b, off + j, none⟩ := by unfold Addr.add; split <;> simp_all
theorem plain_addr {w : World} {a : Addr} {v : Value} (h : w.cell? (a.add 0) = some v) : ∃ b off, a = ⟨b, off, none⟩ := by
  obtain ⟨b, off, sp⟩ := a
  cases sp with
  | none => exact ⟨b, off, rfl⟩
  | some x =>
    have e : (⟨b, off, some x⟩ : Addr).add 0 = ⟨b, off, some x⟩ := by unfold Addr.add; simp
    rw [e] at h
    unfold World.cell? at h
    split at h <;> simp at h
theorem wf_i8 {n : Int} (h : (Lit.int .i8 n).wf = true) : -128 ≤ n ∧ n ≤ 127 := by
  have hmin : IntKind.i8.min = -128 := rfl
  have hmax : IntKind.i8.max = 127 := rfl
  simp only [Lit.wf, Bool.and_eq_true, decide_eq_true_eq] at h; omega
theorem wf_i64 {n : Int} (h : (Lit.int .i64 n).wf = true) : -9223372036854775808 ≤ n ∧ n ≤ 9223372036854775807 := by
  have hmin : IntKind.i64.min = -9223372036854775808 := rfl
  have hmax : IntKind.i64.max = 9223372036854775807 := rfl
  simp only [Lit.wf, Bool.and_eq_true, decide_eq_true_eq] at h; omega
section
variable {H : Type} {enc : TypeId × Value → H} {P : Program} {w : World} {base : Nat} {sp : Nat → Bool} {held : Bool}
theorem open_row {t e : TypeId} {k : IntKind} {fuel : Nat} {v : Value} {x : DataW H × List MemPlace} (ht : P.underlying t = some (.slice e)) (he : P.underlying e = some (.int k)) (hc : P.cellsOf e = 1)
    (h : DataW.trod enc P w base sp held fuel t [v] = some x) :
    ∃ (ao : Option Addr) (n cap : Nat) (f : Nat → Int), v = .slice ao n cap ∧ RdA w ao 1 n cap (fun i => .int k (f i)) ∧ (∀ i, i < n → (Lit.int k (f i)).wf = true) ∧ ((x.1 = .nil ∧ n = 0) ∨ ∃ el rest, x.1 = .slice el rest ∧ el.length = n) := by
  rcases open_ints ht he hc h with ⟨hcs, hx⟩ | ⟨a, len, cap, zs, hcs, _, hl, hm, hz, hx, hcell, hwz⟩
  · simp at hcs
    exact ⟨none, 0, 0, fun _ => 0, hcs, ⟨Nat.le_refl _, Nat.zero_le _, fun h => absurd h (by omega)⟩, fun i hi => absurd hi (by omega), .inl ⟨by rw [hx], rfl⟩⟩
  · simp at hcs
    have hlz : len ≤ zs.length := by rw [hz]; split <;> omega
    refine ⟨some a, len, cap, fun i => zs.getD i 0, hcs, ⟨hl, hm, fun h0 => ?_⟩, fun i hi => ?_, .inr ⟨_, _, by rw [hx], ?_⟩⟩
    · have h1 := hcell 0 (by omega)
      obtain ⟨b, off, rfl⟩ := plain_addr h1
      exact ⟨b, off, rfl, fun j hj => by have := hcell j (by omega); rwa [add_lit] at this⟩
    · apply hwz
      dsimp only
      rw [List.getD_eq_getElem?_getD, List.getElem?_eq_getElem (by omega)]
      exact List.getElem_mem _
    · simp [lits]; omega
theorem open_turns {t e q : TypeId} {f0 f1 : Field} {fuel : Nat} {v : Value} {x : DataW H × List MemPlace} (ht : P.underlying t = some (.slice e)) (he : P.underlying e = some (.struct #[f0, f1]))
    (ce : P.cellsOf e = 2) (o0 : f0.offset = 0) (o1 : f1.offset = 1) (t0 : f0.type = q) (t1 : f1.type = q) (hq : P.underlying q = some (.int .i64)) (cq : P.cellsOf q = 1)
    (h : DataW.trod enc P w base sp held fuel t [v] = some x) :
    ∃ (ao : Option Addr) (n cap : Nat) (C S : Nat → Int), v = .slice ao n cap ∧ RdA w ao 2 n cap (tcs C S) ∧ (∀ i, i < n → (Lit.int .i64 (C i)).wf = true ∧ (Lit.int .i64 (S i)).wf = true) ∧ ((x.1 = .nil ∧ n = 0) ∨ ∃ el rest, x.1 = .slice el rest ∧ el.length = n) := by
  rcases open_slice_pairs ht he ce o0 o1 (by rw [t0]; exact cq) (by rw [t1]; exact cq) h with ⟨hcs, hx⟩ | ⟨a, len, cap, m, n, V0, V1, D0, D1, P0, P1, hcs, _, hl, hm, hmm, hx, hcell⟩
  · simp at hcs
    exact ⟨none, 0, 0, fun _ => 0, fun _ => 0, hcs, ⟨Nat.le_refl _, Nat.zero_le _, fun h => absurd h (by omega)⟩, fun i hi => absurd hi (by omega), .inl ⟨by rw [hx], rfl⟩⟩
  · simp at hcs
    have hlm : len ≤ m := by rw [hmm]; split <;> omega
    have key : ∀ i, ∃ y : Int × Int, i < m → w.cell? (a.add (i * 2)) = some (.int .i64 y.1) ∧ w.cell? (a.add (i * 2 + 1)) = some (.int .i64 y.2) ∧ (Lit.int .i64 y.1).wf = true ∧ (Lit.int .i64 y.2).wf = true := by
      intro i
      by_cases hi : i < m
      · obtain ⟨g0, g1, r0, r1⟩ := hcell i hi
        rw [t0] at r0
        rw [t1] at r1
        obtain ⟨y0, e0, _, w0⟩ := DataW.trod_int hq r0
        obtain ⟨y1, e1, _, w1⟩ := DataW.trod_int hq r1
        simp at e0 e1
        rw [e0] at g0
        rw [e1] at g1
        exact ⟨(y0, y1), fun _ => ⟨g0, g1, w0, w1⟩⟩
      · exact ⟨(0, 0), fun h => absurd h hi⟩
    obtain ⟨f, hf⟩ := Classical.axiomOfChoice key
    refine ⟨some a, len, cap, fun i => (f i).1, fun i => (f i).2, hcs, ⟨hl, hm, fun h0 => ?_⟩, fun i hi => (hf i (by omega)).2.2, .inr ⟨_, _, by rw [hx], by simp⟩⟩
    obtain ⟨b, off, rfl⟩ := plain_addr (show w.cell? (a.add 0) = _ from (hf 0 (by omega)).1)
    refine ⟨b, off, rfl, fun j hj => ?_⟩
    obtain ⟨i, rfl | rfl⟩ : ∃ i, j = i * 2 ∨ j = i * 2 + 1 := ⟨j / 2, by omega⟩
    · rw [tcs0, ← (hf i (by omega)).1, add_lit]
    · rw [tcs1, ← (hf i (by omega)).2.1, add_lit]
/-- What a datum's rows weigh. -/
theorem open_rows {t e q : TypeId} {fuel : Nat} {v : Value} {x : DataW H × List MemPlace} (ht : P.underlying t = some (.slice e)) (he : P.underlying e = some (.slice q)) (hq : P.underlying q = some (.int .i8))
    (ce : P.cellsOf e = 1) (cq : P.cellsOf q = 1) (h : DataW.trod enc P w base (fun _ => true) held fuel t [v] = some x) :
    ∃ (ao : Option Addr) (n cap : Nat) (A : Nat → Option Addr) (L K : Nat → Nat) (X : Nat → Nat → Int), v = .slice ao n cap ∧ Vs w ao n cap A L K X ∧ (∀ i j, i < n → j < L i → (Lit.int .i8 (X i j)).wf = true) ∧ ((x.1 = .nil ∧ n = 0) ∨ ∃ el rest, x.1 = .slice el rest ∧ el.length = n ∧
      ∀ i, i < n → L i = 0 ∨ ∃ el' rest', (.slice el' rest') ∈ el ∧ el'.length = L i) := by
  rcases open_int_rows ht he hq ce cq h with ⟨hcs, hx⟩ | ⟨a, len, cap, A, L, K, Z, hcs, _, hl, hm, hx, hrow⟩
  · simp at hcs
    exact ⟨none, 0, 0, fun _ => none, fun _ => 0, fun _ => 0, fun _ _ => 0, hcs, ⟨⟨Nat.le_refl _, Nat.zero_le _, fun h => absurd h (by omega)⟩, fun i hi => absurd hi (by omega)⟩, fun i j hi => absurd hi (by omega), .inl ⟨by rw [hx], rfl⟩⟩
  · simp at hcs
    refine ⟨some a, len, cap, A, L, K, fun i j => (Z i).getD j 0, hcs, ⟨⟨hl, hm, fun h0 => ?_⟩, fun i hi => ?_⟩, fun i j hi hj => ?_, .inr ⟨_, _, by rw [hx], by simp, fun i hi => ?_⟩⟩
    · obtain ⟨b, off, rfl⟩ := plain_addr (hrow 0 (by omega)).1
      exact ⟨b, off, rfl, fun j hj => by have := (hrow j (by omega)).1; rwa [add_lit] at this⟩
    · obtain ⟨_, h1, h2, h3, h4, h5, h6⟩ := hrow i (by omega)
      refine ⟨h1, h2, fun h0 => ?_⟩
      cases hA : A i with
      | none => have := h5 hA; omega
      | some a' =>
        obtain ⟨_, hc⟩ := h6 a' hA
        obtain ⟨b, off, rfl⟩ := plain_addr (hc 0 (by omega))
        exact ⟨b, off, rfl, fun j hj => by have := hc j (by omega); rwa [add_lit] at this⟩
    · obtain ⟨_, h1, h2, h3, h4, h5, h6⟩ := hrow i (by omega)
      apply h4
      dsimp only
      rw [List.getD_eq_getElem?_getD, List.getElem?_eq_getElem (by omega)]
      exact List.getElem_mem _
    · obtain ⟨_, h1, h2, h3, h4, h5, h6⟩ := hrow i (by omega)
      cases hA : A i with
      | none => left; have := h5 hA; omega
      | some a' =>
        right
        have e : intRow (H := H) .i8 (A i) (L i) (Z i) = .slice (lits .i8 ((Z i).take (L i))) (lits .i8 ((Z i).drop (L i))) := by rw [hA]; rfl
        exact ⟨_, _, List.mem_map.2 ⟨i, by simpa using hi, e⟩, by simp [lits]; omega⟩
end
end Go.Proofs.YtmcefgpejocjfaaDoor
