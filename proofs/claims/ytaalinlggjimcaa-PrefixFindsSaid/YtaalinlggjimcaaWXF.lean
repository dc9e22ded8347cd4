import Derived.Test.YtaalinlggjimcaaFJ
import Derived.WalkKit
import Derived.ProofKit
import Derived.OpenShut
import Derived.Deep.Matrix
import Derived.Deep.SlicePairs
import Derived.SizedLaws
namespace Go.Proofs.Ytaalinlggjimcaa
open Go.ChangeShapes Go.WideShapes Go.ChangeAt Go.RowKit Go.Deep
/-! The law PrefixFinds, from what came in. -/
theorem add_lit (b off j : Nat) : (⟨b, off, none⟩ : Addr).add j = ⟨b, off + j, none⟩ := by unfold Addr.add; split <;> simp_all
theorem plain_addr {w : World} {a : Addr} {v : Value} (h : w.cell? (a.add 0) = some v) : ∃ b off, a = ⟨b, off, none⟩ := by
  obtain ⟨b, off, sp⟩ := a
  cases sp with
  | none => exact ⟨b, off, rfl⟩
  | some x =>
    have e : (⟨b, off, some x⟩ : Addr).add 0 = ⟨b, off, some x⟩ := by unfold Addr.add; simp
    rw [e] at h
    unfold World.cell? at h
    split at h <;> simp at h
theorem wf_i64 {n : Int} (h : (Lit.int .i64 n).wf = true) : -9223372036854775808 ≤ n ∧ n ≤ 9223372036854775807 := by
  have hmin : IntKind.i64.min = -9223372036854775808 := rfl
  have hmax : IntKind.i64.max = 9223372036854775807 := rfl
  simp only [Lit.wf, Bool.and_eq_true, decide_eq_true_eq] at h; omega
section
variable {H : Type} {enc : TypeId × Value → H} {P : Program} {w : World} {base : Nat} {sp : Nat → Bool} {held : Bool}
theorem open_row {t e : TypeId} {k : IntKind} {fuel : Nat} {v : Value} {x : DataW H × List MemPlace} (ht : P.underlying t = some (.slice e)) (he : P.underlying e = some (.int k)) (hc : P.cellsOf e = 1)
    (h : DataW.trod enc P w base sp held fuel t [v] = some x) :
    ∃ (ao : Option Addr) (n cap : Nat) (f : Nat → Int), v = .slice ao n cap ∧ RdA w ao 1 n cap (fun i => .int k (f i)) ∧ (∀ i, i < n → (Lit.int k (f i)).wf = true) ∧ ((x.1 = .nil ∧ n = 0) ∨ ∃ el rest, x.1 = .slice el rest ∧ el.length = n) := by
  rcases open_ints ht he hc h with ⟨hcs, hx⟩ | ⟨a, len, cap, zs, hcs, _, hl, hm, hz, hx, hcell, hwz⟩
  · simp at hcs
    exact ⟨none, 0, 0, fun _ => 0, hcs, ⟨Nat.le_refl _, Nat.zero_le _, fun h => absurd h (by omega)⟩, fun i hi => absurd hi (by omega), .inl ⟨by rw [hx], rfl⟩⟩
  · simp at hcs
    have hlz : len ≤ zs.length := by rw [hz]; split <;> omega
    refine ⟨some a, len, cap, fun i => zs.getD i 0, hcs, ⟨hl, hm, fun h0 => ?_⟩, fun i hi => ?_, .inr ⟨_, _, by rw [hx], ?_⟩⟩
    · have h1 := hcell 0 (by omega)
      obtain ⟨b, off, rfl⟩ := plain_addr h1
      exact ⟨b, off, rfl, fun j hj => by have := hcell j (by omega); rwa [add_lit] at this⟩
    · apply hwz
      dsimp only
      rw [List.getD_eq_getElem?_getD, List.getElem?_eq_getElem (by omega)]
      exact List.getElem_mem _
    · simp [lits]; omega
end
theorem cellsI64 : Try.prog.cellsOf 3 = 1 := by kernel_rfl
theorem cellsTx : Try.prog.cellsOf 43 = 2 := by kernel_rfl
theorem cellsSl : Try.prog.cellsOf 22 = 1 := by kernel_rfl
theorem cellsBl : Try.prog.cellsOf 4 = 1 := by kernel_rfl
theorem bytesI : Try.prog.bytesOf 3 = 8 := by kernel_rfl
theorem bytesTx : Try.prog.bytesOf 43 = 32 := by kernel_rfl
theorem weights_mem_all {H : Type} {P : Program} {e : TypeId} {d : DataW H} : ∀ {l : List (DataW H)}, d ∈ l → ∀ n ∈ d.weights P e, n ∈ DataW.weightsAll P e l
  | [], h, _, _ => absurd h (by simp)
  | x :: r, h, n, hn => by
    simp only [DataW.weightsAll, List.mem_append]
    rcases List.mem_cons.1 h with rfl | h
    · exact .inl hn
    · exact .inr (weights_mem_all h n hn)
theorem txt_size {H : Type} {d0 : DataW H} {elems spare : List (DataW H)} (hsz : (DataW.weightsEach Try.prog [3, 41] [d0, .slice elems spare]).all (· ≤ reachBytes) = true) {x0 x1 : DataW H} (hm : DataW.agg [x0, x1] ∈ elems) {n : Nat} (h : (x0 = .nil ∧ n = 0) ∨ ∃ el rest, x0 = .slice el rest ∧ el.length = n) : n ≤ 4611686018427387904 := by
  rcases h with ⟨_, e⟩ | ⟨el, rest, rfl, e⟩
  · omega
  · have h1 : (el.length + rest.length) * Try.prog.bytesOf 3 ∈ (DataW.slice el rest : DataW H).weights Try.prog 22 := by simp [DataW.weights, Try.underlying22]
    have h2 : (el.length + rest.length) * Try.prog.bytesOf 3 ∈ (DataW.agg [.slice el rest, x1] : DataW H).weights Try.prog 43 := by
      simp only [DataW.weights, Try.underlying43]
      exact DataW.weights_mem_each (j := 0) (t := 22) rfl rfl _ h1
    have h3 : (el.length + rest.length) * Try.prog.bytesOf 3 ∈ (DataW.slice elems spare : DataW H).weights Try.prog 41 := by
      simp only [DataW.weights, Try.underlying41]
      exact List.mem_cons_of_mem _ (List.mem_append.2 (.inl (weights_mem_all hm _ h2)))
    have h4 := of_decide_eq_true (List.all_eq_true.1 hsz _ (DataW.weights_mem_each (j := 1) rfl rfl _ h3))
    rw [bytesI] at h4
    simp only [reachBytes] at h4
    omega
set_option maxRecDepth 100000 in
theorem prefixFinds_walk {H : Type} {enc : TypeId × Value → H} {base : Nat} {sp : Nat → Bool} {held : Bool} {r : Reach} {b0 : Nat} {v1 : Value} {d0 d1 : DataW H} {ps1 : List MemPlace} (a0 : Int) (W : World) (_ : -9223372036854775808 ≤ a0) (_ : a0 ≤ 9223372036854775807)
    (hval1 : Value.okWide Try.prog W r b0 41 v1) (h1 : DataW.Trod enc Try.prog W base sp held 41 v1 d1 ps1)
    (hsz : (DataW.weightsEach Try.prog [3, 41] [d0, d1]).all (· ≤ reachBytes) = true) :
    Calls Try.prog 5 #[.int .i64 a0, v1] W fun e w' => e = .returned (.bool true) ∧ Below W.heap.size W w' := by
  obtain ⟨a2, l2, c2, rfl⟩ := okWide_slice Try.underlying41 hval1
  obtain ⟨fuel, h1⟩ := h1
  have h1 : DataW.trod enc Try.prog W base sp held fuel 41 [.slice a2 l2 c2] = some (d1, ps1) := h1
  rcases open_slice_pairs Try.underlying41 Try.underlying43 cellsTx rfl rfl cellsSl cellsBl h1 with ⟨hcs, hx⟩ | ⟨a, len, cap, m, n, V0, V1, D0, D1, P0, P1, hcs, _, hl, hm, hmm, hx, hcell⟩
  · simp at hcs
    obtain ⟨rfl, rfl, rfl⟩ := hcs
    exact finds_law (AO := fun _ => none) (LN := fun _ => 0) (CP := fun _ => 0) (Q := fun _ => false) (TT := fun _ _ => 0) a0 ⟨Nat.le_refl _, Nat.zero_le _, fun h => absurd h (by omega)⟩ ⟨fun i hi => absurd hi (by omega)⟩ (fun i hi => absurd hi (by omega)) (fun i hi => absurd hi (by omega)) (by omega)
  · simp at hcs
    obtain ⟨rfl, rfl, rfl⟩ := hcs
    have hlm : l2 ≤ m := by rw [hmm]; split <;> omega
    have hd : d1 = .slice ((List.range l2).map fun i => .agg [D0 i, D1 i]) ((List.range (m - l2)).map fun j => .agg [D0 (l2 + j), D1 (l2 + j)]) := congrArg Prod.fst hx
    subst hd
    have key : ∀ i, ∃ y : (Option Addr × Nat × Nat) × (Nat → Int) × Bool, i < l2 → W.cell? (a.add (i * 2)) = some (.slice y.1.1 y.1.2.1 y.1.2.2) ∧ W.cell? (a.add (i * 2 + 1)) = some (.bool y.2.2) ∧ RdA W y.1.1 1 y.1.2.1 y.1.2.2 (fun j => .int .i64 (y.2.1 j)) ∧ (∀ j, j < y.1.2.1 → fits (y.2.1 j)) ∧ y.1.2.1 ≤ 4611686018427387904 := fun i => by
      by_cases hi : i < l2
      · obtain ⟨g0, g1, t0, t1⟩ := hcell i (by omega)
        obtain ⟨ao, k, kc, f, e0, hr0, hw0, hs0⟩ := open_row Try.underlying22 Try.underlying3 cellsI64 t0
        obtain ⟨q, e1, _⟩ := DataW.trod_bool Try.underlying4 t1
        simp at e1
        rw [e0] at g0
        rw [e1] at g1
        refine ⟨((ao, k, kc), f, q), fun _ => ⟨g0, g1, hr0, fun j hj => wf_i64 (hw0 j hj), txt_size hsz (List.mem_map.2 ⟨i, List.mem_range.2 hi, rfl⟩) hs0⟩⟩
      · exact ⟨((none, 0, 0), fun _ => 0, false), fun e => absurd e hi⟩
    obtain ⟨Y, hY⟩ := Classical.axiomOfChoice key
    have hlen := sized_slice hsz (j := 1) rfl rfl Try.underlying41
    rw [bytesTx] at hlen
    simp only [reachBytes, List.length_map, List.length_range] at hlen
    refine finds_law (AO := fun i => (Y i).1.1) (LN := fun i => (Y i).1.2.1) (CP := fun i => (Y i).1.2.2) (Q := fun i => (Y i).2.2) (TT := fun i => (Y i).2.1) a0 ⟨hl, hm, fun h0 => ?_⟩ ⟨fun i hi => (hY i hi).2.2.1⟩ (fun i hi => (hY i hi).2.2.2.1) (fun i hi => (hY i hi).2.2.2.2) (by omega)
    obtain ⟨b, off, rfl⟩ := plain_addr (show W.cell? (a.add 0) = _ from (hY 0 (by omega)).1)
    refine ⟨b, off, rfl, fun j hj => ?_⟩
    obtain ⟨i, rfl | rfl⟩ : ∃ i, j = i * 2 ∨ j = i * 2 + 1 := ⟨j / 2, by omega⟩
    · rw [← add_lit, (hY i (by omega)).1]
      unfold txc
      rw [if_pos (by omega), show i * 2 / 2 = i by omega]
    · rw [← add_lit, (hY i (by omega)).2.1]
      unfold txc
      rw [if_neg (by omega), show (i * 2 + 1) / 2 = i by omega]
end Go.Proofs.Ytaalinlggjimcaa
