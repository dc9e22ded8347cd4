import Derived.WalkKit
import Derived.ProofKit
import Derived.OpenShut
import Derived.Deep.Matrix
import Derived.SizedLaws
import Derived.Test.YtlnbbnojkpdccaaHE
namespace Go.Proofs.Ytlnbbnojkpdccaa
open Go.ChangeShapes Go.WideShapes Go.ChangeAt Go.RowKit Go.Deep
/-! The law HeadsTops, from what came in. -/
theorem add_lit (b off j : Nat) : (⟨b, off, none⟩ : Addr).add j = ⟨b, off + j, none⟩ := by unfold Addr.add; split <;> simp_all
theorem plain_addr {w : World} {a : Addr} {v : Value} (h : w.cell? (a.add 0) = some v) : ∃ b off, a = ⟨b, off, none⟩ := by
  obtain ⟨b, off, sp⟩ := a
  cases sp with
  | none => exact ⟨b, off, rfl⟩
  | some x =>
    have e : (⟨b, off, some x⟩ : Addr).add 0 = ⟨b, off, some x⟩ := by unfold Addr.add; simp
    rw [e] at h
    unfold World.cell? at h
    split at h <;> simp at h
theorem wf_i64 {n : Int} (h : (Lit.int .i64 n).wf = true) : -9223372036854775808 ≤ n ∧ n ≤ 9223372036854775807 := by
  have hmin : IntKind.i64.min = -9223372036854775808 := rfl
  have hmax : IntKind.i64.max = 9223372036854775807 := rfl
  simp only [Lit.wf, Bool.and_eq_true, decide_eq_true_eq] at h; omega
section
variable {H : Type} {enc : TypeId × Value → H} {P : Program} {w : World} {base : Nat} {sp : Nat → Bool} {held : Bool}
theorem open_row {t e : TypeId} {k : IntKind} {fuel : Nat} {v : Value} {x : DataW H × List MemPlace} (ht : P.underlying t = some (.slice e)) (he : P.underlying e = some (.int k)) (hc : P.cellsOf e = 1)
    (h : DataW.trod enc P w base sp held fuel t [v] = some x) :
    ∃ (ao : Option Addr) (n cap : Nat) (f : Nat → Int), v = .slice ao n cap ∧ RdA w ao 1 n cap (fun i => .int k (f i)) ∧ (∀ i, i < n → (Lit.int k (f i)).wf = true) ∧ ((x.1 = .nil ∧ n = 0) ∨ ∃ el rest, x.1 = .slice el rest ∧ el.length = n) := by
  rcases open_ints ht he hc h with ⟨hcs, hx⟩ | ⟨a, len, cap, zs, hcs, _, hl, hm, hz, hx, hcell, hwz⟩
  · simp at hcs
    exact ⟨none, 0, 0, fun _ => 0, hcs, ⟨Nat.le_refl _, Nat.zero_le _, fun h => absurd h (by omega)⟩, fun i hi => absurd hi (by omega), .inl ⟨by rw [hx], rfl⟩⟩
  · simp at hcs
    have hlz : len ≤ zs.length := by rw [hz]; split <;> omega
    refine ⟨some a, len, cap, fun i => zs.getD i 0, hcs, ⟨hl, hm, fun h0 => ?_⟩, fun i hi => ?_, .inr ⟨_, _, by rw [hx], ?_⟩⟩
    · have h1 := hcell 0 (by omega)
      obtain ⟨b, off, rfl⟩ := plain_addr h1
      exact ⟨b, off, rfl, fun j hj => by have := hcell j (by omega); rwa [add_lit] at this⟩
    · apply hwz
      dsimp only
      rw [List.getD_eq_getElem?_getD, List.getElem?_eq_getElem (by omega)]
      exact List.getElem_mem _
    · simp [lits]; omega
end
theorem cellsW : Try.prog.cellsOf 2 = 1 := by kernel_rfl
theorem bytesW : Try.prog.bytesOf 2 = 8 := by kernel_rfl

set_option maxRecDepth 100000 in
theorem open_wide {H : Type} {enc : TypeId × Value → H} {W : World} {base : Nat} {sp : Nat → Bool} {held : Bool} {r : Reach} {b0 : Nat} {v0 : Value} {d0 : DataW H} {ps0 : List MemPlace} {ts : List TypeId} {ds : List (DataW H)} {j : Nat}
    (hval0 : Value.okWide Try.prog W r b0 22 v0) (h0 : DataW.Trod enc Try.prog W base sp held 22 v0 d0 ps0) (hsz : (DataW.weightsEach Try.prog ts ds).all (· ≤ reachBytes) = true) (ht : ts[j]? = some 22) (hd : ds[j]? = some d0) :
    ∃ (ao : Option Addr) (n cap : Nat) (f : Nat → Int), v0 = .slice ao n cap ∧ RdA W ao 1 n cap (fun i => .int .i64 (f i)) ∧ (∀ i, i < n → -9223372036854775808 ≤ f i ∧ f i ≤ 9223372036854775807) ∧ n ≤ 17592186043904 := by
  obtain ⟨a2, l2, c2, rfl⟩ := okWide_slice Try.underlying22 hval0
  obtain ⟨fuel, h1⟩ := h0
  have h1 : DataW.trod enc Try.prog W base sp held fuel 22 [.slice a2 l2 c2] = some (d0, ps0) := h1
  obtain ⟨ao, n, cap, f, e, hr, hw, hs⟩ := open_row Try.underlying22 Try.underlying2 cellsW h1
  refine ⟨ao, n, cap, f, e, hr, fun i hi => wf_i64 (hw i hi), ?_⟩
  rcases hs with ⟨_, rfl⟩ | ⟨el, rest, e2, rfl⟩
  · omega
  · have e2 : d0 = .slice el rest := e2
    subst e2
    have hlen := sized_slice hsz ht hd Try.underlying22
    rw [bytesW] at hlen
    simp only [reachBytes] at hlen
    omega
set_option maxRecDepth 100000 in
theorem headsTops_walk {H : Type} {enc : TypeId × Value → H} {base : Nat} {sp : Nat → Bool} {held : Bool} {r : Reach} {b0 : Nat} {v0 : Value} {d0 : DataW H} {ps0 : List MemPlace} (W : World)
    (hval0 : Value.okWide Try.prog W r b0 22 v0) (h0 : DataW.Trod enc Try.prog W base sp held 22 v0 d0 ps0)
    (hsz : (DataW.weightsEach Try.prog [22] [d0]).all (· ≤ reachBytes) = true) :
    Calls Try.prog 3 #[v0] W fun e w' => e = .returned (.bool true) ∧ Below W.heap.size W w' := by
  obtain ⟨ao, n, cap, f, rfl, hr, _, hn⟩ := open_wide (j := 0) hval0 h0 hsz rfl rfl
  exact tops_law hr hn
end Go.Proofs.Ytlnbbnojkpdccaa
