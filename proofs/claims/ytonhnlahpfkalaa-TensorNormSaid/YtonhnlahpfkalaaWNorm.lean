import Derived.Test.YtonhnlahpfkalaaLNorm
import Derived.Test.YtonhnlahpfkalaaOpen
namespace Go.Proofs.Ytonhnlahpfkalaa
open Go.ChangeShapes Go.WideShapes Go.ChangeAt Go.RowKit
/-! The law TensorNorm, from what came in. -/
theorem nbI8 : Try.prog.cellsOf 32 = 1 := by kernel_rfl
theorem nbI64 : Try.prog.cellsOf 2 = 1 := by kernel_rfl
theorem nbI : Try.prog.cellsOf 3 = 1 := by kernel_rfl
theorem bytesI64 : Try.prog.bytesOf 2 = 8 := by kernel_rfl
theorem atf_in {n : Nat} {f : Nat → Int} (h : ∀ i, i < n → -128 ≤ f i ∧ f i ≤ 127) (i : Nat) : -128 ≤ atf n f i ∧ atf n f i ≤ 127 := by
  unfold atf
  split
  · omega
  · exact h _ (Nat.mod_lt _ (by omega))
theorem norm_walk {H : Type} {enc : TypeId × Value → H} {base : Nat} {sp : Nat → Bool} {held : Bool} {r : Reach} {b0 : Nat} {v0 v1 v2 : Value} {d0 d1 d2 : DataW H} {ps0 ps1 ps2 : List MemPlace} (W : World)
    (hval0 : Value.okWide Try.prog W r b0 46 v0) (h0 : DataW.Trod enc Try.prog W base sp held 46 v0 d0 ps0)
    (hval1 : Value.okWide Try.prog W r b0 23 v1) (h1 : DataW.Trod enc Try.prog W base sp held 23 v1 d1 ps1)
    (hval2 : Value.okWide Try.prog W r b0 38 v2) (h2 : DataW.Trod enc Try.prog W base sp held 38 v2 d2 ps2)
    (hsz : (DataW.weightsEach Try.prog [46, 23, 38] [d0, d1, d2]).all (· ≤ reachBytes) = true) :
    Calls Try.prog 6 #[v0, v1, v2] W fun e w' => e = .returned (.bool true) ∧ Below W.heap.size W w' := by
  obtain ⟨a0, l0, c0, rfl⟩ := okWide_slice Try.underlying46 hval0
  obtain ⟨a1, l1, c1, rfl⟩ := okWide_slice Try.underlying23 hval1
  obtain ⟨a2, l2, c2, rfl⟩ := okWide_slice Try.underlying38 hval2
  obtain ⟨fuel0, h0⟩ := h0
  obtain ⟨fuel1, h1⟩ := h1
  obtain ⟨fuel2, h2⟩ := h2
  obtain ⟨ao, n, ca, f, e0, hr0, hw0, hx0⟩ := open_row Try.underlying46 Try.underlying2 nbI64 h0
  obtain ⟨bo, m, cb, g, e1, hr1, hw1, _⟩ := open_row Try.underlying23 Try.underlying32 nbI8 h1
  obtain ⟨co, q, cc, h, e2, hr2, hw2, _⟩ := open_row Try.underlying38 Try.underlying3 nbI h2
  simp only [Value.slice.injEq] at e0 e1 e2
  obtain ⟨rfl, rfl, rfl⟩ := e0
  obtain ⟨rfl, rfl, rfl⟩ := e1
  obtain ⟨rfl, rfl, rfl⟩ := e2
  have hl : l0 * 8 ≤ 140737488351232 := by
    rcases hx0 with ⟨_, e⟩ | ⟨el, rest, e, hlen⟩
    · omega
    · have hd0 : d0 = .slice el rest := e
      subst hd0
      have := sized_slice hsz (j := 0) rfl rfl Try.underlying46
      rw [bytesI64] at this
      simp only [reachBytes] at this
      omega
  by_cases hn : l0 = 0 ∨ 1000 < l0
  · exact norm_few hn hl
  · exact norm_law hr0 hr1 hr2 (fun i hi => wf_i64 (hw0 i hi)) (atf_in (fun i hi => wf_i8 (hw1 i hi))) (by omega) (by omega)
end Go.Proofs.Ytonhnlahpfkalaa
