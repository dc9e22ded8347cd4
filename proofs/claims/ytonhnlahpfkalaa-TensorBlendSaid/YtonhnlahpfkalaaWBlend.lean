import Derived.Test.YtonhnlahpfkalaaLBl5
import Derived.Test.YtonhnlahpfkalaaOpen
import Derived.SizedLaws
namespace Go.Proofs.Ytonhnlahpfkalaa
open Go.ChangeShapes Go.WideShapes Go.ChangeAt Go.RowKit
/-! The law TensorBlend, from what came in. -/
theorem atf_bd {n : Nat} {f : Nat → Int} (h : ∀ i, i < n → -128 ≤ f i ∧ f i ≤ 127) (i : Nat) : -128 ≤ atf n f i ∧ atf n f i ≤ 127 := by
  unfold atf
  split
  · omega
  · exact h _ (Nat.mod_lt _ (by omega))
theorem weightsAll_mem {H : Type} {P : Program} {e : TypeId} {d : DataW H} : ∀ {l : List (DataW H)}, d ∈ l → ∀ n ∈ d.weights P e, n ∈ DataW.weightsAll P e l
  | [], h, _, _ => absurd h (by simp)
  | x :: r, h, n, hn => by
    simp only [DataW.weightsAll, List.mem_append]
    rcases List.mem_cons.1 h with e | e
    · subst e; exact .inl hn
    · exact .inr (weightsAll_mem e n hn)
/-- A row of a list of rows is within the form's reach. -/
theorem sized_row {H : Type} {P : Program} {ts : List TypeId} {ds : List (DataW H)} (h : (DataW.weightsEach P ts ds).all (· ≤ reachBytes) = true) {j : Nat} {t e q : TypeId} {el rest el' rest' : List (DataW H)} (ht : ts[j]? = some t) (hd : ds[j]? = some (.slice el rest))
    (hu : P.underlying t = some (.slice e)) (he : P.underlying e = some (.slice q)) (hm : DataW.slice el' rest' ∈ el) : (el'.length + rest'.length) * P.bytesOf q ≤ reachBytes := by
  have hmem : (el'.length + rest'.length) * P.bytesOf q ∈ DataW.weights P t (.slice el rest) := by
    simp only [DataW.weights, hu, List.mem_cons, List.mem_append]
    exact .inr (.inl (weightsAll_mem hm _ (by simp [DataW.weights, he])))
  have := List.all_eq_true.1 h _ (DataW.weights_mem_each ht hd _ hmem)
  simpa using this
theorem cellsI8 : Try.prog.cellsOf 32 = 1 := by kernel_rfl
theorem cellsS8 : Try.prog.cellsOf 23 = 1 := by kernel_rfl
theorem cellsI64 : Try.prog.cellsOf 2 = 1 := by kernel_rfl
theorem cellsI : Try.prog.cellsOf 3 = 1 := by kernel_rfl
theorem bytesI8 : Try.prog.bytesOf 32 = 1 := by kernel_rfl
theorem blend_walk {H : Type} {enc : TypeId × Value → H} {base : Nat} {held : Bool} {r : Reach} {b0 : Nat} {v0 v1 v2 : Value} {d0 d1 d2 : DataW H} {ps0 ps1 ps2 : List MemPlace} (W : World)
    (hval0 : Value.okWide Try.prog W r b0 55 v0) (h0 : DataW.Trod enc Try.prog W base (fun _ => true) held 55 v0 d0 ps0)
    (hval1 : Value.okWide Try.prog W r b0 46 v1) (h1 : DataW.Trod enc Try.prog W base (fun _ => true) held 46 v1 d1 ps1)
    (hval2 : Value.okWide Try.prog W r b0 38 v2) (h2 : DataW.Trod enc Try.prog W base (fun _ => true) held 38 v2 d2 ps2)
    (hsz : (DataW.weightsEach Try.prog [55, 46, 38] [d0, d1, d2]).all (· ≤ reachBytes) = true) :
    Calls Try.prog 5 #[v0, v1, v2] W fun e w' => e = .returned (.bool true) ∧ Below W.heap.size W w' := by
  obtain ⟨a0, l0, c0, rfl⟩ := okWide_slice Try.underlying55 hval0
  obtain ⟨a1, l1, c1, rfl⟩ := okWide_slice Try.underlying46 hval1
  obtain ⟨a2, l2, c2, rfl⟩ := okWide_slice Try.underlying38 hval2
  obtain ⟨fuel0, h0⟩ := h0
  obtain ⟨fuel1, h1⟩ := h1
  obtain ⟨fuel2, h2⟩ := h2
  obtain ⟨ao, n, ca, A, L, K, X, e0, hv, hwf, hx0⟩ := open_rows Try.underlying55 Try.underlying23 Try.underlying32 cellsS8 cellsI8 h0
  obtain ⟨bo, nw, cb, g, e1, hr1, _, _⟩ := open_row Try.underlying46 Try.underlying2 cellsI64 h1
  obtain ⟨co, q, cc, py, e2, hr2, _, _⟩ := open_row Try.underlying38 Try.underlying3 cellsI h2
  rw [e0, e1, e2]
  have bX : ∀ i j, i < n → -128 ≤ atf (L i) (X i) j ∧ atf (L i) (X i) j ≤ 127 := fun i j hi => atf_bd (fun j hj => wf_i8 (hwf i j hi hj)) j
  by_cases hn : n = 0
  · have hv' : Vs W ao n ca A (fun _ => 0) K X := ⟨hv.top.congr (fun j hj => absurd hj (by omega)), fun i hi => absurd hi (by omega)⟩
    exact blend_law hv' hr1 hr2 (fun i j hi => absurd hi (by omega)) (by omega)
  · refine blend_law hv hr1 hr2 bX ?_
    rcases hx0 with ⟨_, e⟩ | ⟨el, rest, e, hlen, hrow⟩
    · omega
    · have hd0 : d0 = .slice el rest := e
      subst hd0
      rcases hrow 0 (by omega) with hz | ⟨el', rest', hm, hl⟩
      · omega
      · have := sized_row hsz (j := 0) rfl rfl Try.underlying55 Try.underlying23 hm
        rw [bytesI8] at this
        simp only [reachBytes] at this
        omega
end Go.Proofs.Ytonhnlahpfkalaa
