import Derived.Test.YtemmghneohnigaaDoorWzC
import Derived.Test.YtemmghneohnigaaDoorWvU
namespace Go.Proofs.YtemmghneohnigaaDoor
open Go.ChangeShapes Go.WideShapes Go.ChangeAt Go.RowKit Go.Deep
/-! Lines that came in; WireApart from what came in. -/
theorem yRln : Tryd.prog.bytesOf 35 = 120 := by kernel_rfl
set_option maxRecDepth 20000 in
theorem open_lines {H : Type} {enc : TypeId × Value → H} {W : World} {base : Nat} {sp : Nat → Bool} {held : Bool} {r : Reach} {b0 : Nat} {v : Value} {d : DataW H} {ps : List MemPlace}
    (hval : Value.okWide Tryd.prog W r b0 44 v) (h : DataW.Trod enc Tryd.prog W base sp held 44 v d ps) (hw : ∀ m ∈ d.weights Tryd.prog 44, m ≤ 140737488351232) :
    ∃ (lo : Option Addr) (N lc : Nat) (D : Nat → LnD) (X : Nat → LnX), v = .slice lo N lc ∧ RdA W lo 7 N lc (fun j => ((D (j / 7)).row (X (j / 7))).getD (j % 7) undef) ∧ (∀ i, i < N → (D i).Ok ∧ LnR W (D i) (X i)) ∧ N ≤ 1172812402926 := by
  obtain ⟨a2, l2, c2, rfl⟩ := okWide_slice Tryd.underlying44 hval
  obtain ⟨fuel, h1⟩ := h
  have h1 : DataW.trod enc Tryd.prog W base sp held fuel 44 [.slice a2 l2 c2] = some (d, ps) := h1
  rcases open_slice Tryd.underlying44 h1 with ⟨hcs, hx⟩ | ⟨a, len, cap, m, n, D, Pl, hcs, _, hl, hm, hmm, hx, hcell⟩
  · simp at hcs
    obtain ⟨rfl, rfl, rfl⟩ := hcs
    exact ⟨none, 0, 0, fun _ => ⟨[], 0, [], [], 0, [], []⟩, fun _ => ⟨none, 0, none, 0, none, 0⟩, rfl, ⟨Nat.le_refl _, Nat.zero_le _, fun h => absurd h (by omega)⟩, fun i hi => absurd hi (by omega), by omega⟩
  · simp at hcs
    obtain ⟨rfl, rfl, rfl⟩ := hcs
    have hlm : l2 ≤ m := by rw [hmm]; split <;> omega
    have hd : d = .slice ((List.range l2).map D) ((List.range (m - l2)).map fun j => D (l2 + j)) := congrArg Prod.fst hx
    rw [hd] at hw
    simp only [DataW.weights, Tryd.underlying44] at hw
    have hbi : ∀ i, i < l2 → ∀ q ∈ (D i).weights Tryd.prog 35, q ≤ 140737488351232 := fun i hi q hq => hw _ (List.mem_cons_of_mem _ (List.mem_append_left _ (w_all (List.mem_map.2 ⟨i, List.mem_range.2 hi, rfl⟩) q hq)))
    have hbn : l2 ≤ 1172812402926 := by
      have h1 := hw _ (List.mem_cons_self ..)
      rw [yRln] at h1
      simp only [List.length_map, List.length_range] at h1
      omega
    have key : ∀ i, ∃ y : LnD × LnX, i < l2 → (∀ j, j < 7 → W.cell? (a.add (i * 7 + j)) = some ((y.1.row y.2).getD j undef)) ∧ y.1.Ok ∧ LnR W y.1 y.2 := fun i => by
      by_cases hi : i < l2
      · obtain ⟨cs', h1, h2⟩ := hcell i (by omega)
        rw [ncL] at h1
        obtain ⟨_, hlen, hc⟩ := World.cells?_some h1
        obtain ⟨wl, n, ao, t, ac, bo, nums, bc, u, g, co, st, cc, e, hw, hr, ht, hn, hnr, hu, hg, hs, hsb, hsl, htl, hnl, hgl⟩ := open_lineR h2 (hbi i hi)
        refine ⟨(⟨wl, n, t, nums, u, g, st⟩, ⟨ao, ac, bo, bc, co, cc⟩), fun _ => ⟨fun j hj => ?_, ⟨hw, ht, hnr, hu, hg, hsb, (show st.length ≤ 8796093021952 by omega), (show t.length ≤ 140737488351232 by omega), (show nums.length ≤ 17592186043904 by omega), hgl⟩, ⟨hr, hn, hs⟩⟩⟩
        have := hc j hj
        rw [Go.Deep.add_add] at this
        rw [this, e]
        show (lnA (strOfNums wl) n ao t.length ac bo nums.length bc (u : Int) (strOfNums g) co st.length cc).toList[j]? = some ((lnA (strOfNums wl) n ao t.length ac bo nums.length bc (u : Int) (strOfNums g) co st.length cc).getD j undef)
        rw [Array.getElem?_toList]
        have hj' : j < (lnA (strOfNums wl) n ao t.length ac bo nums.length bc (u : Int) (strOfNums g) co st.length cc).size := hj
        simp only [Array.getD, hj', dif_pos, Array.getElem?_eq_getElem]
        rfl
      · exact ⟨(⟨[], 0, [], [], 0, [], []⟩, ⟨none, 0, none, 0, none, 0⟩), fun e => absurd e hi⟩
    obtain ⟨Y, hY⟩ := Classical.axiomOfChoice key
    refine ⟨some a, l2, c2, fun i => (Y i).1, fun i => (Y i).2, rfl, ⟨hl, hm, fun h0 => ?_⟩, fun i hi => (hY i hi).2, hbn⟩
    obtain ⟨b, off, rfl⟩ := plain_addr (show W.cell? (a.add 0) = _ from (hY 0 (by omega)).1 0 (by omega))
    refine ⟨b, off, rfl, fun j hj => ?_⟩
    have := (hY (j / 7) (by omega)).1 (j % 7) (by omega)
    rw [add_lit, show j / 7 * 7 + j % 7 = j by omega] at this
    exact this
set_option maxRecDepth 20000 in
theorem wireApart_walkR {H : Type} {enc : TypeId × Value → H} {base : Nat} {sp : Nat → Bool} {held : Bool} {r : Reach} {b0 : Nat} {v0 : Value} {d0 : DataW H} {ps0 : List MemPlace} (W : World) (hE : Env W)
    (hval0 : Value.okWide Tryd.prog W r b0 44 v0) (h0 : DataW.Trod enc Tryd.prog W base sp held 44 v0 d0 ps0)
    (hsz : (DataW.weightsEach Tryd.prog [44] [d0]).all (· ≤ reachBytes) = true) :
    Calls Tryd.prog 6 #[v0] W fun e w' => e = .returned (.bool true) ∧ Below W.heap.size W w' := by
  have hw : ∀ m ∈ d0.weights Tryd.prog 44, m ≤ 140737488351232 := fun m hm => by
    have := of_decide_eq_true (List.all_eq_true.1 hsz m (DataW.weights_mem_each (j := 0) rfl rfl m hm))
    simpa only [reachBytes] using this
  obtain ⟨lo, N, lc, D, X, rfl, hl, hD, hN⟩ := open_lines hval0 h0 hw
  exact apart_law hl hD hN hE
end Go.Proofs.YtemmghneohnigaaDoor
