import Derived.Test.YtemmghneohnigaaDoorWvS
import Derived.Test.YtemmghneohnigaaDoorVT
import Derived.SizedLaws
namespace Go.Proofs.YtemmghneohnigaaDoor
open Go.ChangeShapes Go.WideShapes Go.ChangeAt Go.RowKit Go.Deep
/-! A line that came in, within reach; the law WireRounds, from what came in. -/
theorem yStr : Tryd.prog.bytesOf 9 = 16 := by kernel_rfl
theorem yByt : Tryd.prog.bytesOf 5 = 1 := by kernel_rfl
theorem yInt : Tryd.prog.bytesOf 3 = 8 := by kernel_rfl
section
variable {H : Type} {enc : TypeId × Value → H} {w : World} {base : Nat} {sp : Nat → Bool} {held : Bool}
theorem w_all {P : Program} {e : TypeId} : ∀ {ds : List (DataW H)} {d : DataW H}, d ∈ ds → ∀ m ∈ d.weights P e, m ∈ DataW.weightsAll P e ds
  | d0 :: ds, d, hd, m, hm => by
    simp only [DataW.weightsAll, List.mem_append]
    rcases List.mem_cons.1 hd with h | h
    · subst h; exact Or.inl hm
    · exact Or.inr (w_all h m hm)
theorem w_row {P : Program} {t e : TypeId} {d : DataW H} {n : Nat} (hu : P.underlying t = some (.slice e)) (hw : ∀ m ∈ d.weights P t, m ≤ 140737488351232) (h : (d = .nil ∧ n = 0) ∨ ∃ el rest, d = .slice el rest ∧ el.length = n) : n * P.bytesOf e ≤ 140737488351232 := by
  rcases h with ⟨_, e⟩ | ⟨el, rest, rfl, e⟩
  · subst e; omega
  · simp only [DataW.weights, hu] at hw
    have h1 := hw _ (List.mem_cons_self ..)
    rw [Nat.add_mul, e] at h1
    omega
theorem open_strlR {fuel : Nat} {v : Value} {x : DataW H × List MemPlace} (h : DataW.trod enc Tryd.prog w base sp held fuel 33 [v] = some x) (hw : ∀ m ∈ x.1.weights Tryd.prog 33, m ≤ 140737488351232) :
    ∃ (ao : Option Addr) (cap : Nat) (st : List (List Int)), v = .slice ao st.length cap ∧ RdA w ao 1 st.length cap (stc st) ∧ (∀ s ∈ st, Byt s ∧ s.length ≤ 140737488351232) ∧ st.length * 16 ≤ 140737488351232 := by
  rcases open_slice Tryd.underlying33 h with ⟨hcs, hx⟩ | ⟨a, len, cap, m, n, D, Pl, hcs, _, hl, hm, hmm, hx, hcell⟩
  · simp at hcs
    subst hcs
    exact ⟨none, 0, [], rfl, ⟨Nat.le_refl _, Nat.zero_le _, fun h => absurd h (by simp)⟩, (fun s hs => nomatch hs), Nat.zero_le _⟩
  · simp at hcs
    subst hcs
    have hlm : len ≤ m := by rw [hmm]; split <;> omega
    have key : ∀ i, ∃ y : ByteArray, i < m → w.cell? (a.add i) = some (.string y) ∧ D i = .lit (.string y.data.toList) := by
      intro i
      by_cases hi : i < m
      · obtain ⟨cs', h1, h2⟩ := hcell i hi
        rw [ncS, Nat.mul_one] at h1
        obtain ⟨_, hlen, hc⟩ := World.cells?_some h1
        obtain ⟨s, e, ex, hs⟩ := DataW.trod_string Tryd.underlying9 h2
        subst e
        have e0 := hc 0 (by simp)
        rw [add_zero] at e0
        simp at e0
        refine ⟨s, fun _ => ⟨e0, ?_⟩⟩
        injection ex
      · exact ⟨ByteArray.empty, fun h => absurd h hi⟩
    obtain ⟨f, hf⟩ := Classical.axiomOfChoice key
    have hln : ((List.range len).map (fun i => bys (f i))).length = len := by simp
    have hg : ∀ i, i < len → ((List.range len).map (fun i => bys (f i))).getD i [] = bys (f i) := fun i hi => by simp [List.getD_eq_getElem?_getD, hi]
    rw [hx] at hw
    simp only [DataW.weights, Tryd.underlying33] at hw
    have hln2 := hw _ (List.mem_cons_self ..)
    rw [yStr] at hln2
    simp only [List.length_map, List.length_range] at hln2
    refine ⟨some a, cap, (List.range len).map (fun i => bys (f i)), by rw [hln], ?_, fun s hs => ?_, ?_⟩
    · rw [hln]
      refine ⟨hl, hm, fun h0 => ?_⟩
      obtain ⟨b, off, rfl⟩ := plain_addr (show w.cell? (a.add 0) = _ from (hf 0 (by omega)).1)
      refine ⟨b, off, rfl, fun j hj => ?_⟩
      have := (hf j (by omega)).1
      rw [add_lit] at this
      rw [this]
      unfold stc
      rw [hg j (by omega), bys_str]
    · obtain ⟨i, hi, rfl⟩ := List.mem_map.1 hs
      have hi := List.mem_range.1 hi
      refine ⟨bys_byt _, ?_⟩
      have h1 := hw _ (List.mem_cons_of_mem _ (List.mem_append_left _ (w_all (List.mem_map.2 ⟨i, List.mem_range.2 hi, rfl⟩) (f i).data.toList.length (by rw [(hf i (by omega)).2]; simp [DataW.weights]))))
      rw [bys_len]
      simp only [Array.length_toList] at h1
      have : (f i).data.size = (f i).size := rfl
      omega
    · rw [hln]
      omega
set_option maxRecDepth 20000 in
theorem open_lineR {fuel : Nat} {cs : List Value} {x : DataW H × List MemPlace} (h : DataW.trod enc Tryd.prog w base sp held fuel 35 cs = some x) (hw : ∀ m ∈ x.1.weights Tryd.prog 35, m ≤ 140737488351232) :
    ∃ (wl : List Int) (n : Int) (ao : Option Addr) (t : List Int) (ac : Nat) (bo : Option Addr) (nums : List Int) (bc u : Nat) (g : List Int) (co : Option Addr) (st : List (List Int)) (cc : Nat),
      cs = (lnA (strOfNums wl) n ao t.length ac bo nums.length bc (u : Int) (strOfNums g) co st.length cc).toList ∧ Byt wl ∧ RdA w ao 1 t.length ac (byc t) ∧ Byt t ∧ RdA w bo 1 nums.length bc (fun j => .int .i64 (nums.getD j 0)) ∧ (∀ y ∈ nums, -9223372036854775808 ≤ y ∧ y ≤ 9223372036854775807) ∧ u < 18446744073709551616 ∧ Byt g ∧ RdA w co 1 st.length cc (stc st) ∧
      (∀ s ∈ st, Byt s ∧ s.length ≤ 140737488351232) ∧ st.length * 16 ≤ 140737488351232 ∧ t.length * 1 ≤ 140737488351232 ∧ nums.length * 8 ≤ 140737488351232 ∧ g.length ≤ 140737488351232 := by
  obtain ⟨ys, n, rfl, rfl, hl, hlen, hf⟩ := DataW.trod_struct Tryd.underlying35 h
  have e0 : DataW.trod enc Tryd.prog w base sp held n 9 ((cs.drop 0).take (Tryd.prog.cellsOf 9)) = ys[0]? := hf 0 _ rfl
  have e1 : DataW.trod enc Tryd.prog w base sp held n 3 ((cs.drop 1).take (Tryd.prog.cellsOf 3)) = ys[1]? := hf 1 _ rfl
  have e2 : DataW.trod enc Tryd.prog w base sp held n 22 ((cs.drop 2).take (Tryd.prog.cellsOf 22)) = ys[2]? := hf 2 _ rfl
  have e3 : DataW.trod enc Tryd.prog w base sp held n 31 ((cs.drop 3).take (Tryd.prog.cellsOf 31)) = ys[3]? := hf 3 _ rfl
  have e4 : DataW.trod enc Tryd.prog w base sp held n 32 ((cs.drop 4).take (Tryd.prog.cellsOf 32)) = ys[4]? := hf 4 _ rfl
  have e5 : DataW.trod enc Tryd.prog w base sp held n 9 ((cs.drop 5).take (Tryd.prog.cellsOf 9)) = ys[5]? := hf 5 _ rfl
  have e6 : DataW.trod enc Tryd.prog w base sp held n 33 ((cs.drop 6).take (Tryd.prog.cellsOf 33)) = ys[6]? := hf 6 _ rfl
  rw [ncL] at hl
  rw [ncS] at e0 e5
  rw [ncI] at e1
  rw [ncSB] at e2
  rw [ncSI] at e3
  rw [ncU] at e4
  rw [ncSS] at e6
  obtain ⟨c0, c1, c2, c3, c4, c5, c6, rfl⟩ := parts7 hl
  replace e0 : DataW.trod enc Tryd.prog w base sp held n 9 [c0] = ys[0]? := e0
  replace e1 : DataW.trod enc Tryd.prog w base sp held n 3 [c1] = ys[1]? := e1
  replace e2 : DataW.trod enc Tryd.prog w base sp held n 22 [c2] = ys[2]? := e2
  replace e3 : DataW.trod enc Tryd.prog w base sp held n 31 [c3] = ys[3]? := e3
  replace e4 : DataW.trod enc Tryd.prog w base sp held n 32 [c4] = ys[4]? := e4
  replace e5 : DataW.trod enc Tryd.prog w base sp held n 9 [c5] = ys[5]? := e5
  replace e6 : DataW.trod enc Tryd.prog w base sp held n 33 [c6] = ys[6]? := e6
  obtain ⟨y0, e0, k0⟩ := some_of (show ys.length = 7 from hlen) (by decide) e0
  obtain ⟨y1, e1, _⟩ := some_of (show ys.length = 7 from hlen) (by decide) e1
  obtain ⟨y2, e2, k2⟩ := some_of (show ys.length = 7 from hlen) (by decide) e2
  obtain ⟨y3, e3, k3⟩ := some_of (show ys.length = 7 from hlen) (by decide) e3
  obtain ⟨y4, e4, _⟩ := some_of (show ys.length = 7 from hlen) (by decide) e4
  obtain ⟨y5, e5, k5⟩ := some_of (show ys.length = 7 from hlen) (by decide) e5
  obtain ⟨y6, e6, k6⟩ := some_of (show ys.length = 7 from hlen) (by decide) e6
  have hp : ∀ (i : Nat) (ti : TypeId) (y : DataW H × List MemPlace), [9, 3, 22, 31, 32, 9, 33][i]? = some ti → ys[i]? = some y → ∀ m ∈ y.1.weights Tryd.prog ti, m ≤ 140737488351232 := fun i ti y h1 h2 m hm => hw m (by
    simp only [DataW.weights, Tryd.underlying35]
    exact DataW.weights_mem_each (j := i) h1 (by rw [List.getElem?_map, h2]; rfl) m hm)
  obtain ⟨s0, q0, x0, _⟩ := DataW.trod_string Tryd.underlying9 e0
  obtain ⟨n1, q1, _, _⟩ := DataW.trod_int Tryd.underlying3 e1
  obtain ⟨ao, tm, ac, ft, rfl, hr, hwt, hbt⟩ := open_row Tryd.underlying22 Tryd.underlying5 cellsU e2
  obtain ⟨bo, nm, bc, fn, rfl, hn, hwn, hbn⟩ := open_row Tryd.underlying31 Tryd.underlying3 ncI e3
  obtain ⟨u4, q4, _, w4⟩ := DataW.trod_int Tryd.underlying32 e4
  obtain ⟨s5, q5, x5, _⟩ := DataW.trod_string Tryd.underlying9 e5
  obtain ⟨co, cc, st, rfl, hs, hsb, hsl⟩ := open_strlR e6 (hp 6 33 _ rfl k6)
  simp only [List.cons.injEq, and_true] at q0 q1 q4 q5
  subst q0 q1 q4 q5
  have hu : 0 ≤ u4 ∧ u4 < 18446744073709551616 := by
    have hmin : IntKind.u64.min = 0 := rfl
    have hmax : IntKind.u64.max = 18446744073709551615 := rfl
    simp only [Lit.wf, Bool.and_eq_true, decide_eq_true_eq] at w4; omega
  obtain ⟨U, rfl⟩ := Int.eq_ofNat_of_zero_le hu.1
  have htn : ((List.range tm).map ft).length = tm := by simp
  have hnn : ((List.range nm).map fn).length = nm := by simp
  have b2 := w_row Tryd.underlying22 (hp 2 22 _ rfl k2) hbt
  have b3 := w_row Tryd.underlying31 (hp 3 31 _ rfl k3) hbn
  rw [yByt] at b2
  rw [yInt] at b3
  have b5 := hp 5 9 _ rfl k5 s5.data.toList.length (by rw [x5]; simp [DataW.weights])
  simp only [Array.length_toList] at b5
  have hz5 : s5.data.size = s5.size := rfl
  refine ⟨bys s0, n1, ao, (List.range tm).map ft, ac, bo, (List.range nm).map fn, bc, U, bys s5, co, st, cc, ?_, bys_byt _, ?_, fun x hx => ?_, ?_, fun x hx => ?_, by omega, bys_byt _, hs, hsb, hsl, by rw [htn]; exact b2, by rw [hnn]; exact b3, ?_⟩
  · rw [htn, hnn, bys_str, bys_str]
  · rw [htn]
    refine hr.congr (fun j hj => ?_)
    have hj' : j < tm := by omega
    simp [byc, List.getD_eq_getElem?_getD, hj']
  · obtain ⟨i, hi, rfl⟩ := List.mem_map.1 hx
    exact wf_u8 (hwt i (List.mem_range.1 hi))
  · rw [hnn]
    refine hn.congr (fun j hj => ?_)
    have hj' : j < nm := by omega
    simp [List.getD_eq_getElem?_getD, hj']
  · obtain ⟨i, hi, rfl⟩ := List.mem_map.1 hx
    exact wf_i64 (hwn i (List.mem_range.1 hi))
  · rw [bys_len]
    omega
end
set_option maxRecDepth 20000 in
theorem wireRounds_walkR {H : Type} {enc : TypeId × Value → H} {base : Nat} {sp : Nat → Bool} {held : Bool} {r r1 : Reach} {b0 b1 : Nat} {v0 v1 : Value} {d0 d1 : DataW H} {ps0 ps1 : List MemPlace} (W : World) (hE : Env W)
    (hval0 : Value.okWide Tryd.prog W r b0 35 v0) (h0 : DataW.Trod enc Tryd.prog W base sp held 35 v0 d0 ps0)
    (hval1 : Value.okWide Tryd.prog W r1 b1 9 v1) (h1 : DataW.Trod enc Tryd.prog W base sp held 9 v1 d1 ps1)
    (hsz : (DataW.weightsEach Tryd.prog [35, 9] [d0, d1]).all (· ≤ reachBytes) = true) :
    Calls Tryd.prog 5 #[v0, v1] W fun e w' => e = .returned (.bool true) ∧ Below W.heap.size W w' := by
  obtain ⟨s, rfl, rfl, rfl, _⟩ := Go.ChangeMaps.open_string Tryd.underlying9 hval1 h1
  obtain ⟨cs, rfl, _⟩ := okWide_struct Tryd.underlying35 hval0
  obtain ⟨fuel, hd⟩ := h0
  have hw : ∀ m ∈ d0.weights Tryd.prog 35, m ≤ 140737488351232 := fun m hm => by
    have := of_decide_eq_true (List.all_eq_true.1 hsz m (DataW.weights_mem_each (j := 0) rfl rfl m hm))
    simpa only [reachBytes] using this
  obtain ⟨wl, n, ao, t, ac, bo, nums, bc, u, g, co, st, cc, hcs, hwl, hr, ht, hn, hnr, hu, hg, hs, hsb, hsl, htl, hnl, hgl⟩ := open_lineR hd hw
  have hz : s.size ≤ 140737488351232 := by
    have h1 := sized_string hsz (j := 1) rfl rfl
    simp only [Array.length_toList, reachBytes] at h1
    have : s.data.size = s.size := rfl
    omega
  obtain rfl : cs = lnA (strOfNums wl) n ao t.length ac bo nums.length bc (u : Int) (strOfNums g) co st.length cc := Array.ext' hcs
  have := rounds_law (n := n) hwl (bys_byt s) (by rw [bys_len]; omega) hg hgl ht (by omega) hsb (by omega) (by omega) hu hnr hE hr hn hs
  rw [bys_str] at this
  exact this
end Go.Proofs.YtemmghneohnigaaDoor
