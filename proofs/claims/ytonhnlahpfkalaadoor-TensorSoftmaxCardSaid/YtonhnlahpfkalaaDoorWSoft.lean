import Derived.Test.YtonhnlahpfkalaaDoorLSoft
import Derived.Test.YtonhnlahpfkalaaDoorOpen
namespace Go.Proofs.YtonhnlahpfkalaaDoor
open Go.ChangeShapes Go.WideShapes Go.ChangeAt Go.RowKit
/-! The law TensorSoftmax, from what came in. -/
theorem nil_rd (w : World) (cs : Nat → Value) : RdA w none 1 0 0 cs := ⟨Nat.le_refl _, Nat.zero_le _, fun h => absurd h (by omega)⟩
set_option maxRecDepth 100000 in
set_option maxHeartbeats 4000000 in
theorem soft_none {w : World} {ao co : Option Addr} {q ca cc : Nat} {h : Nat → Int} {more : Int} (hw : Holds w) (hd : RdA w co 1 q cc (fun i => .int .i64 (h i))) :
    Calls Tryd.prog 3 #[.slice ao 0 ca, .slice co q cc, .int .i64 more] w fun e w' => e = .returned (.bool true) ∧ Below w.heap.size w w' := by
  go_enter Tryd.func3, Tryd.ntmps3
  go_wp2_with fail
  refine softmax_none.mono ?_
  rintro e w1 ⟨rfl, hw1⟩
  rw [hw1]
  clear hw1 w1
  go_wp2_with fail
  have hfa := fresh_alloc w (.cells #[.int .i64 5] 2)
  refine (softmax_ok (hw.fresh hfa) (one_five w) (fun _ _ => by decide) (by decide) (by decide)).mono ?_
  rintro e w2 ⟨bo, Fo, rfl, hbo, hro, hFo, hf2⟩
  have co1 := hro.cell (i := 0) (by decide)
  rw [hFo 0 (by decide), one_soft.1] at co1
  have hF2 := fresh_trans hfa hf2
  have hd2 := (hd.fresh hfa).fresh hf2
  rw [one_soft.2]
  clear hro hFo hbo hd hf2 hfa
  go_wp2
  clear co1
  refine wp_loop_rounds 1 ?_
  rw [rounds_succ]
  go_wp2_with fail
  refine (order_any (n := 0) hd2 (by decide)).mono ?_
  rintro e w5 ⟨pv, p, rfl, hp, ⟨po, pc, rfl, hrp⟩, hf5⟩
  have hF5 := fresh_trans hF2 hf5
  have hdb := lo_bd more
  clear hp hrp hf5 hF2 hd2
  go_wp2
  refine wp_loop_rounds 1 ?_
  rw [rounds_succ]
  go_wp2_with fail
  refine softmax_none.mono ?_
  rintro e w6 ⟨rfl, hw6⟩
  rw [hw6]
  clear hw6 w6
  go_wp2_with fail
  refine softmax_none.mono ?_
  rintro e w6 ⟨rfl, hw6⟩
  rw [hw6]
  clear hw6 w6
  go_wp2_with fail
  refine softmax_none.mono ?_
  rintro e w6 ⟨rfl, hw6⟩
  rw [hw6]
  clear hw6 w6
  go_wp2_with fail
  refine (eqWide_same (f := fun _ => 0) (g := fun _ => 0) (nil_rd _ _) (nil_rd _ _) (fun _ _ => rfl)).mono ?_
  rintro e w9 ⟨rfl, hf9⟩
  go_wp2_with fail
  refine (eqWide_same (f := fun _ => 0) (g := fun _ => 0) (nil_rd _ _) (nil_rd _ _) (fun _ _ => rfl)).mono ?_
  rintro e w10 ⟨rfl, hf10⟩
  go_wp2
  go_ret
  exact ⟨rfl, fresh_trans (fresh_trans hF5 hf9) hf10⟩
theorem cellsI64 : Tryd.prog.cellsOf 2 = 1 := by kernel_rfl
theorem cellsI : Tryd.prog.cellsOf 3 = 1 := by kernel_rfl
theorem bytesI64 : Tryd.prog.bytesOf 2 = 8 := by kernel_rfl
theorem soft_walk {H : Type} {enc : TypeId × Value → H} {base : Nat} {sp : Nat → Bool} {held : Bool} {r : Reach} {b0 : Nat} {v0 v1 : Value} {d0 d1 d2 : DataW H} {ps0 ps1 : List MemPlace} (more : Int) (W : World) (hw : Holds W)
    (hval0 : Value.okWide Tryd.prog W r b0 22 v0) (h0 : DataW.Trod enc Tryd.prog W base sp held 22 v0 d0 ps0)
    (hval1 : Value.okWide Tryd.prog W r b0 23 v1) (h1 : DataW.Trod enc Tryd.prog W base sp held 23 v1 d1 ps1) (_ : -9223372036854775808 ≤ more) (_ : more ≤ 9223372036854775807)
    (hsz : (DataW.weightsEach Tryd.prog [22, 23, 2] [d0, d1, d2]).all (· ≤ reachBytes) = true) :
    Calls Tryd.prog 3 #[v0, v1, .int .i64 more] W fun e w' => e = .returned (.bool true) ∧ Below W.heap.size W w' := by
  obtain ⟨a0, l0, c0, rfl⟩ := okWide_slice Tryd.underlying22 hval0
  obtain ⟨a1, l1, c1, rfl⟩ := okWide_slice Tryd.underlying23 hval1
  obtain ⟨fuel0, h0⟩ := h0
  obtain ⟨fuel1, h1⟩ := h1
  obtain ⟨ao, n, ca, f, e0, hr0, hw0, hx0⟩ := open_row Tryd.underlying22 Tryd.underlying2 cellsI64 h0
  obtain ⟨bo, q, cb, g, e1, hr1, hw1, _⟩ := open_row Tryd.underlying23 Tryd.underlying3 cellsI h1
  simp only [Value.slice.injEq] at e0 e1
  obtain ⟨rfl, rfl, rfl⟩ := e0
  obtain ⟨rfl, rfl, rfl⟩ := e1
  by_cases hn : l0 = 0
  · subst hn
    exact soft_none hw hr1
  · have hl : l0 * 8 ≤ 140737488351232 := by
      rcases hx0 with ⟨_, e⟩ | ⟨el, rest, e, hlen⟩
      · omega
      · have hd0 : d0 = .slice el rest := e
        subst hd0
        have := sized_slice hsz (j := 0) rfl rfl Tryd.underlying22
        rw [bytesI64] at this
        simp only [reachBytes] at this
        omega
    exact soft_law hw hr0 hr1 (fun i hi => wf_i64 (hw0 i hi)) (by omega) hl
end Go.Proofs.YtonhnlahpfkalaaDoor
