import Derived.Test.YtlbmgknlbhakoaaTxJ
namespace Go.Proofs.Ytlbmgknlbhakoaa
open Go.RowKit
/-! fixed: the document's example of the stop string bc. -/
def bcS : List ByteArray := [⟨#[98, 99]⟩]
theorem bc_may : MaySt bcS := by
  refine ⟨by simp [bcS], fun i hi => ?_⟩
  obtain rfl : i = 0 := by simp [bcS] at hi; omega
  decide
theorem bc_sts : bcS.map bys = [[98, 99]] := by decide
theorem sm_1 : smD.pc 1 = [97] := smD.pc_base (i := 0) (by simp [smD])
theorem sm_2 : smD.pc 2 = [98] := smD.pc_base (i := 1) (by simp [smD])
theorem bc_com1 : comT smD [[98, 99]] [] [1, 2] = ([97, 98], false) := by
  rw [comT_cons, if_neg (by decide), sm_1, if_neg (by decide), comT_cons, if_neg (by decide), sm_2, if_neg (by decide)]
  decide
theorem bc_com2 : comT smD [[98, 99]] [98] [2] = ([98, 98], false) := by
  rw [comT_cons, if_neg (by decide), sm_2, if_neg (by decide)]
  decide
theorem bc_f1 : fdO smD [[98, 99]] [] false [1, 2] = [97] ∧ fdX smD [[98, 99]] [] false [1, 2] = [98] ∧ fdE smD [[98, 99]] [] false [1, 2] = false := by
  simp only [fdO, fdX, fdE, bc_com1]
  decide
theorem bc_f2 : fdO smD [[98, 99]] [98] false [2] = [98] ∧ fdX smD [[98, 99]] [98] false [2] = [98] ∧ fdE smD [[98, 99]] [98] false [2] = false := by
  simp only [fdO, fdX, fdE, bc_com2]
  decide
theorem one_rd (w : World) (t : TypeId) (v : Value) (f : Nat → Value) (h : f 0 = v) : RdA (w.alloc (.cells #[v] t)) (some ⟨w.heap.size, 0, none⟩) 1 1 1 f := by
  refine ⟨Nat.le_refl _, by simp [maxLen], fun _ => ⟨_, _, rfl, fun j hj => ?_⟩⟩
  obtain rfl : j = 0 := by omega
  rw [h]; exact new_cell _ _ _
theorem two_rd (w : World) (t : TypeId) (v u : Value) (f : Nat → Value) (h : f 0 = v) (h2 : f 1 = u) : RdA (w.alloc (.cells #[v, u] t)) (some ⟨w.heap.size, 0, none⟩) 1 2 2 f := by
  refine ⟨Nat.le_refl _, by simp [maxLen], fun _ => ⟨_, _, rfl, fun j hj => ?_⟩⟩
  obtain rfl | rfl : j = 0 ∨ j = 1 := by omega
  · rw [h]; simp
  · rw [h2]; simp
theorem StA.fresh {w w' : World} {S : Nat} {K : Nat → Prop} {d : VD} {sts : List (List Int)} {wv : Value} {x : List Int} {o : Bool} (h : StA w S K d sts wv x o) (f : Below w.heap.size w w') : StA w' S K d sts wv x o :=
  ⟨h.p.fresh f, Own.kept h.wt f, h.off, h.wS⟩
theorem Fed.below {w w' : World} {S B : Nat} {K : Nat → Prop} {d : VD} {sts : List (List Int)} {wv v : Value} {x : List Int} {o : Bool} {ts : List Nat} (h : Fed w S K d sts wv x o ts v w') {a : World} (hb : Below B a w) (hB : B ≤ w.heap.size) (hS : B ≤ S) (hw : ∀ b, wv.ownBlock = some b → B ≤ b) : Below B a w' :=
  h.chg.below hb hB (fun b e => by
    rcases e with e | e
    · omega
    · exact hw b e)
set_option maxRecDepth 100000 in
set_option maxHeartbeats 4000000 in
theorem fixed_any (w : World) : Calls Try.prog 10 #[] w fun e w' => e = .returned (.bool true) ∧ Below w.heap.size w w' := by
  have hcst : Cst smD [[98, 99]] := ⟨smD_right, by rw [← bc_sts]; exact maySt_ok bc_may, smD_byt⟩
  have HCST := hidd hcst
  have HF1 := hidd bc_f1
  have HF2 := hidd bc_f2
  clear hcst
  go_enter Try.func10, Try.ntmps10
  go_wp2_with fail
  refine (small_any w).mono ?_
  rintro e w1 ⟨gb, rfl, rb, f1⟩
  have fA := fresh_alloc w1 (.cells #[.string ⟨#[98, 99]⟩] 9)
  have hs := one_rd w1 9 (.string ⟨#[98, 99]⟩) (fun i => .string (bcS.getD i ByteArray.empty)) rfl
  have hp : RdA (w1.alloc (.cells #[.string ⟨#[98, 99]⟩] 9)) none 2 smD.np 0 (tcs smD.P smD.Q) := ⟨Nat.le_refl _, by simp [maxLen], fun h => absurd h (by simp [smD])⟩
  have HN := hidd (new_ok (rb.fresh fA) hp smD_right hs bc_may)
  clear rb hs hp
  go_wp2_with fail
  refine HN.out.mono ?_
  rintro e w2 ⟨S, K, rfl, hS, f2, hSl, hKl⟩
  rw [bc_sts] at hS
  have hF2 := fresh_trans (fresh_trans f1 fA) f2
  have hsz2 := (fresh_trans f1 fA).size
  clear fA f1 f2 HN
  have fB := fresh_alloc w2 (.cells #[.int .i64 1, .int .i64 2] 3)
  have hk := two_rd w2 3 (.int .i64 1) (.int .i64 2) (fun i => .int .i64 (([1, 2] : List Nat).getD i 0 : Nat)) rfl rfl
  have hSlt := hS.p.lt
  have HFD := hidd (feed_ok HCST.out (hS.fresh fB) byt_nil (by simp) (ts := [1, 2]) hk (fun b off e => by cases e; exact ⟨by simp [Value.ownBlock], by omega⟩) (fun i hi => by
    have hi : i < 2 := hi
    obtain rfl | rfl : i = 0 ∨ i = 1 := by omega
    all_goals decide) (by decide))
  have hF3 := fresh_trans hF2 fB
  have hzB := fB.size
  have hwS : w.heap.size ≤ S := by omega
  clear hk hS
  go_wp2_with fail
  refine HFD.out.mono ?_
  rintro e w3 ⟨v3, rfl, hfd⟩
  have hB3 := hfd.below hF3 hF3.size hwS (fun b hb => by simp [Value.ownBlock] at hb)
  have ho3 := hfd.out
  obtain ⟨wv3, hS3, _, hblk3⟩ := hfd.st
  rw [HF1.out.1] at ho3
  rw [HF1.out.2.1, HF1.out.2.2] at hS3
  obtain ⟨a3, k3, rfl, r3⟩ := ho3.rda
  have hbl3 := hfd.blk
  have hz3 := hfd.chg.size
  clear hfd HFD fB hF2 hF3
  have fC := fresh_alloc w3 (.cells #[.int .i64 2] 3)
  have hk := one_rd w3 3 (.int .i64 2) (fun i => .int .i64 (([2] : List Nat).getD i 0 : Nat)) rfl
  have hSlt3 := hS3.p.lt
  have hwt := hS3.wt
  have HFD := hidd (feed_ok HCST.out (hS3.fresh fC) (show Byt [98] from fun x hx => by simp at hx; omega) (by simp) (ts := [2]) hk (fun b off e => by
    cases e
    refine ⟨fun e => ?_, by omega⟩
    have := (Own.lt hwt _ e).2
    omega) (fun i hi => by
    have hi : i < 1 := hi
    obtain rfl : i = 0 := by omega
    decide) (by decide))
  have hB3' := hB3.trans (fC.mono hB3.size)
  have r3' := r3.fresh fC
  have hb3 : ∀ b, wv3.ownBlock = some b → (w2.alloc (.cells #[.int .i64 1, .int .i64 2] 3)).heap.size ≤ b ∧ (Value.slice a3 ([97] : List Int).length k3).ownBlock ≠ some b := hblk3 rfl
  have hb3w : ∀ b, wv3.ownBlock = some b → w.heap.size ≤ b := fun b hb => by have := (hb3 b hb).1; omega
  have hzC := hB3'.size
  have EA := hidd (Own.lt ho3)
  clear hk hS3 hwt r3 hB3
  go_wp2_with fail
  refine HFD.out.mono ?_
  rintro e w4 ⟨v4, rfl, hfd⟩
  have hB4 := hfd.below hB3' hzC hwS hb3w
  have ho4 := hfd.out
  obtain ⟨wv4, hS4, _, _⟩ := hfd.st
  rw [HF2.out.1] at ho4
  rw [HF2.out.2.1, HF2.out.2.2] at hS4
  obtain ⟨a4, k4, rfl, r4⟩ := ho4.rda
  have r34 : RdA w4 a3 1 ([97] : List Int).length k3 (fun j => .int .u8 (([97] : List Int).getD j 0)) := ⟨r3'.le, r3'.top, fun h0 => by
    obtain ⟨b, off, e, hc⟩ := r3'.at_ h0
    refine ⟨b, off, e, fun j hj => hfd.chg.cell (hc j hj) (fun e2 => ?_)⟩
    subst e
    rcases e2 with e2 | e2
    · rcases hbl3 b rfl with e3 | e3
      · simp [Value.ownBlock] at e3
      · omega
    · exact (hb3 b e2).2 rfl⟩
  have cv3 : (convert 22 9 (.slice a3 1 k3)).run Try.prog w4 = .ok (.string ⟨#[97]⟩) w4 := conv_str r34
  have cv4 : (convert 22 9 (.slice a4 1 k4)).run Try.prog w4 = .ok (.string ⟨#[98]⟩) w4 := conv_str r4
  have HOV := hidd (over_any hS4.p)
  clear hfd HFD r34 r3' r4 ho4 hS4 hb3
  go_wp2_with fail
  refine HOV.out.mono ?_
  rintro e w5 ⟨rfl, hw⟩
  rw [hw]
  clear hw
  go_wp2
  go_ret
  exact ⟨rfl, hB4⟩
end Go.Proofs.Ytlbmgknlbhakoaa
