import Derived.Test.YtilghknalbhacaaENX
import Derived.Test.YtilghknalbhacaaEnM
import Derived.Test.YtilghknalbhacaaWtRef2
namespace Go.Proofs.Ytilghknalbhacaa
open Go.RowKit
/-! The reference's Encode. -/
set_option maxRecDepth 100000 in
set_option maxHeartbeats 4000000 in
theorem refenc_bad {w : World} {x : WtD} (hx : WtR w x) {er : Int} (he : IsE x er) (h0 : er ≠ 0) :
    Calls Try.prog 20 #[.agg #[.int .i64 x.V, .int .i64 x.W, .int .i64 x.H, .int .i64 x.K, .int .i64 x.L, .int .i64 x.D, .int .i64 x.N, .int .i64 x.M, .int .i64 x.E.R, .int .i64 x.E.C, .slice x.E.O x.E.n x.E.c, .slice x.tO x.tn x.tc, .slice x.yO x.yn x.yc, .slice x.F.O x.F.n x.F.c, .int .i64 x.Q.R, .int .i64 x.Q.C, .slice x.Q.O x.Q.n x.Q.c, .slice x.mO x.mn x.mc]] w fun e w' => e = .returned (.tuple #[.slice none 0 0, .int .i64 er]) ∧ Below w.heap.size w w' := by
  obtain ⟨T, hT⟩ : ∃ T, T = wtA x := ⟨_, rfl⟩
  have hr := World.rowIs_list w (wtL x) 34
  have f1 := fresh_alloc w (.cells #[.int .i64 x.V, .int .i64 x.W, .int .i64 x.H, .int .i64 x.K, .int .i64 x.L, .int .i64 x.D, .int .i64 x.N, .int .i64 x.M, .int .i64 x.E.R, .int .i64 x.E.C, .slice x.E.O x.E.n x.E.c, .slice x.tO x.tn x.tc, .slice x.yO x.yn x.yc, .slice x.F.O x.F.n x.F.c, .int .i64 x.Q.R, .int .i64 x.Q.C, .slice x.Q.O x.Q.n x.Q.c, .slice x.mO x.mn x.mc] 34)
  have SL : Hid ((Try.prog.info? 34).map (·.size) = some T.toList.length) := by rw [hT]; exact sizeW
  have RG : Hid ((w.alloc (.cells #[.int .i64 x.V, .int .i64 x.W, .int .i64 x.H, .int .i64 x.K, .int .i64 x.L, .int .i64 x.D, .int .i64 x.N, .int .i64 x.M, .int .i64 x.E.R, .int .i64 x.E.C, .slice x.E.O x.E.n x.E.c, .slice x.tO x.tn x.tc, .slice x.yO x.yn x.yc, .slice x.F.O x.F.n x.F.c, .int .i64 x.Q.R, .int .i64 x.Q.C, .slice x.Q.O x.Q.n x.Q.c, .slice x.mO x.mn x.mc] 34)).rangeAt w.heap.size 0 T.toList) := by rw [hT]; exact row_range hr rfl
  have HCK : Hid (∀ z, Below w.heap.size w z → Calls Try.prog 24 #[.agg T] z fun e w' => e = .returned (.int .i64 er) ∧ Below z.heap.size z w') := fun z hz => by rw [hT]; exact check_wref (hx.fresh hz) er he
  have hne : (er != 0) = true := by simpa using h0
  clear hx hr hT he h0
  go_enter Try.func20, Try.ntmps20
  go_upto_region 1 with fail
  generalize w.alloc (.cells #[.int .i64 x.V, .int .i64 x.W, .int .i64 x.H, .int .i64 x.K, .int .i64 x.L, .int .i64 x.D, .int .i64 x.N, .int .i64 x.M, .int .i64 x.E.R, .int .i64 x.E.C, .slice x.E.O x.E.n x.E.c, .slice x.tO x.tn x.tc, .slice x.yO x.yn x.yc, .slice x.F.O x.F.n x.F.c, .int .i64 x.Q.R, .int .i64 x.Q.C, .slice x.Q.O x.Q.n x.Q.c, .slice x.mO x.mn x.mc] 34) = wa at *
  go_wp2_with (refine wpList_load_mid rfl 34 _ rfl w.heap.size 0 rfl T.toList _ RG.out Try.underlying34 rfl SL.out ?_)
  refine (HCK.out _ f1).mono ?_
  rintro e w1 ⟨rfl, f2⟩
  have F1 := hidd (fresh_trans f1 f2)
  clear f1 f2 HCK RG SL
  go_wp2
  go_ret2
  exact ⟨rfl, F1.out⟩
set_option maxRecDepth 100000 in
set_option maxHeartbeats 4000000 in
theorem refenc_ok {w : World} {x : WtD} (hx : WtR w x) (hz : WtZ x) (hm : x.may) (hp : WtP x) :
    Calls Try.prog 20 #[.agg #[.int .i64 x.V, .int .i64 x.W, .int .i64 x.H, .int .i64 x.K, .int .i64 x.L, .int .i64 x.D, .int .i64 x.N, .int .i64 x.M, .int .i64 x.E.R, .int .i64 x.E.C, .slice x.E.O x.E.n x.E.c, .slice x.tO x.tn x.tc, .slice x.yO x.yn x.yc, .slice x.F.O x.F.n x.F.c, .int .i64 x.Q.R, .int .i64 x.Q.C, .slice x.Q.O x.Q.n x.Q.c, .slice x.mO x.mn x.mc]] w fun e w' => ∃ u c, e = .returned (.tuple #[.slice u (fileL x).length c, .int .i64 0]) ∧ OwB w' w.heap.size (.slice u (fileL x).length c) (fileL x) ∧ Below w.heap.size w w' := by
  obtain ⟨T, hT⟩ : ∃ T, T = wtA x := ⟨_, rfl⟩
  have hr := World.rowIs_list w (wtL x) 34
  have f1 := fresh_alloc w (.cells #[.int .i64 x.V, .int .i64 x.W, .int .i64 x.H, .int .i64 x.K, .int .i64 x.L, .int .i64 x.D, .int .i64 x.N, .int .i64 x.M, .int .i64 x.E.R, .int .i64 x.E.C, .slice x.E.O x.E.n x.E.c, .slice x.tO x.tn x.tc, .slice x.yO x.yn x.yc, .slice x.F.O x.F.n x.F.c, .int .i64 x.Q.R, .int .i64 x.Q.C, .slice x.Q.O x.Q.n x.Q.c, .slice x.mO x.mn x.mc] 34)
  have SL : Hid ((Try.prog.info? 34).map (·.size) = some T.toList.length) := by rw [hT]; exact sizeW
  have RG : Hid ((w.alloc (.cells #[.int .i64 x.V, .int .i64 x.W, .int .i64 x.H, .int .i64 x.K, .int .i64 x.L, .int .i64 x.D, .int .i64 x.N, .int .i64 x.M, .int .i64 x.E.R, .int .i64 x.E.C, .slice x.E.O x.E.n x.E.c, .slice x.tO x.tn x.tc, .slice x.yO x.yn x.yc, .slice x.F.O x.F.n x.F.c, .int .i64 x.Q.R, .int .i64 x.Q.C, .slice x.Q.O x.Q.n x.Q.c, .slice x.mO x.mn x.mc] 34)).rangeAt w.heap.size 0 T.toList) := by rw [hT]; exact row_range hr rfl
  have HCK : Hid (∀ z, Below w.heap.size w z → Calls Try.prog 24 #[.agg T] z fun e w' => e = .returned (.int .i64 0) ∧ Below z.heap.size z w') := fun z hz => by rw [hT]; exact check_wref (hx.fresh hz) 0 (.inr (.inr ⟨hm, hp, rfl⟩))
  have HFI : Hid (∀ z, Below w.heap.size w z → Calls Try.prog 49 #[.agg T] z fun e w' => ∃ v', e = .returned v' ∧ OwB w' (z.heap.size + 1) v' (fileL x) ∧ Below z.heap.size z w') := fun z hzz => by rw [hT]; exact file_any (hx.fresh hzz) hz
  have hs : (w.alloc (.cells #[.int .i64 x.V, .int .i64 x.W, .int .i64 x.H, .int .i64 x.K, .int .i64 x.L, .int .i64 x.D, .int .i64 x.N, .int .i64 x.M, .int .i64 x.E.R, .int .i64 x.E.C, .slice x.E.O x.E.n x.E.c, .slice x.tO x.tn x.tc, .slice x.yO x.yn x.yc, .slice x.F.O x.F.n x.F.c, .int .i64 x.Q.R, .int .i64 x.Q.C, .slice x.Q.O x.Q.n x.Q.c, .slice x.mO x.mn x.mc] 34)).heap.size = w.heap.size + 1 := by simp
  clear hx hr hT hz hm hp
  go_enter Try.func20, Try.ntmps20
  go_upto_region 1 with fail
  generalize w.alloc (.cells #[.int .i64 x.V, .int .i64 x.W, .int .i64 x.H, .int .i64 x.K, .int .i64 x.L, .int .i64 x.D, .int .i64 x.N, .int .i64 x.M, .int .i64 x.E.R, .int .i64 x.E.C, .slice x.E.O x.E.n x.E.c, .slice x.tO x.tn x.tc, .slice x.yO x.yn x.yc, .slice x.F.O x.F.n x.F.c, .int .i64 x.Q.R, .int .i64 x.Q.C, .slice x.Q.O x.Q.n x.Q.c, .slice x.mO x.mn x.mc] 34) = wa at *
  go_wp2_with (refine wpList_load_mid rfl 34 _ rfl w.heap.size 0 rfl T.toList _ RG.out Try.underlying34 rfl SL.out ?_)
  refine (HCK.out _ f1).mono ?_
  rintro e w1 ⟨rfl, f2⟩
  have F1 := hidd (fresh_trans f1 f2)
  have RG1 : Hid (w1.rangeAt w.heap.size 0 T.toList) := fun j v h => fresh_cell f2 (RG.out j v h)
  have HS : Hid (w.heap.size ≤ w1.heap.size) := F1.out.size
  have HFJ := hidd (HFI.out w1 F1.out)
  clear f1 f2 HCK RG HFI hs
  go_wp2_with (refine wpList_load_mid rfl 34 _ rfl w.heap.size 0 rfl T.toList _ RG1.out Try.underlying34 rfl SL.out ?_)
  refine HFJ.out.mono ?_
  rintro e w2 ⟨v2, rfl, ho, f3⟩
  obtain ⟨p, uc, rfl, _⟩ := ho.rd
  have HO := hidd (ho.weaken (show w.heap.size ≤ w1.heap.size + 1 by have := HS.out; omega))
  have F2 := hidd (fresh_trans F1.out f3)
  clear ho f3 HFJ RG1 SL F1
  generalize hl : (fileL x).length = ln at *
  go_wp2
  go_ret2
  subst hl
  exact ⟨_, _, rfl, HO.out, F2.out⟩
end Go.Proofs.Ytilghknalbhacaa
namespace Go.Proofs.Ytilghknalbhacaa
open Go.RowKit
/-! What fits has no empty list. -/
theorem shp_pos {R C : Int} {n : Nat} (h : shp R C n = true) : 0 < n := by
  obtain ⟨h1, h2, h3, h4⟩ := shp_parts h
  rcases Nat.eq_zero_or_pos n with rfl | h5
  · simp only [beq_iff_eq] at h4
    rw [show ((0 : Nat) : Int) = 0 from rfl, Int.zero_ediv] at h4
    omega
  · exact h5
theorem half_pos {W H : Int} (h : W % (2 * H) = 0) (h1 : 1 ≤ H) (h2 : 2 ≤ W) : 1 ≤ W / H / 2 := by
  rw [Int.ediv_ediv_of_nonneg (by omega), Int.mul_comm]
  have h3 := Int.emod_add_mul_ediv W (2 * H)
  rw [h] at h3
  rcases Int.lt_or_le (W / (2 * H)) 1 with h4 | h4
  · have h5 : 0 ≤ W / (2 * H) := Int.ediv_nonneg (by omega) (by omega)
    have h6 : W / (2 * H) = 0 := by omega
    rw [h6, Int.mul_zero] at h3
    omega
  · exact h4
theorem WtP.z {x : WtD} (hm : x.may) (hp : WtP x) (hb : WtB x) : WtZ x := by
  obtain ⟨_, ⟨w0, w1⟩, ⟨h0, h1⟩, hd, _, _, ⟨l0, l1⟩, _, _, ⟨m0, m1⟩⟩ := hm
  have t1 := hp.T.1
  have f1 : (x.F.n : Int) = x.W := hp.F.1
  have y1 := hp.yn
  have q1 := hp.mn
  have h9 := half_pos hd h0 w0
  exact ⟨hb, shp_pos hp.E.1.1, by omega, by omega, shp_pos hp.Q.1.1, by omega, by omega, fun k hk => shp_pos (hp.m k hk).1.1⟩
end Go.Proofs.Ytilghknalbhacaa
