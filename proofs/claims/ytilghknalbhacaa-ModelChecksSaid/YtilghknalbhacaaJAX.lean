import Derived.Test.YtilghknalbhacaaJAW
import Derived.Test.YtilghknalbhacaaLFX
import Derived.Test.YtilghknalbhacaaWtRef2
namespace Go.Proofs.Ytilghknalbhacaa
open Go.RowKit
/-! A nil model. -/
set_option maxRecDepth 100000 in
set_option maxHeartbeats 4000000 in
theorem mconfig_nil (W : World) : Calls Try.prog 25 #[.pointer none] W fun e w' => e = .returned (.agg #[.int .i64 0, .int .i64 0, .int .i64 0, .int .i64 0, .int .i64 0, .int .i64 0, .int .i64 0, .int .i64 0]) ∧ Below W.heap.size W w' := by
  go_enter Try.func25, Try.ntmps25
  go_wp2
  refine bodyPost_ret (v := .agg #[.int .i64 0, .int .i64 0, .int .i64 0, .int .i64 0, .int .i64 0, .int .i64 0, .int .i64 0, .int .i64 0]) ?_ ?_ ?_
  · exact results_cell_row Try.results25 _ _ W.heap.size 23 _ (0, 0) _ rfl (heap_new W (.cells #[.int .i64 0, .int .i64 0, .int .i64 0, .int .i64 0, .int .i64 0, .int .i64 0, .int .i64 0, .int .i64 0] 23)) Try.underlying23 rfl sizeC
  · rfl
  · exact ⟨rfl, fresh_alloc W _⟩
set_option maxRecDepth 100000 in
set_option maxHeartbeats 4000000 in
theorem mweights_nil (W : World) : Calls Try.prog 15 #[.pointer none] W fun e w' => e = .returned (.agg #[.int .i64 0, .int .i64 0, .int .i64 0, .int .i64 0, .int .i64 0, .int .i64 0, .int .i64 0, .int .i64 0, .int .i64 0, .int .i64 0, .slice none 0 0, .slice none 0 0, .slice none 0 0, .slice none 0 0, .int .i64 0, .int .i64 0, .slice none 0 0, .slice none 0 0]) ∧ Below W.heap.size W w' := by
  go_enter Try.func15, Try.ntmps15
  go_wp2
  refine bodyPost_ret (v := .agg #[.int .i64 0, .int .i64 0, .int .i64 0, .int .i64 0, .int .i64 0, .int .i64 0, .int .i64 0, .int .i64 0, .int .i64 0, .int .i64 0, .slice none 0 0, .slice none 0 0, .slice none 0 0, .slice none 0 0, .int .i64 0, .int .i64 0, .slice none 0 0, .slice none 0 0]) ?_ ?_ ?_
  · exact results_cell_row Try.results15 _ _ W.heap.size 34 _ (0, 0) _ rfl (heap_new W (.cells #[.int .i64 0, .int .i64 0, .int .i64 0, .int .i64 0, .int .i64 0, .int .i64 0, .int .i64 0, .int .i64 0, .int .i64 0, .int .i64 0, .slice none 0 0, .slice none 0 0, .slice none 0 0, .slice none 0 0, .int .i64 0, .int .i64 0, .slice none 0 0, .slice none 0 0] 34)) Try.underlying34 rfl sizeW
  · rfl
  · exact ⟨rfl, fresh_alloc W _⟩
set_option maxRecDepth 100000 in
theorem wt0_rd (w : World) : WtR w wt0 := by
  have n : ∀ (sz : Nat) (cs : Nat → Value), RdA w none sz 0 0 cs := fun sz cs => ⟨Nat.le_refl _, Nat.zero_le _, fun h => absurd h (by omega)⟩
  exact ⟨⟨n _ _, fun i hi => absurd hi (by show ¬ i < 0; omega)⟩, n _ _, ⟨n _ _, fun i hi => absurd hi (by show ¬ i < 0; omega)⟩, ⟨n _ _, fun i hi => absurd hi (by show ¬ i < 0; omega)⟩, Nat.le_refl _, Nat.zero_le _, fun h => absurd h (by show ¬ 0 < 0; omega), fun k hk => absurd hk (by show ¬ k < 0; omega), Nat.le_refl _, Nat.zero_le _, fun h => absurd h (by show ¬ 0 < 0; omega), fun k hk => absurd hk (by show ¬ k < 0; omega)⟩
theorem Sm.refl (x : WtD) : Sm x x := ⟨⟨⟨rfl, rfl, rfl, rfl, rfl, rfl, rfl, rfl⟩, ⟨rfl, rfl, rfl, rfl⟩, ⟨rfl, rfl, rfl, rfl⟩, ⟨rfl, rfl⟩, ⟨rfl, rfl, rfl⟩, rfl, rfl⟩, fun _ _ => ⟨⟨rfl, rfl⟩, ⟨rfl, rfl⟩, fun _ _ => ⟨rfl, rfl, rfl, rfl⟩, rfl⟩, fun _ _ => ⟨rfl, rfl, rfl, rfl⟩⟩
end Go.Proofs.Ytilghknalbhacaa
namespace Go.Proofs.Ytilghknalbhacaa
open Go.RowKit
theorem eq00 (w : World) : Calls Try.prog 16 #[.agg (wtA wt0), .agg (wtA wt0)] w fun e w' => e = .returned (.bool true) ∧ Below w.heap.size w w' := eqW_v (wt0_rd w) (wt0_rd w) (Sm.refl wt0)
theorem wt0_A : wtA wt0 = #[.int .i64 0, .int .i64 0, .int .i64 0, .int .i64 0, .int .i64 0, .int .i64 0, .int .i64 0, .int .i64 0, .int .i64 0, .int .i64 0, .slice none 0 0, .slice none 0 0, .slice none 0 0, .slice none 0 0, .int .i64 0, .int .i64 0, .slice none 0 0, .slice none 0 0] := rfl
theorem eq0_any (w : World) : Calls Try.prog 16 #[.agg #[.int .i64 0, .int .i64 0, .int .i64 0, .int .i64 0, .int .i64 0, .int .i64 0, .int .i64 0, .int .i64 0, .int .i64 0, .int .i64 0, .slice none 0 0, .slice none 0 0, .slice none 0 0, .slice none 0 0, .int .i64 0, .int .i64 0, .slice none 0 0, .slice none 0 0], .agg #[.int .i64 0, .int .i64 0, .int .i64 0, .int .i64 0, .int .i64 0, .int .i64 0, .int .i64 0, .int .i64 0, .int .i64 0, .int .i64 0, .slice none 0 0, .slice none 0 0, .slice none 0 0, .slice none 0 0, .int .i64 0, .int .i64 0, .slice none 0 0, .slice none 0 0]] w fun e w' => e = .returned (.bool true) ∧ Below w.heap.size w w' := by
  have h := eq00 w
  rw [wt0_A] at h
  exact h
end Go.Proofs.Ytilghknalbhacaa
namespace Go.Proofs.Ytilghknalbhacaa
open Go.RowKit
/-! New of weights that do not fit; what no model says of itself. -/
set_option maxRecDepth 20000 in
set_option maxHeartbeats 4000000 in
theorem new_bad {w : World} {x : WtD} (hx : WtR w x) (er : Int) (he : IsE x er) (h0 : er ≠ 0) :
    Calls Try.prog 23 #[.agg #[.int .i64 x.V, .int .i64 x.W, .int .i64 x.H, .int .i64 x.K, .int .i64 x.L, .int .i64 x.D, .int .i64 x.N, .int .i64 x.M, .int .i64 x.E.R, .int .i64 x.E.C, .slice x.E.O x.E.n x.E.c, .slice x.tO x.tn x.tc, .slice x.yO x.yn x.yc, .slice x.F.O x.F.n x.F.c, .int .i64 x.Q.R, .int .i64 x.Q.C, .slice x.Q.O x.Q.n x.Q.c, .slice x.mO x.mn x.mc]] w fun e w' => e = .returned (.tuple #[.pointer none, .int .i64 er]) ∧ Below w.heap.size w w' := by
  have HX := hidd hx
  have HE := hidd he
  have hF := fresh_alloc w (.cells #[.int .i64 x.V, .int .i64 x.W, .int .i64 x.H, .int .i64 x.K, .int .i64 x.L, .int .i64 x.D, .int .i64 x.N, .int .i64 x.M, .int .i64 x.E.R, .int .i64 x.E.C, .slice x.E.O x.E.n x.E.c, .slice x.tO x.tn x.tc, .slice x.yO x.yn x.yc, .slice x.F.O x.F.n x.F.c, .int .i64 x.Q.R, .int .i64 x.Q.C, .slice x.Q.O x.Q.n x.Q.c, .slice x.mO x.mn x.mc] 34)
  have hG := heap_new w (.cells #[.int .i64 x.V, .int .i64 x.W, .int .i64 x.H, .int .i64 x.K, .int .i64 x.L, .int .i64 x.D, .int .i64 x.N, .int .i64 x.M, .int .i64 x.E.R, .int .i64 x.E.C, .slice x.E.O x.E.n x.E.c, .slice x.tO x.tn x.tc, .slice x.yO x.yn x.yc, .slice x.F.O x.F.n x.F.c, .int .i64 x.Q.R, .int .i64 x.Q.C, .slice x.Q.O x.Q.n x.Q.c, .slice x.mO x.mn x.mc] 34)
  clear hx he
  go_enter Try.func23, Try.ntmps23
  go_wp2_with fail
  have HF := hidd hF
  clear hF hG
  generalize w.alloc (.cells #[.int .i64 x.V, .int .i64 x.W, .int .i64 x.H, .int .i64 x.K, .int .i64 x.L, .int .i64 x.D, .int .i64 x.N, .int .i64 x.M, .int .i64 x.E.R, .int .i64 x.E.C, .slice x.E.O x.E.n x.E.c, .slice x.tO x.tn x.tc, .slice x.yO x.yn x.yc, .slice x.F.O x.F.n x.F.c, .int .i64 x.Q.R, .int .i64 x.Q.C, .slice x.Q.O x.Q.n x.Q.c, .slice x.mO x.mn x.mc] 34) = w1 at *
  refine (check_any (HX.out.fresh HF.out) er HE.out).mono ?_
  rintro e w2 ⟨rfl, h2⟩
  have e0 : (er != 0) = true := by simp [h0]
  clear HX HE
  go_wp2
  go_ret2
  exact ⟨rfl, fresh_trans HF.out h2⟩
end Go.Proofs.Ytilghknalbhacaa
namespace Go.Proofs.Ytilghknalbhacaa
open Go.RowKit
/-! ModelChecks: the law. -/
theorem Sm.ise {x y : WtD} (h : Sm x y) {er : Int} (he : IsE x er) : IsE y er := by
  rcases he with ⟨h1, h2⟩ | ⟨h1, h2, h3⟩ | ⟨h1, h2, h3⟩
  · exact .inl ⟨fun k => h1 (h.symm.may k), h2⟩
  · exact .inr (.inl ⟨h.may h1, fun k => h2 (h.symm.wtp k), h3⟩)
  · exact .inr (.inr ⟨h.may h1, h.wtp h2, h3⟩)
theorem ise_any (x : WtD) : ∃ er, IsE x er := by
  by_cases hm : x.may
  · by_cases hp : WtP x
    · exact ⟨0, .inr (.inr ⟨hm, hp, rfl⟩)⟩
    · exact ⟨41, .inr (.inl ⟨hm, hp, rfl⟩)⟩
  · exact ⟨40, .inl ⟨hm, rfl⟩⟩
set_option maxRecDepth 100000 in
set_option maxHeartbeats 8000000 in
theorem checks_ok {w : World} {x : WtD} (h : WtR w x) (hb : WtB x) (he : IsE x 0) :
    Calls Try.prog 6 #[.agg #[.int .i64 x.V, .int .i64 x.W, .int .i64 x.H, .int .i64 x.K, .int .i64 x.L, .int .i64 x.D, .int .i64 x.N, .int .i64 x.M, .int .i64 x.E.R, .int .i64 x.E.C, .slice x.E.O x.E.n x.E.c, .slice x.tO x.tn x.tc, .slice x.yO x.yn x.yc, .slice x.F.O x.F.n x.F.c, .int .i64 x.Q.R, .int .i64 x.Q.C, .slice x.Q.O x.Q.n x.Q.c, .slice x.mO x.mn x.mc]] w fun e w' => e = .returned (.bool true) ∧ Below w.heap.size w w' := by
  obtain ⟨T, hT⟩ : ∃ T, T = wtA x := ⟨_, rfl⟩
  have f0 := fresh_alloc w (.cells #[.int .i64 x.V, .int .i64 x.W, .int .i64 x.H, .int .i64 x.K, .int .i64 x.L, .int .i64 x.D, .int .i64 x.N, .int .i64 x.M, .int .i64 x.E.R, .int .i64 x.E.C, .slice x.E.O x.E.n x.E.c, .slice x.tO x.tn x.tc, .slice x.yO x.yn x.yc, .slice x.F.O x.F.n x.F.c, .int .i64 x.Q.R, .int .i64 x.Q.C, .slice x.Q.O x.Q.n x.Q.c, .slice x.mO x.mn x.mc] 34)
  have HBX : Hid ((w.alloc (.cells #[.int .i64 x.V, .int .i64 x.W, .int .i64 x.H, .int .i64 x.K, .int .i64 x.L, .int .i64 x.D, .int .i64 x.N, .int .i64 x.M, .int .i64 x.E.R, .int .i64 x.E.C, .slice x.E.O x.E.n x.E.c, .slice x.tO x.tn x.tc, .slice x.yO x.yn x.yc, .slice x.F.O x.F.n x.F.c, .int .i64 x.Q.R, .int .i64 x.Q.C, .slice x.Q.O x.Q.n x.Q.c, .slice x.mO x.mn x.mc] 34)).rowIs w.heap.size 34 18 (wtc x)) := World.rowIs_list w (wtL x) 34
  have HX := hidd (h.fresh f0)
  have F0 := hidd f0
  have HE := hidd he
  have HB := hidd hb
  have HT := hidd hT
  have SL : Hid ((Try.prog.info? 34).map (·.size) = some T.toList.length) := by rw [hT]; exact sizeW
  clear h f0 he hb hT
  go_enter Try.func6, Try.ntmps6
  go_upto_region 1 with fail
  generalize w.alloc (.cells #[.int .i64 x.V, .int .i64 x.W, .int .i64 x.H, .int .i64 x.K, .int .i64 x.L, .int .i64 x.D, .int .i64 x.N, .int .i64 x.M, .int .i64 x.E.R, .int .i64 x.E.C, .slice x.E.O x.E.n x.E.c, .slice x.tO x.tn x.tc, .slice x.yO x.yn x.yc, .slice x.F.O x.F.n x.F.c, .int .i64 x.Q.R, .int .i64 x.Q.C, .slice x.Q.O x.Q.n x.Q.c, .slice x.mO x.mn x.mc] 34) = w0 at *
  have RGX : Hid (∀ z, Below w0.heap.size w0 z → z.rangeAt w.heap.size 0 T.toList) := fun z hz => by rw [HT.out]; exact row_range (L := wtL x) (row_fresh HBX.out hz) rfl
  have HCPY : Hid (∀ z, Below w0.heap.size w0 z → Calls Try.prog 18 #[.agg T] z fun e w' => ∃ y, e = .returned (.agg (wtA y)) ∧ Cpy z w' x y) := fun z hz => by rw [HT.out]; exact copyW_any (HX.out.fresh hz) HB.out
  have HM : Hid x.may := by
    rcases HE.out with ⟨_, h2⟩ | ⟨_, _, h3⟩ | ⟨h1, _, _⟩
    · cases h2
    · cases h3
    · exact h1
  have HP : Hid (WtP x) := by
    rcases HE.out with ⟨_, h2⟩ | ⟨_, _, h3⟩ | ⟨_, h2, _⟩
    · cases h2
    · cases h3
    · exact h2
  go_upto_region 2 with (go_at_call 11; refine (works_any _).mono ?_; rintro e w1 ⟨rfl, f1⟩; have F1 := hidd f1; clear f1)
  have RG1 := hidd (RGX.out w1 F1.out)
  have HCP := hidd (HCPY.out w1 F1.out)
  go_upto_region 3 with (first
    | refine wpList_load_mid rfl 34 _ rfl w.heap.size 0 rfl T.toList _ RG1.out Try.underlying34 rfl SL.out ?_
    | (go_at_call 18; refine HCP.out.mono ?_; rintro e w2 ⟨y, rfl, hc⟩; have HC := hidd hc; clear hc)
    | (refine wpList_store_row rfl 34 _ _ rfl w2.heap.size (wtA y) rfl rfl 34 _ (heap_new _ _) sizeW rfl (wtA_one _) ?_))
  try rw [World.setRow_alloc_new]
  try simp only [Act.put]
  have f3 := fresh_alloc w2 (.cells (wtA y) 34)
  have HY3 := hidd ((HC.out.wtr (HX.out.fresh F1.out)).fresh f3)
  have HSM := hidd HC.out.sm
  have F3 := hidd (fresh_trans (fresh_trans F1.out HC.out.low) f3)
  have HR3 : Hid ((w2.alloc (.cells (wtA y) 34)).rowIs w2.heap.size 34 18 (wtc y)) := World.rowIs_list w2 (wtL y) 34
  clear f3 HC HCP RG1 F1
  generalize (w2.alloc (.cells (wtA y) 34)) = w3 at *
  generalize w2.heap.size = b2 at *
  obtain ⟨Ty, hTy⟩ : ∃ T, T = wtA y := ⟨_, rfl⟩
  have RGY : Hid (∀ z, Below w3.heap.size w3 z → z.rangeAt b2 0 Ty.toList) := fun z hz => by rw [hTy]; exact row_range (L := wtL y) (row_fresh HR3.out hz) rfl
  have SLY : Hid ((Try.prog.info? 34).map (·.size) = some Ty.toList.length) := by rw [hTy]; exact sizeW
  have HCK : Hid (Calls Try.prog 22 #[.agg Ty] w3 fun e w' => e = .returned (.int .i64 0) ∧ Below w3.heap.size w3 w') := by rw [hTy]; exact check_any HY3.out 0 (HSM.out.ise HE.out)
  have HEQ : Hid (∀ z, Below w3.heap.size w3 z → Calls Try.prog 16 #[.agg Ty, .agg T] z fun e w' => e = .returned (.bool true) ∧ Below z.heap.size z w') := fun z hz => by rw [hTy, HT.out]; exact eqW_v ((HX.out.fresh F3.out).fresh hz) (HY3.out.fresh hz) HSM.out
  have HNW : Hid (∀ z, Below w3.heap.size w3 z → Calls Try.prog 23 #[.agg Ty] z fun e w' => ∃ y' g, e = .returned (.tuple #[.pointer (some ⟨g, 0, none⟩), .int .i64 0]) ∧ Mdl w' g y y' ∧ z.heap.size ≤ g ∧ Below z.heap.size z w') := fun z hz => by rw [hTy]; exact new_ok (HY3.out.fresh hz) (HSM.out.may HM.out) (HSM.out.wtp HP.out)
  have RG3 := hidd (RGY.out w3 (Below.refl _ _))
  clear hTy
  go_upto_region 4 with (first
    | refine wpList_load_mid rfl 34 _ rfl b2 0 rfl Ty.toList _ RG3.out Try.underlying34 rfl SLY.out ?_
    | (go_at_call 22; refine HCK.out.mono ?_; rintro e w4 ⟨rfl, f4⟩; have F4 := hidd f4; clear f4))
  have RG4 := hidd (RGY.out w4 F4.out)
  go_upto_region 5 with (first
    | refine wpList_load_mid rfl 34 _ rfl b2 0 rfl Ty.toList _ RG4.out Try.underlying34 rfl SLY.out ?_
    | (go_at_call 23; refine (HNW.out _ F4.out).mono ?_; rintro e w5 ⟨y', g, rfl, hmd, _, f5⟩; have HMD := hidd hmd; clear hmd; have F5 := hidd (fresh_trans F4.out f5); clear f5))
  have RG5 := hidd (RGX.out w5 (fresh_trans F3.out F5.out))
  have HRC : Hid (Calls Try.prog 24 #[.agg T] w5 fun e w' => e = .returned (.int .i64 0) ∧ Below w5.heap.size w5 w') := by rw [HT.out]; exact check_wref (HX.out.fresh (fresh_trans F3.out F5.out)) 0 HE.out
  go_upto_region 6 with (first
    | refine wpList_load_mid rfl 34 _ rfl w.heap.size 0 rfl T.toList _ RG5.out Try.underlying34 rfl SL.out ?_
    | (go_at_call 24; refine HRC.out.mono ?_; rintro e w6 ⟨rfl, f6⟩; have F6 := hidd (fresh_trans F5.out f6); have G56 := hidd f6; clear f6))
  have RG6 := hidd (RGX.out w6 (fresh_trans F3.out F6.out))
  have RG6' := hidd (RGY.out w6 F6.out)
  have HEQ6 := hidd (HEQ.out w6 F6.out)
  clear HEQ HNW HCK HRC RG3 RG4 RG5
  go_upto_region 7 with (first
    | refine wpList_load_mid rfl 34 _ rfl b2 0 rfl Ty.toList _ RG6'.out Try.underlying34 rfl SLY.out ?_
    | refine wpList_load_mid rfl 34 _ rfl w.heap.size 0 rfl T.toList _ RG6.out Try.underlying34 rfl SL.out ?_
    | (go_at_call 16; refine HEQ6.out.mono ?_; rintro e w7 ⟨rfl, f7⟩; have F7 := hidd (fresh_trans F6.out f7); have G67 := hidd f7; clear f7))
  have FX := hidd (fresh_trans F3.out F7.out)
  have HMD7 := hidd ((HMD.out.fresh G56.out).fresh G67.out)
  have HB7 := hidd (WtP.b ((HMD.out.sm).may (HSM.out.may HM.out)) ((HMD.out.sm).wtp (HSM.out.wtp HP.out)))
  have HCFG := hidd (mconfig_any HMD7.out)
  clear HMD RG6 RG6' HEQ6 G56 G67 RGY SLY HR3 HY3 F3 F4 F5 F6
  have hcf := HSM.out.bs.cfg
  rw [hcf.1, hcf.2.1, hcf.2.2.1, hcf.2.2.2.1, hcf.2.2.2.2.1, hcf.2.2.2.2.2.1, hcf.2.2.2.2.2.2.1, hcf.2.2.2.2.2.2.2] at HCFG
  clear hcf
  go_upto_region 10 with (go_at_call 25; refine HCFG.out.mono ?_; rintro e w8 ⟨rfl, f8⟩; have F8 := hidd f8; clear f8)
  have HC9 := hidd (heap_new w8 (.cells #[.int .i64 x.V, .int .i64 x.W, .int .i64 x.H, .int .i64 x.K, .int .i64 x.L, .int .i64 x.D, .int .i64 x.N, .int .i64 x.M] 23))
  have f9 := fresh_alloc w8 (.cells #[.int .i64 x.V, .int .i64 x.W, .int .i64 x.H, .int .i64 x.K, .int .i64 x.L, .int .i64 x.D, .int .i64 x.N, .int .i64 x.M] 23)
  have F9 := hidd (fresh_trans F8.out f9)
  have HR9 : Hid ((w8.alloc (.cells #[.int .i64 x.V, .int .i64 x.W, .int .i64 x.H, .int .i64 x.K, .int .i64 x.L, .int .i64 x.D, .int .i64 x.N, .int .i64 x.M] 23)).rowIs w8.heap.size 23 8 (fun i => ([.int .i64 x.V, .int .i64 x.W, .int .i64 x.H, .int .i64 x.K, .int .i64 x.L, .int .i64 x.D, .int .i64 x.N, .int .i64 x.M] : List Value).getD i undef)) := World.rowIs_list w8 [.int .i64 x.V, .int .i64 x.W, .int .i64 x.H, .int .i64 x.K, .int .i64 x.L, .int .i64 x.D, .int .i64 x.N, .int .i64 x.M] 23
  clear f9 F8 HC9 HCFG
  generalize (w8.alloc (.cells #[.int .i64 x.V, .int .i64 x.W, .int .i64 x.H, .int .i64 x.K, .int .i64 x.L, .int .i64 x.D, .int .i64 x.N, .int .i64 x.M] 23)) = w9 at *
  generalize w8.heap.size = cb at *
  have HWT := hidd (mweights_any (HMD7.out.fresh F9.out) HB7.out)
  go_upto_region 11 with (first
    | (go_at_call 15; refine HWT.out.mono ?_; rintro e w10 ⟨z, rfl, hzr, hzs, f10⟩; have HZR := hidd hzr; have HZS := hidd (HSM.out.trans hzs); have F10 := hidd f10; clear hzr hzs f10)
    | (refine wpList_store_row rfl 34 _ _ rfl w10.heap.size (wtA z) rfl rfl 34 _ (heap_new _ _) sizeW rfl (wtA_one _) ?_))
  try rw [World.setRow_alloc_new]
  try simp only [Act.put]
  have f11 := fresh_alloc w10 (.cells (wtA z) 34)
  have HR11 : Hid ((w10.alloc (.cells (wtA z) 34)).rowIs w10.heap.size 34 18 (wtc z)) := World.rowIs_list w10 (wtL z) 34
  have HZR11 := hidd (HZR.out.fresh f11)
  have F11 := hidd (fresh_trans F10.out f11)
  clear f11 HWT HZR F10 HMD7 HB7
  generalize (w10.alloc (.cells (wtA z) 34)) = w11 at *
  generalize w10.heap.size = ub at *
  have FXX := hidd (fresh_trans (fresh_trans FX.out F9.out) F11.out)
  have RG11 := hidd (RGX.out (w11.alloc (.cells #[.int .i64 0, .int .i64 0, .int .i64 0, .int .i64 0, .int .i64 0, .int .i64 0, .int .i64 0, .int .i64 0, .int .i64 0, .int .i64 0, .slice none 0 0, .slice none 0 0, .slice none 0 0, .slice none 0 0, .int .i64 0, .int .i64 0, .slice none 0 0, .slice none 0 0] 34)) (fresh_trans FXX.out (fresh_alloc w11 _)))
  have HT18 : Hid ((18 : Nat) = T.size) := by rw [HT.out]; rfl
  have HTO : Hid (T.all (·.oneCell') = true) := by rw [HT.out]; exact wtA_one _
  have HTS : Hid ((Try.prog.info? 34).map (·.size) = some T.size) := by rw [HT.out]; exact sizeW
  go_upto_region 14 with (first
    | refine wpList_load_mid rfl 34 _ rfl w.heap.size 0 rfl T.toList _ RG11.out Try.underlying34 rfl SL.out ?_
    | (refine wpList_store_row rfl 34 _ _ rfl w11.heap.size T rfl rfl 34 _ (heap_new w11 _) HTS.out HT18.out HTO.out ?_))
  rw [World.setRow_alloc_new]
  try simp only [Act.put]
  have f12 := fresh_alloc w11 (.cells T 34)
  have HW12 : Hid ((w11.alloc (.cells T 34)).rowIs w11.heap.size 34 18 (wtc x)) := by rw [HT.out]; exact World.rowIs_list w11 (wtL x) 34
  have HU12 := hidd (row_fresh HR11.out f12)
  have HC12 := hidd (row_fresh (row_fresh HR9.out F11.out) f12)
  obtain ⟨Tz, hTz⟩ : ∃ T, T = wtA z := ⟨_, rfl⟩
  have HEQZ : Hid (Calls Try.prog 16 #[.agg Tz, .agg T] (w11.alloc (.cells T 34)) fun e w' => e = .returned (.bool true) ∧ Below (w11.alloc (.cells T 34)).heap.size (w11.alloc (.cells T 34)) w') := by rw [hTz, HT.out]; exact eqW_v ((HX.out.fresh FXX.out).fresh (by rw [← HT.out]; exact f12)) (HZR11.out.fresh (by rw [← HT.out]; exact f12)) HZS.out
  have RGU : Hid ((w11.alloc (.cells T 34)).rangeAt ub 0 Tz.toList) := by rw [hTz]; exact row_range (L := wtL z) HU12.out rfl
  have SLU : Hid ((Try.prog.info? 34).map (·.size) = some Tz.toList.length) := by rw [hTz]; exact sizeW
  have RGW : Hid ((w11.alloc (.cells T 34)).rangeAt w11.heap.size 0 T.toList) := by rw [HT.out] at HW12 ⊢; exact row_range (L := wtL x) HW12.out rfl
  have cc0 : (w11.alloc (.cells T 34)).cell? ⟨cb, 0, none⟩ = some (.int .i64 x.V) := HC12.out.cell (i := 0) (by simp)
  have cz0 : (w11.alloc (.cells T 34)).cell? ⟨w11.heap.size, 0, none⟩ = some (.int .i64 x.V) := HW12.out.cell (i := 0) (by decide)
  have cc1 : (w11.alloc (.cells T 34)).cell? ⟨cb, 1, none⟩ = some (.int .i64 x.W) := HC12.out.cell (i := 1) (by simp)
  have cz1 : (w11.alloc (.cells T 34)).cell? ⟨w11.heap.size, 1, none⟩ = some (.int .i64 x.W) := HW12.out.cell (i := 1) (by decide)
  have cc2 : (w11.alloc (.cells T 34)).cell? ⟨cb, 2, none⟩ = some (.int .i64 x.H) := HC12.out.cell (i := 2) (by simp)
  have cz2 : (w11.alloc (.cells T 34)).cell? ⟨w11.heap.size, 2, none⟩ = some (.int .i64 x.H) := HW12.out.cell (i := 2) (by decide)
  have cc3 : (w11.alloc (.cells T 34)).cell? ⟨cb, 3, none⟩ = some (.int .i64 x.K) := HC12.out.cell (i := 3) (by simp)
  have cz3 : (w11.alloc (.cells T 34)).cell? ⟨w11.heap.size, 3, none⟩ = some (.int .i64 x.K) := HW12.out.cell (i := 3) (by decide)
  have cc4 : (w11.alloc (.cells T 34)).cell? ⟨cb, 4, none⟩ = some (.int .i64 x.L) := HC12.out.cell (i := 4) (by simp)
  have cz4 : (w11.alloc (.cells T 34)).cell? ⟨w11.heap.size, 4, none⟩ = some (.int .i64 x.L) := HW12.out.cell (i := 4) (by decide)
  have cc5 : (w11.alloc (.cells T 34)).cell? ⟨cb, 5, none⟩ = some (.int .i64 x.D) := HC12.out.cell (i := 5) (by simp)
  have cz5 : (w11.alloc (.cells T 34)).cell? ⟨w11.heap.size, 5, none⟩ = some (.int .i64 x.D) := HW12.out.cell (i := 5) (by decide)
  have cc6 : (w11.alloc (.cells T 34)).cell? ⟨cb, 6, none⟩ = some (.int .i64 x.N) := HC12.out.cell (i := 6) (by simp)
  have cz6 : (w11.alloc (.cells T 34)).cell? ⟨w11.heap.size, 6, none⟩ = some (.int .i64 x.N) := HW12.out.cell (i := 6) (by decide)
  have cc7 : (w11.alloc (.cells T 34)).cell? ⟨cb, 7, none⟩ = some (.int .i64 x.M) := HC12.out.cell (i := 7) (by simp)
  have cz7 : (w11.alloc (.cells T 34)).cell? ⟨w11.heap.size, 7, none⟩ = some (.int .i64 x.M) := HW12.out.cell (i := 7) (by decide)
  have FZ := hidd (fresh_trans (fresh_trans F0.out FXX.out) f12)
  clear hTz f12 HW12 HU12 HC12 HR11 HR9 HZR11 RG11 HT18 HTO HTS RGX FXX F11 F9 FX F7 HE HSM HCPY
  generalize (w11.alloc (.cells T 34)) = w12 at *
  generalize w11.heap.size = zb at *
  go_wp2_with (first
    | refine wpList_load_midG rfl 34 _ rfl ub 0 rfl Tz.toList _ RGU.out Try.underlying34 rfl SLU.out ?_
    | refine wpList_load_midG rfl 34 _ rfl zb 0 rfl T.toList _ RGW.out Try.underlying34 rfl SL.out ?_
    | (go_at_call 16; refine HEQZ.out.mono ?_; rintro e w13 ⟨rfl, f13⟩; have F13 := hidd (fresh_trans FZ.out f13); clear f13))
  go_ret
  exact ⟨rfl, F13.out⟩
end Go.Proofs.Ytilghknalbhacaa
