import Derived.Test.YtilghknalbhacaaJAX
import Derived.Test.YtilghknalbhacaaWtV
namespace Go.Proofs.Ytilghknalbhacaa
open Go.RowKit
/-! ModelChecks: the law, where the weights do not fit. -/
set_option maxRecDepth 100000 in
set_option maxHeartbeats 8000000 in
theorem checks_badZ {w : World} {x : WtD} (h : WtR w x) (hb : WtZb x) (er : Int) (he : IsE x er) (h0 : er ≠ 0) :
    Calls Try.prog 6 #[.agg #[.int .i64 x.V, .int .i64 x.W, .int .i64 x.H, .int .i64 x.K, .int .i64 x.L, .int .i64 x.D, .int .i64 x.N, .int .i64 x.M, .int .i64 x.E.R, .int .i64 x.E.C, .slice x.E.O x.E.n x.E.c, .slice x.tO x.tn x.tc, .slice x.yO x.yn x.yc, .slice x.F.O x.F.n x.F.c, .int .i64 x.Q.R, .int .i64 x.Q.C, .slice x.Q.O x.Q.n x.Q.c, .slice x.mO x.mn x.mc]] w fun e w' => e = .returned (.bool true) ∧ Below w.heap.size w w' := by
  obtain ⟨T, hT⟩ : ∃ T, T = wtA x := ⟨_, rfl⟩
  have f0 := fresh_alloc w (.cells #[.int .i64 x.V, .int .i64 x.W, .int .i64 x.H, .int .i64 x.K, .int .i64 x.L, .int .i64 x.D, .int .i64 x.N, .int .i64 x.M, .int .i64 x.E.R, .int .i64 x.E.C, .slice x.E.O x.E.n x.E.c, .slice x.tO x.tn x.tc, .slice x.yO x.yn x.yc, .slice x.F.O x.F.n x.F.c, .int .i64 x.Q.R, .int .i64 x.Q.C, .slice x.Q.O x.Q.n x.Q.c, .slice x.mO x.mn x.mc] 34)
  have HBX : Hid ((w.alloc (.cells #[.int .i64 x.V, .int .i64 x.W, .int .i64 x.H, .int .i64 x.K, .int .i64 x.L, .int .i64 x.D, .int .i64 x.N, .int .i64 x.M, .int .i64 x.E.R, .int .i64 x.E.C, .slice x.E.O x.E.n x.E.c, .slice x.tO x.tn x.tc, .slice x.yO x.yn x.yc, .slice x.F.O x.F.n x.F.c, .int .i64 x.Q.R, .int .i64 x.Q.C, .slice x.Q.O x.Q.n x.Q.c, .slice x.mO x.mn x.mc] 34)).rowIs w.heap.size 34 18 (wtc x)) := World.rowIs_list w (wtL x) 34
  have HX := hidd (h.fresh f0)
  have F0 := hidd f0
  have HE := hidd he
  have HB := hidd hb
  have HT := hidd hT
  have SL : Hid ((Try.prog.info? 34).map (·.size) = some T.toList.length) := by rw [hT]; exact sizeW
  clear h f0 he hb hT
  go_enter Try.func6, Try.ntmps6
  go_upto_region 1 with fail
  generalize w.alloc (.cells #[.int .i64 x.V, .int .i64 x.W, .int .i64 x.H, .int .i64 x.K, .int .i64 x.L, .int .i64 x.D, .int .i64 x.N, .int .i64 x.M, .int .i64 x.E.R, .int .i64 x.E.C, .slice x.E.O x.E.n x.E.c, .slice x.tO x.tn x.tc, .slice x.yO x.yn x.yc, .slice x.F.O x.F.n x.F.c, .int .i64 x.Q.R, .int .i64 x.Q.C, .slice x.Q.O x.Q.n x.Q.c, .slice x.mO x.mn x.mc] 34) = w0 at *
  have RGX : Hid (∀ z, Below w0.heap.size w0 z → z.rangeAt w.heap.size 0 T.toList) := fun z hz => by rw [HT.out]; exact row_range (L := wtL x) (row_fresh HBX.out hz) rfl
  have HCPY : Hid (∀ z, Below w0.heap.size w0 z → Calls Try.prog 18 #[.agg T] z fun e w' => ∃ y, e = .returned (.agg (wtA y)) ∧ Cpy z w' x y) := fun z hz => by rw [HT.out]; exact copyWZ (HX.out.fresh hz) HB.out
  have HNE := hidd h0
  have her : (er == er) = true := by simp
  have hern : (er != er) = false := by simp
  have herz : (er == 0) = false := by simpa using h0
  clear h0
  go_upto_region 2 with (go_at_call 11; refine (works_any _).mono ?_; rintro e w1 ⟨rfl, f1⟩; have F1 := hidd f1; clear f1)
  have RG1 := hidd (RGX.out w1 F1.out)
  have HCP := hidd (HCPY.out w1 F1.out)
  go_upto_region 3 with (first
    | refine wpList_load_mid rfl 34 _ rfl w.heap.size 0 rfl T.toList _ RG1.out Try.underlying34 rfl SL.out ?_
    | (go_at_call 18; refine HCP.out.mono ?_; rintro e w2 ⟨y, rfl, hc⟩; have HC := hidd hc; clear hc)
    | (refine wpList_store_row rfl 34 _ _ rfl w2.heap.size (wtA y) rfl rfl 34 _ (heap_new _ _) sizeW rfl (wtA_one _) ?_))
  try rw [World.setRow_alloc_new]
  try simp only [Act.put]
  have f3 := fresh_alloc w2 (.cells (wtA y) 34)
  have HY3 := hidd ((HC.out.wtr (HX.out.fresh F1.out)).fresh f3)
  have HSM := hidd HC.out.sm
  have F3 := hidd (fresh_trans (fresh_trans F1.out HC.out.low) f3)
  have HR3 : Hid ((w2.alloc (.cells (wtA y) 34)).rowIs w2.heap.size 34 18 (wtc y)) := World.rowIs_list w2 (wtL y) 34
  clear f3 HC HCP RG1 F1
  generalize (w2.alloc (.cells (wtA y) 34)) = w3 at *
  generalize w2.heap.size = b2 at *
  obtain ⟨Ty, hTy⟩ : ∃ T, T = wtA y := ⟨_, rfl⟩
  have RGY : Hid (∀ z, Below w3.heap.size w3 z → z.rangeAt b2 0 Ty.toList) := fun z hz => by rw [hTy]; exact row_range (L := wtL y) (row_fresh HR3.out hz) rfl
  have SLY : Hid ((Try.prog.info? 34).map (·.size) = some Ty.toList.length) := by rw [hTy]; exact sizeW
  have HCK : Hid (Calls Try.prog 22 #[.agg Ty] w3 fun e w' => e = .returned (.int .i64 er) ∧ Below w3.heap.size w3 w') := by rw [hTy]; exact check_any HY3.out er (HSM.out.ise HE.out)
  have HEQ : Hid (∀ z, Below w3.heap.size w3 z → Calls Try.prog 16 #[.agg Ty, .agg T] z fun e w' => e = .returned (.bool true) ∧ Below z.heap.size z w') := fun z hz => by rw [hTy, HT.out]; exact eqW_v ((HX.out.fresh F3.out).fresh hz) (HY3.out.fresh hz) HSM.out
  have HNW : Hid (∀ z, Below w3.heap.size w3 z → Calls Try.prog 23 #[.agg Ty] z fun e w' => e = .returned (.tuple #[.pointer none, .int .i64 er]) ∧ Below z.heap.size z w') := fun z hz => by rw [hTy]; exact new_bad (HY3.out.fresh hz) er (HSM.out.ise HE.out) HNE.out
  have RG3 := hidd (RGY.out w3 (Below.refl _ _))
  clear hTy
  go_upto_region 4 with (first
    | refine wpList_load_mid rfl 34 _ rfl b2 0 rfl Ty.toList _ RG3.out Try.underlying34 rfl SLY.out ?_
    | (go_at_call 22; refine HCK.out.mono ?_; rintro e w4 ⟨rfl, f4⟩; have F4 := hidd f4; clear f4))
  have RG4 := hidd (RGY.out w4 F4.out)
  go_upto_region 5 with (first
    | refine wpList_load_mid rfl 34 _ rfl b2 0 rfl Ty.toList _ RG4.out Try.underlying34 rfl SLY.out ?_
    | (go_at_call 23; refine (HNW.out _ F4.out).mono ?_; rintro e w5 ⟨rfl, f5⟩; have F5 := hidd (fresh_trans F4.out f5); clear f5))
  have RG5 := hidd (RGX.out w5 (fresh_trans F3.out F5.out))
  have HRC : Hid (Calls Try.prog 24 #[.agg T] w5 fun e w' => e = .returned (.int .i64 er) ∧ Below w5.heap.size w5 w') := by rw [HT.out]; exact check_wref (HX.out.fresh (fresh_trans F3.out F5.out)) er HE.out
  go_upto_region 6 with (first
    | refine wpList_load_mid rfl 34 _ rfl w.heap.size 0 rfl T.toList _ RG5.out Try.underlying34 rfl SL.out ?_
    | (go_at_call 24; refine HRC.out.mono ?_; rintro e w6 ⟨rfl, f6⟩; have F6 := hidd (fresh_trans F5.out f6); have G56 := hidd f6; clear f6))
  have RG6 := hidd (RGX.out w6 (fresh_trans F3.out F6.out))
  have RG6' := hidd (RGY.out w6 F6.out)
  have HEQ6 := hidd (HEQ.out w6 F6.out)
  clear HEQ HNW HCK HRC RG3 RG4 RG5
  go_upto_region 7 with (first
    | refine wpList_load_mid rfl 34 _ rfl b2 0 rfl Ty.toList _ RG6'.out Try.underlying34 rfl SLY.out ?_
    | refine wpList_load_mid rfl 34 _ rfl w.heap.size 0 rfl T.toList _ RG6.out Try.underlying34 rfl SL.out ?_
    | (go_at_call 16; refine HEQ6.out.mono ?_; rintro e w7 ⟨rfl, f7⟩; have F7 := hidd (fresh_trans F6.out f7); have G67 := hidd f7; clear f7))
  have FX := hidd (fresh_trans F3.out F7.out)
  have HCFG := hidd (mconfig_nil w7)
  clear RG6 RG6' HEQ6 G56 G67 RGY SLY HR3 HY3 F3 F4 F5 F6
  go_upto_region 10 with (go_at_call 25; refine HCFG.out.mono ?_; rintro e w8 ⟨rfl, f8⟩; have F8 := hidd f8; clear f8)
  have f9 := fresh_alloc w8 (.cells #[.int .i64 0, .int .i64 0, .int .i64 0, .int .i64 0, .int .i64 0, .int .i64 0, .int .i64 0, .int .i64 0] 23)
  have F9 := hidd (fresh_trans F8.out f9)
  have HR9 : Hid ((w8.alloc (.cells #[.int .i64 0, .int .i64 0, .int .i64 0, .int .i64 0, .int .i64 0, .int .i64 0, .int .i64 0, .int .i64 0] 23)).rowIs w8.heap.size 23 8 (fun i => ([.int .i64 0, .int .i64 0, .int .i64 0, .int .i64 0, .int .i64 0, .int .i64 0, .int .i64 0, .int .i64 0] : List Value).getD i undef)) := World.rowIs_list w8 [.int .i64 0, .int .i64 0, .int .i64 0, .int .i64 0, .int .i64 0, .int .i64 0, .int .i64 0, .int .i64 0] 23
  clear f9 F8 HCFG
  generalize (w8.alloc (.cells #[.int .i64 0, .int .i64 0, .int .i64 0, .int .i64 0, .int .i64 0, .int .i64 0, .int .i64 0, .int .i64 0] 23)) = w9 at *
  generalize w8.heap.size = cb at *
  obtain ⟨T0, hT0⟩ : ∃ T, T = wtZ.toArray := ⟨_, rfl⟩
  have HT0 := hidd hT0
  have HWT : Hid (Calls Try.prog 15 #[.pointer none] w9 fun e w' => e = .returned (.agg T0) ∧ Below w9.heap.size w9 w') := by rw [hT0]; exact mweights_nil w9
  have HZ18 : Hid ((18 : Nat) = T0.size) := by rw [hT0]; rfl
  have HZO : Hid (T0.all (·.oneCell') = true) := by rw [hT0]; show _ = _; kernel_rfl
  have HZS : Hid ((Try.prog.info? 34).map (·.size) = some T0.size) := by rw [hT0]; exact sizeW
  have HZL : Hid ((Try.prog.info? 34).map (·.size) = some T0.toList.length) := by rw [hT0]; exact sizeW
  have HRZ : Hid (∀ (z : World) (b : Nat), z.rowIs b 34 18 (fun i => wtZ.getD i undef) → z.rangeAt b 0 T0.toList) := fun z b hz => by rw [hT0]; exact row_range (L := wtZ) hz rfl
  have HEQ0 : Hid (∀ z : World, Calls Try.prog 16 #[.agg T0, .agg T0] z fun e w' => e = .returned (.bool true) ∧ Below z.heap.size z w') := by rw [hT0]; exact eq0_any
  clear hT0
  go_upto_region 11 with (first
    | (go_at_call 15; refine HWT.out.mono ?_; rintro e w10 ⟨rfl, f10⟩; have F10 := hidd f10; clear f10)
    | (refine wpList_store_row rfl 34 _ _ rfl w10.heap.size T0 rfl rfl 34 _ (heap_new _ _) HZS.out HZ18.out HZO.out ?_))
  try rw [World.setRow_alloc_new]
  try simp only [Act.put]
  have f11 := fresh_alloc w10 (.cells T0 34)
  have HR11 : Hid ((w10.alloc (.cells T0 34)).rowIs w10.heap.size 34 18 (fun i => wtZ.getD i undef)) := by rw [HT0.out]; exact World.rowIs_list w10 wtZ 34
  have F11 := hidd (fresh_trans F10.out f11)
  clear f11 HWT F10 HZ18 HZO HZS
  generalize (w10.alloc (.cells T0 34)) = w11 at *
  generalize w10.heap.size = ub at *
  go_upto_region 14 with fail
  have f12 := fresh_alloc w11 (.cells #[.int .i64 0, .int .i64 0, .int .i64 0, .int .i64 0, .int .i64 0, .int .i64 0, .int .i64 0, .int .i64 0, .int .i64 0, .int .i64 0, .slice none 0 0, .slice none 0 0, .slice none 0 0, .slice none 0 0, .int .i64 0, .int .i64 0, .slice none 0 0, .slice none 0 0] 34)
  have HW12 : Hid ((w11.alloc (.cells #[.int .i64 0, .int .i64 0, .int .i64 0, .int .i64 0, .int .i64 0, .int .i64 0, .int .i64 0, .int .i64 0, .int .i64 0, .int .i64 0, .slice none 0 0, .slice none 0 0, .slice none 0 0, .slice none 0 0, .int .i64 0, .int .i64 0, .slice none 0 0, .slice none 0 0] 34)).rowIs w11.heap.size 34 18 (fun i => wtZ.getD i undef)) := World.rowIs_list w11 wtZ 34
  have HU12 := hidd (row_fresh HR11.out f12)
  have HC12 := hidd (row_fresh (row_fresh HR9.out F11.out) f12)
  have FZ := hidd (fresh_trans (fresh_trans (fresh_trans (fresh_trans F0.out FX.out) F9.out) F11.out) f12)
  clear f12 HR11 HR9 RGX F11 F9 FX F7 HE HSM HCPY HT0
  generalize (w11.alloc (.cells #[.int .i64 0, .int .i64 0, .int .i64 0, .int .i64 0, .int .i64 0, .int .i64 0, .int .i64 0, .int .i64 0, .int .i64 0, .int .i64 0, .slice none 0 0, .slice none 0 0, .slice none 0 0, .slice none 0 0, .int .i64 0, .int .i64 0, .slice none 0 0, .slice none 0 0] 34)) = w12 at *
  generalize w11.heap.size = zb at *
  have cc0 : w12.cell? ⟨cb, 0, none⟩ = some (.int .i64 0) := HC12.out.cell (i := 0) (by simp)
  have cz0 : w12.cell? ⟨zb, 0, none⟩ = some (.int .i64 0) := HW12.out.cell (i := 0) (by decide)
  have cc1 : w12.cell? ⟨cb, 1, none⟩ = some (.int .i64 0) := HC12.out.cell (i := 1) (by simp)
  have cz1 : w12.cell? ⟨zb, 1, none⟩ = some (.int .i64 0) := HW12.out.cell (i := 1) (by decide)
  have cc2 : w12.cell? ⟨cb, 2, none⟩ = some (.int .i64 0) := HC12.out.cell (i := 2) (by simp)
  have cz2 : w12.cell? ⟨zb, 2, none⟩ = some (.int .i64 0) := HW12.out.cell (i := 2) (by decide)
  have cc3 : w12.cell? ⟨cb, 3, none⟩ = some (.int .i64 0) := HC12.out.cell (i := 3) (by simp)
  have cz3 : w12.cell? ⟨zb, 3, none⟩ = some (.int .i64 0) := HW12.out.cell (i := 3) (by decide)
  have cc4 : w12.cell? ⟨cb, 4, none⟩ = some (.int .i64 0) := HC12.out.cell (i := 4) (by simp)
  have cz4 : w12.cell? ⟨zb, 4, none⟩ = some (.int .i64 0) := HW12.out.cell (i := 4) (by decide)
  have cc5 : w12.cell? ⟨cb, 5, none⟩ = some (.int .i64 0) := HC12.out.cell (i := 5) (by simp)
  have cz5 : w12.cell? ⟨zb, 5, none⟩ = some (.int .i64 0) := HW12.out.cell (i := 5) (by decide)
  have cc6 : w12.cell? ⟨cb, 6, none⟩ = some (.int .i64 0) := HC12.out.cell (i := 6) (by simp)
  have cz6 : w12.cell? ⟨zb, 6, none⟩ = some (.int .i64 0) := HW12.out.cell (i := 6) (by decide)
  have cc7 : w12.cell? ⟨cb, 7, none⟩ = some (.int .i64 0) := HC12.out.cell (i := 7) (by simp)
  have cz7 : w12.cell? ⟨zb, 7, none⟩ = some (.int .i64 0) := HW12.out.cell (i := 7) (by decide)
  clear HC12
  have HEQZ := hidd (HEQ0.out w12)
  have RGU := hidd (HRZ.out w12 ub HU12.out)
  have RGW := hidd (HRZ.out w12 zb HW12.out)
  clear HEQ0 HRZ HU12 HW12 HX HB HT SL HBX F0 HNE her hern
  as_aux_lemma =>
    go_wp2_with (first
      | refine wpList_load_midG rfl 34 _ rfl ub 0 rfl T0.toList _ RGU.out Try.underlying34 rfl HZL.out ?_
      | refine wpList_load_midG rfl 34 _ rfl zb 0 rfl T0.toList _ RGW.out Try.underlying34 rfl HZL.out ?_
      | (go_at_call 16; refine HEQZ.out.mono ?_; rintro e w13 ⟨rfl, f13⟩; have F13 := hidd (fresh_trans FZ.out f13); clear f13))
    go_ret
    exact ⟨rfl, F13.out⟩
theorem checks_anyZ {w : World} {x : WtD} (h : WtR w x) (hb : WtZb x) :
    Calls Try.prog 6 #[.agg #[.int .i64 x.V, .int .i64 x.W, .int .i64 x.H, .int .i64 x.K, .int .i64 x.L, .int .i64 x.D, .int .i64 x.N, .int .i64 x.M, .int .i64 x.E.R, .int .i64 x.E.C, .slice x.E.O x.E.n x.E.c, .slice x.tO x.tn x.tc, .slice x.yO x.yn x.yc, .slice x.F.O x.F.n x.F.c, .int .i64 x.Q.R, .int .i64 x.Q.C, .slice x.Q.O x.Q.n x.Q.c, .slice x.mO x.mn x.mc]] w fun e w' => e = .returned (.bool true) ∧ Below w.heap.size w w' := by
  obtain ⟨er, he⟩ := ise_any x
  by_cases h0 : er = 0
  · subst h0
    have hmp : x.may ∧ WtP x := by
      rcases he with ⟨_, e⟩ | ⟨_, _, e⟩ | ⟨h1, h2, _⟩
      · cases e
      · cases e
      · exact ⟨h1, h2⟩
    exact checks_ok h (WtP.b hmp.1 hmp.2) he
  · exact checks_badZ h hb er he h0
end Go.Proofs.Ytilghknalbhacaa
namespace Go.Proofs.Ytilghknalbhacaa
open Go.ChangeShapes Go.WideShapes Go.ChangeAt Go.RowKit Go.Deep
/-! The law ModelChecks, from what came in, within the form's reach. -/
set_option maxRecDepth 100000 in
theorem modelChecks_walkR {H : Type} {enc : TypeId × Value → H} {base : Nat} {sp : Nat → Bool} {held : Bool} {r : Reach} {b0 : Nat} {v0 : Value} {d0 : DataW H} {ps0 : List MemPlace} (W : World)
    (hval0 : Value.okWide Try.prog W r b0 34 v0) (h0 : DataW.Trod enc Try.prog W base sp held 34 v0 d0 ps0) (hsz : (DataW.weightsEach Try.prog [34] [d0]).all (· ≤ reachBytes) = true) :
    Calls Try.prog 6 #[v0] W fun e w' => e = .returned (.bool true) ∧ Below W.heap.size W w' := by
  obtain ⟨x, rfl, hx, hB⟩ := open_weights hval0 h0
  exact checks_anyZ hx (hB (rb_of (fun q hq => of_decide_eq_true (List.all_eq_true.1 hsz _ (DataW.weights_mem_each (j := 0) (t := 34) rfl rfl _ hq)))))
end Go.Proofs.Ytilghknalbhacaa
