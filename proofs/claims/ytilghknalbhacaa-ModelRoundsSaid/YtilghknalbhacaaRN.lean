import Derived.Test.YtilghknalbhacaaJAW
import Derived.WalkKit
import Derived.ProofKit
import Derived.OpenShut
import Derived.Deep.Matrix
import Derived.SizedLaws
import Derived.Test.YtilghknalbhacaaJAB
import Derived.Test.YtilghknalbhacaaRows
import Derived.Test.YtilghknalbhacaaWWX
namespace Go.Proofs.Ytilghknalbhacaa
open Go.RowKit
/-! A file has 104 bytes or more. -/
theorem prod_low {x y m n : Int} (hm : 0 ≤ m) (hn : 0 ≤ n) (hx : m ≤ x) (hy : n ≤ y) : m * n ≤ x * y := Int.mul_le_mul hx hy hn (Int.le_trans hm hx)
theorem dm_low {V H K L D N M kv : Int} {nW nL nM tn P a b c : Nat} (hd : Dm V H K L D N M kv nW nL nM tn P a b c) (hm : may V (nW : Int) H K L D N M) : 4 ≤ P ∧ 4 ≤ a ∧ 4 ≤ b ∧ 2 ≤ c := by
  obtain ⟨⟨v0, v1⟩, ⟨w0, w1⟩, ⟨h0, h1⟩, _, ⟨k0, k1⟩, _, ⟨l0, l1⟩, ⟨d0, d1⟩, _, _⟩ := hm
  have t0 := hd.t0
  have t1 := hd.t1
  have hq : 2 ≤ (nW : Int) / H := by omega
  have hk := prod_low (x := K) (y := (nW : Int) / H) (m := 1) (n := 2) (by decide) (by decide) k0 hq
  have hP := prod_low (x := V) (y := (nW : Int)) (m := 2) (n := 2) (by decide) (by decide) v0 w0
  have hA := prod_low (x := (nW : Int)) (y := (nW : Int)) (m := 2) (n := 2) (by decide) (by decide) w0 w0
  rw [hd.kve] at hk
  have hB := prod_low (x := kv) (y := (nW : Int)) (m := 2) (n := 2) (by decide) (by decide) (by omega) w0
  have hC := prod_low (x := D) (y := (nW : Int)) (m := 1) (n := 2) (by decide) (by decide) d0 w0
  rw [hd.P1] at hP
  rw [hd.pa] at hA
  rw [hd.pb] at hB
  rw [hd.pc] at hC
  refine ⟨by omega, by omega, by omega, by omega⟩
theorem yB_low {x : WtD} {n : Nat} (h : ∀ j, j < n → 38 ≤ (secL 76 (lyB (x.ly j))).length) (h0 : 0 < n) : 38 ≤ (yB x.ly n).length := by
  cases n with
  | zero => omega
  | succ n =>
    show 38 ≤ (yB x.ly n ++ secL 76 (lyB (x.ly n))).length
    have := h n (by omega)
    rw [List.length_append]
    omega
theorem file_104 {x : WtD} (hm : x.may) (hp : WtP x) : 104 ≤ (fileL x).length := by
  obtain ⟨kv, nW, nL, nM, tn, P, a, b, c, hW, hd⟩ := dm_of hm
  have lx := hp.l hd ⟨rfl, hW, rfl, rfl, rfl, rfl, rfl, rfl⟩
  have hm' : may x.V (nW : Int) x.H x.K x.L x.D x.N x.M := by rw [← hW]; exact hm
  obtain ⟨p1, p2, p3, p4⟩ := dm_low hd hm'
  have w2 := hd.W2
  have l4 := hd.L4
  have t0 := hd.t0
  have hy : 38 ≤ (yB x.ly x.yn).length := by
    rw [lx.yn]
    refine yB_low (fun j hj => ?_) (by omega)
    rw [secL_len, lyB_szl (lx.y1 j hj) (lx.y2 j hj) (fun q hq => (lx.ym j hj q hq).2.2)]
    show 38 ≤ nW + nW + a + b + b + a + c + c + c + 7 + 5
    omega
  rw [file_eq]
  unfold midL
  simp only [List.length_append, secL_len, nbL_len, trL_len, headL_len, lastL_len]
  rw [lx.E.2.2, lx.T, lx.F, lx.Q.2.2]
  omega
end Go.Proofs.Ytilghknalbhacaa
namespace Go.Proofs.Ytilghknalbhacaa
open Go.RowKit
/-! ModelRounds: the law. -/
theorem wtc_of_A {x y : WtD} (h : wtA x = wtA y) : wtc x = wtc y := by
  have := congrArg Array.toList h
  have e : wtL x = wtL y := this
  unfold wtc
  rw [e]
/-- Decode of a file -/
theorem dec_file {w : World} {ao : Option Addr} {cap : Nat} {y : WtD} (h : RdA w ao 1 (fileL y).length cap (bV (fileL y))) (hm : y.may) (hp : WtP y) (hi : WtI y) : Calls Try.prog 13 #[.slice ao (fileL y).length cap] w fun e w' => ∃ x, e = .returned (.tuple #[.agg (wtA x), .int .i64 0]) ∧ WtR w' x ∧ Sm y x ∧ Below w.heap.size w w' := by
  refine (decode_any h (fileL_byt y)).mono ?_
  intro e w' hq
  obtain ⟨x, er, rfl, f1, hor⟩ := hq.one
  rcases hor with ⟨rfl, hg⟩ | ⟨_, _, hn⟩
  · obtain ⟨x', ha, hr, hs⟩ := hg.alike hm hp hi rfl
    exact ⟨x', by rw [ha], hr, hs, f1⟩
  · exact absurd rfl (hn y hm hp hi)
theorem load_file {w : World} {ao : Option Addr} {cap : Nat} {y : WtD} (h : RdA w ao 1 (fileL y).length cap (bV (fileL y))) (hm : y.may) (hp : WtP y) (hi : WtI y) : Calls Try.prog 14 #[.slice ao (fileL y).length cap] w fun e w' => ∃ g x, e = .returned (.tuple #[.pointer (some ⟨g, 0, none⟩), .int .i64 0]) ∧ Mdl w' g y x ∧ WtB x ∧ Below w.heap.size w w' := by
  refine (load_any h (fileL_byt y)).mono ?_
  rintro e w' ⟨f1, ⟨x, g, rfl, _, hrow, hg⟩ | ⟨_, hn⟩⟩
  · obtain ⟨x', ha, hr, hs⟩ := hg.alike hm hp hi rfl
    refine ⟨g, x', rfl, ⟨by rw [wtc_of_A ha]; exact hrow, hr, hs⟩, WtP.b (hs.may hm) (hs.wtp hp), f1⟩
  · exact absurd rfl (hn y hm hp hi)
/-- Encode's answer, whichever -/
theorem enc_one (x : WtD) : ∃ er L, ((er = 0 ∧ x.may ∧ WtP x ∧ L = fileL x) ∨ (er ≠ 0)) ∧ ∀ z, WtR z x → Calls Try.prog 12 #[.agg (wtA x)] z fun e w' => ∃ u c, e = .returned (.tuple #[.slice u L.length c, .int .i64 er]) ∧ RdA w' u 1 L.length c (bV L) ∧ Below z.heap.size z w' := by
  by_cases hmp : x.may ∧ WtP x
  · obtain ⟨hm, hp⟩ := hmp
    refine ⟨0, fileL x, .inl ⟨rfl, hm, hp, rfl⟩, fun z hz => ?_⟩
    refine (enc_ok hz (WtP.z hm hp (WtP.b hm hp)) hm hp).mono ?_
    rintro e w' ⟨u, c, rfl, ho, f⟩
    exact ⟨u, c, rfl, Own.rdb ho, f⟩
  · obtain ⟨er, he, h0⟩ : ∃ er, IsE x er ∧ er ≠ 0 := by
      by_cases hm : x.may
      · exact ⟨41, .inr (.inl ⟨hm, fun hp => hmp ⟨hm, hp⟩, rfl⟩), by decide⟩
      · exact ⟨40, .inl ⟨hm, rfl⟩, by decide⟩
    refine ⟨er, [], .inr h0, fun z hz => ?_⟩
    refine (enc_bad hz he h0).mono ?_
    rintro e w' ⟨e1, e3⟩
    exact ⟨none, 0, e1, ⟨Nat.le_refl _, Nat.zero_le _, fun h => absurd h (by show ¬ 0 < 0; omega)⟩, e3⟩
set_option maxRecDepth 100000 in
set_option maxHeartbeats 8000000 in
theorem rounds_any {w : World} {x : WtD} (h : WtR w x) {ao : Option Addr} {cap : Nat} {B : List Int} (hB : RdA w ao 1 B.length cap (bV B)) (bB : Byt B) :
    Calls Try.prog 4 #[.agg #[.int .i64 x.V, .int .i64 x.W, .int .i64 x.H, .int .i64 x.K, .int .i64 x.L, .int .i64 x.D, .int .i64 x.N, .int .i64 x.M, .int .i64 x.E.R, .int .i64 x.E.C, .slice x.E.O x.E.n x.E.c, .slice x.tO x.tn x.tc, .slice x.yO x.yn x.yc, .slice x.F.O x.F.n x.F.c, .int .i64 x.Q.R, .int .i64 x.Q.C, .slice x.Q.O x.Q.n x.Q.c, .slice x.mO x.mn x.mc], .slice ao B.length cap] w fun e w' => e = .returned (.bool true) ∧ Below w.heap.size w w' := by
  obtain ⟨er, L, hor, hen⟩ := enc_one x
  obtain ⟨T, hT⟩ : ∃ T, T = wtA x := ⟨_, rfl⟩
  have f0 := fresh_alloc w (.cells #[.int .i64 x.V, .int .i64 x.W, .int .i64 x.H, .int .i64 x.K, .int .i64 x.L, .int .i64 x.D, .int .i64 x.N, .int .i64 x.M, .int .i64 x.E.R, .int .i64 x.E.C, .slice x.E.O x.E.n x.E.c, .slice x.tO x.tn x.tc, .slice x.yO x.yn x.yc, .slice x.F.O x.F.n x.F.c, .int .i64 x.Q.R, .int .i64 x.Q.C, .slice x.Q.O x.Q.n x.Q.c, .slice x.mO x.mn x.mc] 34)
  have HBX : Hid ((w.alloc (.cells #[.int .i64 x.V, .int .i64 x.W, .int .i64 x.H, .int .i64 x.K, .int .i64 x.L, .int .i64 x.D, .int .i64 x.N, .int .i64 x.M, .int .i64 x.E.R, .int .i64 x.E.C, .slice x.E.O x.E.n x.E.c, .slice x.tO x.tn x.tc, .slice x.yO x.yn x.yc, .slice x.F.O x.F.n x.F.c, .int .i64 x.Q.R, .int .i64 x.Q.C, .slice x.Q.O x.Q.n x.Q.c, .slice x.mO x.mn x.mc] 34)).rowIs w.heap.size 34 18 (wtc x)) := World.rowIs_list w (wtL x) 34
  have HX := hidd (h.fresh f0)
  have HRB := hidd (hB.fresh f0)
  have HBB := hidd bB
  have F0 := hidd f0
  have HOR := hidd hor
  have HT := hidd hT
  have SL : Hid ((Try.prog.info? 34).map (·.size) = some T.toList.length) := by rw [hT]; exact sizeW
  have HENC : Hid (∀ z, WtR z x → Calls Try.prog 12 #[.agg T] z fun e w' => ∃ u c, e = .returned (.tuple #[.slice u L.length c, .int .i64 er]) ∧ RdA w' u 1 L.length c (bV L) ∧ Below z.heap.size z w') := by rw [hT]; exact hen
  obtain ⟨nB, HNB⟩ : ∃ n, Hid (n = B.length) := ⟨_, rfl⟩
  obtain ⟨nL, HNL⟩ : ∃ n, Hid (n = L.length) := ⟨_, rfl⟩
  rw [← HNB.out]
  rw [← HNL.out] at HENC
  clear h f0 hor hT hen hB bB
  have HRB' : ∀ z, Below (w.alloc (.cells #[.int .i64 x.V, .int .i64 x.W, .int .i64 x.H, .int .i64 x.K, .int .i64 x.L, .int .i64 x.D, .int .i64 x.N, .int .i64 x.M, .int .i64 x.E.R, .int .i64 x.E.C, .slice x.E.O x.E.n x.E.c, .slice x.tO x.tn x.tc, .slice x.yO x.yn x.yc, .slice x.F.O x.F.n x.F.c, .int .i64 x.Q.R, .int .i64 x.Q.C, .slice x.Q.O x.Q.n x.Q.c, .slice x.mO x.mn x.mc] 34)).heap.size (w.alloc (.cells #[.int .i64 x.V, .int .i64 x.W, .int .i64 x.H, .int .i64 x.K, .int .i64 x.L, .int .i64 x.D, .int .i64 x.N, .int .i64 x.M, .int .i64 x.E.R, .int .i64 x.E.C, .slice x.E.O x.E.n x.E.c, .slice x.tO x.tn x.tc, .slice x.yO x.yn x.yc, .slice x.F.O x.F.n x.F.c, .int .i64 x.Q.R, .int .i64 x.Q.C, .slice x.Q.O x.Q.n x.Q.c, .slice x.mO x.mn x.mc] 34)) z → RdA z ao 1 B.length cap (bV B) := fun z hz => HRB.out.fresh hz
  have HRBh := hidd HRB'
  clear HRB'
  go_enter Try.func4, Try.ntmps4
  go_upto_region 1 with fail
  generalize w.alloc (.cells #[.int .i64 x.V, .int .i64 x.W, .int .i64 x.H, .int .i64 x.K, .int .i64 x.L, .int .i64 x.D, .int .i64 x.N, .int .i64 x.M, .int .i64 x.E.R, .int .i64 x.E.C, .slice x.E.O x.E.n x.E.c, .slice x.tO x.tn x.tc, .slice x.yO x.yn x.yc, .slice x.F.O x.F.n x.F.c, .int .i64 x.Q.R, .int .i64 x.Q.C, .slice x.Q.O x.Q.n x.Q.c, .slice x.mO x.mn x.mc] 34) = w0 at *
  have RGX : Hid (∀ z, Below w0.heap.size w0 z → z.rangeAt w.heap.size 0 T.toList) := fun z hz => by rw [HT.out]; exact row_range (L := wtL x) (row_fresh HBX.out hz) rfl
  go_upto_region 2 with (go_at_call 11; refine (works_any _).mono ?_; rintro e w1 ⟨rfl, f1⟩; have F1 := hidd f1; clear f1)
  have RG1 := hidd (RGX.out w1 F1.out)
  go_upto_if 25 with (first
    | refine wpList_load_mid rfl 34 _ rfl w.heap.size 0 rfl T.toList _ RG1.out Try.underlying34 rfl SL.out ?_
    | (go_at_call 12; refine (HENC.out _ (HX.out.fresh F1.out)).mono ?_; rintro e w2 ⟨u, c, rfl, hu, f2⟩; have HU := hidd hu; have F2 := hidd (fresh_trans F1.out f2); clear hu f2))
  go_cut [1, 5] (fun v1 v5 wx => v1 = .slice ao nB cap ∧ v5 = .bool true ∧ Hid (Below w0.heap.size w0 wx))
  case first =>
    rcases HOR.out with ⟨rfl, hm, hp, hL⟩ | hne
    · have HI := hidd (wtI_of HX.out hp)
      have hu := HU.out
      have hl4 := file_104 hm hp
      rw [← hL, ← HNL.out] at hl4
      have HDF : Hid (Calls Try.prog 13 #[.slice u nL c] w2 fun e w' => ∃ x1, e = .returned (.tuple #[.agg (wtA x1), .int .i64 0]) ∧ WtR w' x1 ∧ Sm x x1 ∧ Below w2.heap.size w2 w') := by
        rw [HNL.out, hL] at hu ⊢
        exact dec_file hu hm hp HI.out
      have HLF : Hid (∀ z, Below w2.heap.size w2 z → Calls Try.prog 14 #[.slice u nL c] z fun e w' => ∃ g x2, e = .returned (.tuple #[.pointer (some ⟨g, 0, none⟩), .int .i64 0]) ∧ Mdl w' g x x2 ∧ WtB x2 ∧ Below z.heap.size z w') := fun z hz => by
        rw [HNL.out, hL] at hu ⊢
        exact load_file (hu.fresh hz) hm hp HI.out
      have i104 : ¬ (nL : Int) < 104 := by omega
      have j104 : decide ((nL : Int) < 104) = false := decide_eq_false i104
      have k104 : decide (nL < 104) = false := decide_eq_false (by omega)
      clear hm hp hL hu hl4 HENC HOR HI
      go_upto_region 5 with (first
        | (go_at_call 13; refine HDF.out.mono ?_; rintro e w3 ⟨x1, rfl, hr1, hs1, f3⟩; have HR1 := hidd hr1; have HS1 := hidd hs1; have F3 := hidd f3; clear hr1 hs1 f3)
        | (refine wpList_store_row rfl 34 _ _ rfl w3.heap.size (wtA x1) rfl rfl 34 _ (heap_new _ _) sizeW rfl (wtA_one _) ?_))
      try rw [World.setRow_alloc_new]
      try simp only [Act.put]
      have f4 := fresh_alloc w3 (.cells (wtA x1) 34)
      have HR4 := hidd (HR1.out.fresh f4)
      have F4 := hidd (fresh_trans F3.out f4)
      have HW4 : Hid ((w3.alloc (.cells (wtA x1) 34)).rowIs w3.heap.size 34 18 (wtc x1)) := World.rowIs_list w3 (wtL x1) 34
      clear f4 HR1 F3 HDF
      generalize (w3.alloc (.cells (wtA x1) 34)) = w4 at *
      generalize w3.heap.size = xb at *
      go_upto_region 6 with (go_at_call 14; refine (HLF.out _ F4.out).mono ?_; rintro e w5 ⟨g, x2, rfl, hmd, hb2, f5⟩; have HMD := hidd hmd; have HB2 := hidd hb2; have F5 := hidd f5; clear hmd hb2 f5)
      have HWT := hidd (mweights_any HMD.out HB2.out)
      go_upto_region 7 with (first
        | (go_at_call 15; refine HWT.out.mono ?_; rintro e w6 ⟨z, rfl, hzr, hzs, f6⟩; have HZR := hidd hzr; have HZS := hidd hzs; have F6 := hidd (fresh_trans F5.out f6); clear hzr hzs f6)
        | (refine wpList_store_row rfl 34 _ _ rfl w6.heap.size (wtA z) rfl rfl 34 _ (heap_new _ _) sizeW rfl (wtA_one _) ?_))
      try rw [World.setRow_alloc_new]
      try simp only [Act.put]
      have f7 := fresh_alloc w6 (.cells (wtA z) 34)
      have HZ7 := hidd (HZR.out.fresh f7)
      have F47 := hidd (fresh_trans F6.out f7)
      have HW7 : Hid ((w6.alloc (.cells (wtA z) 34)).rowIs w6.heap.size 34 18 (wtc z)) := World.rowIs_list w6 (wtL z) 34
      clear f7 HWT HZR F6 HMD HB2 F5 HLF
      generalize (w6.alloc (.cells (wtA z) 34)) = w7 at *
      generalize w6.heap.size = zb at *
      have F07 := hidd (fresh_trans (fresh_trans F2.out F4.out) F47.out)
      obtain ⟨T1, hT1⟩ : ∃ T, T = wtA x1 := ⟨_, rfl⟩
      obtain ⟨Tz, hTz⟩ : ∃ T, T = wtA z := ⟨_, rfl⟩
      have RGx := hidd (RGX.out w7 F07.out)
      have RG1' : Hid (w7.rangeAt xb 0 T1.toList) := by rw [hT1]; exact row_range (L := wtL x1) (row_fresh HW4.out F47.out) rfl
      have RGz : Hid (∀ z', Below w7.heap.size w7 z' → z'.rangeAt zb 0 Tz.toList) := fun z' hz => by rw [hTz]; exact row_range (L := wtL z) (row_fresh HW7.out hz) rfl
      have SL1 : Hid ((Try.prog.info? 34).map (·.size) = some T1.toList.length) := by rw [hT1]; exact sizeW
      have SLz : Hid ((Try.prog.info? 34).map (·.size) = some Tz.toList.length) := by rw [hTz]; exact sizeW
      have HEQ1 : Hid (Calls Try.prog 16 #[.agg T1, .agg T] w7 fun e w' => e = .returned (.bool true) ∧ Below w7.heap.size w7 w') := by rw [hT1, HT.out]; exact eqW_v (HX.out.fresh F07.out) (HR4.out.fresh F47.out) HS1.out
      have HEQ2 : Hid (∀ z', Below w7.heap.size w7 z' → Calls Try.prog 16 #[.agg Tz, .agg T] z' fun e w' => e = .returned (.bool true) ∧ Below z'.heap.size z' w') := fun z' hz => by rw [hTz, HT.out]; exact eqW_v ((HX.out.fresh F07.out).fresh hz) (HZ7.out.fresh hz) HZS.out
      clear hT1 hTz HW4 HW7 HR4 HZ7 HS1 HZS F4 F47
      go_wp2_with (first
        | refine wpList_load_mid rfl 34 _ rfl xb 0 rfl T1.toList _ RG1'.out Try.underlying34 rfl SL1.out ?_
        | refine wpList_load_mid rfl 34 _ rfl w.heap.size 0 rfl T.toList _ RGx.out Try.underlying34 rfl SL.out ?_
        | (go_at_call 16; refine HEQ1.out.mono ?_; rintro e w8 ⟨rfl, f8⟩; have F8 := hidd f8; have RGz8 := hidd (RGz.out w8 f8); have RGx8 := hidd (RGX.out w8 (fresh_trans F07.out f8)); have HEQ8 := hidd (HEQ2.out w8 f8); clear f8 HEQ1 HEQ2 RGz)
        | refine wpList_load_midG rfl 34 _ rfl zb 0 rfl Tz.toList _ RGz8.out Try.underlying34 rfl SLz.out ?_
        | refine wpList_load_midG rfl 34 _ rfl w.heap.size 0 rfl T.toList _ RGx8.out Try.underlying34 rfl SL.out ?_
        | (go_at_call 16; refine HEQ8.out.mono ?_; rintro e w9 ⟨rfl, f9⟩; have F9 := hidd (fresh_trans (fresh_trans F07.out F8.out) f9); clear f9)
        | fail)
      go_meet
      case rel => exact ⟨rfl, rfl, F9.out⟩
    · have hne1 : (er == 0) = false := by simpa using hne
      clear HOR
      go_wp2_with fail
      go_meet
      case rel => exact ⟨rfl, rfl, F2.out⟩
  case rest =>
    obtain ⟨rfl, rfl, HBc⟩ := hcut
    clear HU F2 F1 RG1 HENC HOR
    have HDE := hidd (decode_any (B := B) (HRBh.out wc HBc.out) HBB.out)
    rw [← HNB.out] at HDE
    go_upto_region 11 with (first
      | (go_at_call 13; refine HDE.out.mono ?_; rintro e w3 hq; obtain ⟨x3, er3, rfl, f3, hor⟩ := hq.one; have HO3 := hidd hor; have F3 := hidd f3; clear hq hor f3)
      | (refine wpList_store_row rfl 34 _ _ rfl w3.heap.size (wtA x3) rfl rfl 34 _ (heap_new _ _) sizeW rfl (wtA_one _) ?_))
    try rw [World.setRow_alloc_new]
    try simp only [Act.put]
    have f4 := fresh_alloc w3 (.cells (wtA x3) 34)
    have HW4 : Hid ((w3.alloc (.cells (wtA x3) 34)).rowIs w3.heap.size 34 18 (wtc x3)) := World.rowIs_list w3 (wtL x3) 34
    have F4 := hidd (fresh_trans (fresh_trans HBc.out F3.out) f4)
    have FW := hidd (fresh_trans F0.out F4.out)
    rcases HO3.out with ⟨rfl, hg⟩ | ⟨rfl, _, _⟩
    · have HG := hidd (hg.fresh f4)
      clear hg HO3 f4 HDE F3 HBc
      generalize (w3.alloc (.cells (wtA x3) 34)) = w4 at *
      generalize w3.heap.size = xb at *
      have HRD := hidd (HG.out.own.rd HG.out.i)
      have hfile := HG.out.file
      obtain ⟨T3, hT3⟩ : ∃ T, T = wtA x3 := ⟨_, rfl⟩
      have HEN3 : Hid (Calls Try.prog 12 #[.agg T3] w4 fun e w' => ∃ u c, e = .returned (.tuple #[.slice u nB c, .int .i64 0]) ∧ RdA w' u 1 nB c (bV B) ∧ Below w4.heap.size w4 w') := by
        rw [hT3, HNB.out, hfile]
        refine (enc_ok HRD.out (WtP.z HG.out.may HG.out.fit (WtP.b HG.out.may HG.out.fit)) HG.out.may HG.out.fit).mono ?_
        rintro e w' ⟨u, c, rfl, ho, f⟩
        exact ⟨u, c, rfl, Own.rdb ho, f⟩
      have RG3 : Hid (w4.rangeAt xb 0 T3.toList) := by rw [hT3]; exact row_range (L := wtL x3) HW4.out rfl
      have SL3 : Hid ((Try.prog.info? 34).map (·.size) = some T3.toList.length) := by rw [hT3]; exact sizeW
      have HRB4 : Hid (∀ z, Below w4.heap.size w4 z → RdA z ao 1 nB cap (bV B)) := fun z hz => by rw [HNB.out]; exact HRBh.out z (fresh_trans F4.out hz)
      clear hT3 hfile HG HRD HW4 F4
      go_wp2_with (first
        | refine wpList_load_mid rfl 34 _ rfl xb 0 rfl T3.toList _ RG3.out Try.underlying34 rfl SL3.out ?_
        | (go_at_call 12; refine HEN3.out.mono ?_; rintro e w5 ⟨u5, c5, rfl, hr5, f5⟩; have HQB : Hid (Calls Try.prog 17 #[.slice u5 nB c5, .slice ao nB cap] w5 fun e w' => e = .returned (.bool true) ∧ Below w5.heap.size w5 w') := eqBytes_same hr5 (HRB4.out w5 f5) (fun _ _ => rfl); have F5 := hidd (fresh_trans FW.out f5); clear hr5 f5)
        | (go_at_call 17; refine HQB.out.mono ?_; rintro e w6 ⟨rfl, f6⟩; have F6 := hidd (fresh_trans F5.out f6); clear f6)
        | fail)
      go_ret
      exact ⟨rfl, F6.out⟩
    · clear HO3 f4 HDE F3 HBc HW4 F4
      generalize (w3.alloc (.cells (wtA x3) 34)) = w4 at *
      go_wp2
      go_ret
      exact ⟨rfl, FW.out⟩
end Go.Proofs.Ytilghknalbhacaa
namespace Go.Proofs.Ytilghknalbhacaa
open Go.ChangeShapes Go.WideShapes Go.ChangeAt Go.RowKit Go.Deep
/-! Lists of numbers that came in. -/
theorem add_lit (b off j : Nat) : (⟨b, off, none⟩ : Addr).add j = ⟨b, off + j, none⟩ := by unfold Addr.add; split <;> simp_all
theorem plain_addr {w : World} {a : Addr} {v : Value} (h : w.cell? (a.add 0) = some v) : ∃ b off, a = ⟨b, off, none⟩ := by
  obtain ⟨b, off, sp⟩ := a
  cases sp with
  | none => exact ⟨b, off, rfl⟩
  | some x =>
    have e : (⟨b, off, some x⟩ : Addr).add 0 = ⟨b, off, some x⟩ := by unfold Addr.add; simp
    rw [e] at h
    unfold World.cell? at h
    split at h <;> simp at h
theorem wf_i64 {n : Int} (h : (Lit.int .i64 n).wf = true) : -9223372036854775808 ≤ n ∧ n ≤ 9223372036854775807 := by
  have hmin : IntKind.i64.min = -9223372036854775808 := rfl
  have hmax : IntKind.i64.max = 9223372036854775807 := rfl
  simp only [Lit.wf, Bool.and_eq_true, decide_eq_true_eq] at h; omega
section
variable {H : Type} {enc : TypeId × Value → H} {P : Program} {w : World} {base : Nat} {sp : Nat → Bool} {held : Bool}
theorem open_row {t e : TypeId} {k : IntKind} {fuel : Nat} {v : Value} {x : DataW H × List MemPlace} (ht : P.underlying t = some (.slice e)) (he : P.underlying e = some (.int k)) (hc : P.cellsOf e = 1)
    (h : DataW.trod enc P w base sp held fuel t [v] = some x) :
    ∃ (ao : Option Addr) (n cap : Nat) (f : Nat → Int), v = .slice ao n cap ∧ RdA w ao 1 n cap (fun i => .int k (f i)) ∧ (∀ i, i < n → (Lit.int k (f i)).wf = true) ∧ ((x.1 = .nil ∧ n = 0) ∨ ∃ el rest, x.1 = .slice el rest ∧ el.length = n) := by
  rcases open_ints ht he hc h with ⟨hcs, hx⟩ | ⟨a, len, cap, zs, hcs, _, hl, hm, hz, hx, hcell, hwz⟩
  · simp at hcs
    exact ⟨none, 0, 0, fun _ => 0, hcs, ⟨Nat.le_refl _, Nat.zero_le _, fun h => absurd h (by omega)⟩, fun i hi => absurd hi (by omega), .inl ⟨by rw [hx], rfl⟩⟩
  · simp at hcs
    have hlz : len ≤ zs.length := by rw [hz]; split <;> omega
    refine ⟨some a, len, cap, fun i => zs.getD i 0, hcs, ⟨hl, hm, fun h0 => ?_⟩, fun i hi => ?_, .inr ⟨_, _, by rw [hx], ?_⟩⟩
    · have h1 := hcell 0 (by omega)
      obtain ⟨b, off, rfl⟩ := plain_addr h1
      exact ⟨b, off, rfl, fun j hj => by have := hcell j (by omega); rwa [add_lit] at this⟩
    · apply hwz
      dsimp only
      rw [List.getD_eq_getElem?_getD, List.getElem?_eq_getElem (by omega)]
      exact List.getElem_mem _
    · simp [lits]; omega
end
theorem obulk_one {H : Type} (d : DataW H) : 1 ≤ Rows.uptoBulk d := by
  cases d with
  | lit l => cases l <;> simp [Rows.uptoBulk]
  | nil => simp [Rows.uptoBulk]
  | ptr d => simp [Rows.uptoBulk]
  | slice a b => simp [Rows.uptoBulk]
  | agg a => simp [Rows.uptoBulk]
  | iface t d => simp [Rows.uptoBulk]
  | map e => simp [Rows.uptoBulk]
  | held h => simp [Rows.uptoBulk]
theorem obulk_mem {H : Type} {d : DataW H} : ∀ {l : List (DataW H)}, d ∈ l → Rows.uptoBulk d ≤ Rows.uptoBulkAll l
  | [], h => absurd h (by simp)
  | x :: r, h => by
    simp only [Rows.uptoBulkAll]
    rcases List.mem_cons.1 h with e | e
    · subst e; omega
    · have := obulk_mem e; omega
theorem obulk_length {H : Type} : ∀ (l : List (DataW H)), l.length ≤ Rows.uptoBulkAll l
  | [] => by simp [Rows.uptoBulkAll]
  | x :: r => by
    have h1 := obulk_one x
    have h2 := obulk_length r
    simp only [Rows.uptoBulkAll, List.length_cons]; omega
theorem bulk_row {H : Type} {d : DataW H} {n : Nat} (h : (d = .nil ∧ n = 0) ∨ ∃ el rest, d = .slice el rest ∧ el.length = n) : n ≤ Rows.uptoBulk d := by
  rcases h with ⟨_, e⟩ | ⟨el, rest, rfl, e⟩
  · omega
  · have := obulk_length el
    simp only [Rows.uptoBulk]; omega
theorem row_bulk {H : Type} {l : List (DataW H)} {x : DataW H} {n : Nat} (hb : Rows.uptoBulkAll l ≤ 1048576) (hm : x ∈ l) (h : (x = .nil ∧ n = 0) ∨ ∃ el rest, x = .slice el rest ∧ el.length = n) : n ≤ 1048576 :=
  Nat.le_trans (Nat.le_trans (bulk_row h) (obulk_mem hm)) hb
theorem cellsU : Try.prog.cellsOf 5 = 1 := by kernel_rfl
theorem wf_u8 {n : Int} (h : (Lit.int .u8 n).wf = true) : 0 ≤ n ∧ n ≤ 255 := by
  have hmin : IntKind.u8.min = 0 := rfl
  have hmax : IntKind.u8.max = 255 := rfl
  simp only [Lit.wf, Bool.and_eq_true, decide_eq_true_eq] at h; omega
set_option maxRecDepth 100000 in
theorem open_bytes {H : Type} {enc : TypeId × Value → H} {W : World} {base : Nat} {sp : Nat → Bool} {held : Bool} {r : Reach} {b0 : Nat} {v0 : Value} {d0 : DataW H} {ps0 : List MemPlace}
    (hval0 : Value.okWide Try.prog W r b0 35 v0) (h0 : DataW.Trod enc Try.prog W base sp held 35 v0 d0 ps0) :
    ∃ (ao : Option Addr) (l : List Int) (cap : Nat), v0 = .slice ao l.length cap ∧ RdA W ao 1 l.length cap (fun j => .int .u8 (l.getD j 0)) ∧ Byt l ∧ ((d0 = .nil ∧ l.length = 0) ∨ ∃ el rest, d0 = .slice el rest ∧ el.length = l.length) := by
  obtain ⟨a2, l2, c2, rfl⟩ := okWide_slice Try.underlying35 hval0
  obtain ⟨fuel, h1⟩ := h0
  have h1 : DataW.trod enc Try.prog W base sp held fuel 35 [.slice a2 l2 c2] = some (d0, ps0) := h1
  obtain ⟨ao, n, cap, f, e, hr, hw, hs⟩ := open_row Try.underlying35 Try.underlying5 cellsU h1
  have hn : ((List.range n).map f).length = n := by simp
  refine ⟨ao, (List.range n).map f, cap, by rw [hn]; exact e, ?_, fun x hx => ?_, by rw [hn]; exact hs⟩
  · rw [hn]
    refine hr.congr (fun j hj => ?_)
    have hj' : j < n := by omega
    simp [List.getD_eq_getElem?_getD, hj']
  · obtain ⟨i, hi, rfl⟩ := List.mem_map.1 hx
    have := wf_u8 (hw i (List.mem_range.1 hi))
    omega
end Go.Proofs.Ytilghknalbhacaa
namespace Go.Proofs.Ytilghknalbhacaa
open Go.ChangeShapes Go.WideShapes Go.ChangeAt Go.RowKit Go.Deep
/-! The law ModelRounds, from what came in. -/
set_option maxRecDepth 100000 in
theorem modelRounds_walkR {H : Type} {enc : TypeId × Value → H} {base : Nat} {sp : Nat → Bool} {held : Bool} {r : Reach} {b0 : Nat} {v0 v1 : Value} {d0 d1 : DataW H} {ps0 ps1 : List MemPlace} (W : World)
    (hval0 : Value.okWide Try.prog W r b0 34 v0) (h0 : DataW.Trod enc Try.prog W base sp held 34 v0 d0 ps0)
    (hval1 : Value.okWide Try.prog W r b0 35 v1) (h1 : DataW.Trod enc Try.prog W base sp held 35 v1 d1 ps1) :
    Calls Try.prog 4 #[v0, v1] W fun e w' => e = .returned (.bool true) ∧ Below W.heap.size W w' := by
  obtain ⟨x, rfl, hx, _⟩ := open_weights hval0 h0
  obtain ⟨ao, l, cap, rfl, hr, hby, _⟩ := open_bytes hval1 h1
  exact rounds_any hx hr hby
end Go.Proofs.Ytilghknalbhacaa
