import Derived.Test.YtilghknalbhacaaENX
import Derived.Test.YtilghknalbhacaaLFX
namespace Go.Proofs.Ytilghknalbhacaa
open Go.RowKit
/-! Encode. -/
set_option maxRecDepth 100000 in
set_option maxHeartbeats 4000000 in
theorem enc_bad {w : World} {x : WtD} (hx : WtR w x) {er : Int} (he : IsE x er) (h0 : er ≠ 0) :
    Calls Try.prog 12 #[.agg #[.int .i64 x.V, .int .i64 x.W, .int .i64 x.H, .int .i64 x.K, .int .i64 x.L, .int .i64 x.D, .int .i64 x.N, .int .i64 x.M, .int .i64 x.E.R, .int .i64 x.E.C, .slice x.E.O x.E.n x.E.c, .slice x.tO x.tn x.tc, .slice x.yO x.yn x.yc, .slice x.F.O x.F.n x.F.c, .int .i64 x.Q.R, .int .i64 x.Q.C, .slice x.Q.O x.Q.n x.Q.c, .slice x.mO x.mn x.mc]] w fun e w' => e = .returned (.tuple #[.slice none 0 0, .int .i64 er]) ∧ Below w.heap.size w w' := by
  obtain ⟨T, hT⟩ : ∃ T, T = wtA x := ⟨_, rfl⟩
  have hr := World.rowIs_list w (wtL x) 34
  have f1 := fresh_alloc w (.cells #[.int .i64 x.V, .int .i64 x.W, .int .i64 x.H, .int .i64 x.K, .int .i64 x.L, .int .i64 x.D, .int .i64 x.N, .int .i64 x.M, .int .i64 x.E.R, .int .i64 x.E.C, .slice x.E.O x.E.n x.E.c, .slice x.tO x.tn x.tc, .slice x.yO x.yn x.yc, .slice x.F.O x.F.n x.F.c, .int .i64 x.Q.R, .int .i64 x.Q.C, .slice x.Q.O x.Q.n x.Q.c, .slice x.mO x.mn x.mc] 34)
  have SL : Hid ((Try.prog.info? 34).map (·.size) = some T.toList.length) := by rw [hT]; exact sizeW
  have RG : Hid ((w.alloc (.cells #[.int .i64 x.V, .int .i64 x.W, .int .i64 x.H, .int .i64 x.K, .int .i64 x.L, .int .i64 x.D, .int .i64 x.N, .int .i64 x.M, .int .i64 x.E.R, .int .i64 x.E.C, .slice x.E.O x.E.n x.E.c, .slice x.tO x.tn x.tc, .slice x.yO x.yn x.yc, .slice x.F.O x.F.n x.F.c, .int .i64 x.Q.R, .int .i64 x.Q.C, .slice x.Q.O x.Q.n x.Q.c, .slice x.mO x.mn x.mc] 34)).rangeAt w.heap.size 0 T.toList) := by rw [hT]; exact row_range hr rfl
  have HCK : Hid (∀ z, Below w.heap.size w z → Calls Try.prog 22 #[.agg T] z fun e w' => e = .returned (.int .i64 er) ∧ Below z.heap.size z w') := fun z hz => by rw [hT]; exact check_any (hx.fresh hz) er he
  have hne : (er != 0) = true := by simpa using h0
  clear hx hr hT he h0
  go_enter Try.func12, Try.ntmps12
  go_upto_region 1 with fail
  generalize w.alloc (.cells #[.int .i64 x.V, .int .i64 x.W, .int .i64 x.H, .int .i64 x.K, .int .i64 x.L, .int .i64 x.D, .int .i64 x.N, .int .i64 x.M, .int .i64 x.E.R, .int .i64 x.E.C, .slice x.E.O x.E.n x.E.c, .slice x.tO x.tn x.tc, .slice x.yO x.yn x.yc, .slice x.F.O x.F.n x.F.c, .int .i64 x.Q.R, .int .i64 x.Q.C, .slice x.Q.O x.Q.n x.Q.c, .slice x.mO x.mn x.mc] 34) = wa at *
  go_wp2_with (refine wpList_load_mid rfl 34 _ rfl w.heap.size 0 rfl T.toList _ RG.out Try.underlying34 rfl SL.out ?_)
  refine (HCK.out _ f1).mono ?_
  rintro e w1 ⟨rfl, f2⟩
  have F1 := hidd (fresh_trans f1 f2)
  clear f1 f2 HCK RG SL
  go_wp2
  go_ret2
  exact ⟨rfl, F1.out⟩
set_option maxRecDepth 100000 in
set_option maxHeartbeats 8000000 in
theorem enc_ok {w : World} {x : WtD} (h : WtR w x) (hz : WtZ x) (hm : x.may) (hp : WtP x) :
    Calls Try.prog 12 #[.agg #[.int .i64 x.V, .int .i64 x.W, .int .i64 x.H, .int .i64 x.K, .int .i64 x.L, .int .i64 x.D, .int .i64 x.N, .int .i64 x.M, .int .i64 x.E.R, .int .i64 x.E.C, .slice x.E.O x.E.n x.E.c, .slice x.tO x.tn x.tc, .slice x.yO x.yn x.yc, .slice x.F.O x.F.n x.F.c, .int .i64 x.Q.R, .int .i64 x.Q.C, .slice x.Q.O x.Q.n x.Q.c, .slice x.mO x.mn x.mc]] w fun e w' => ∃ u c, e = .returned (.tuple #[.slice u (fileL x).length c, .int .i64 0]) ∧ OwB w' (w.heap.size + 1) (.slice u (fileL x).length c) (fileL x) ∧ Below w.heap.size w w' := by
  obtain ⟨T, hT⟩ : ∃ T, T = wtA x := ⟨_, rfl⟩
  have hxx := h
  have SLW : Hid ((Try.prog.info? 34).map (·.size) = some T.toList.length) := by rw [hT]; exact sizeW
  have RGW : Hid ((w.alloc (.cells #[.int .i64 x.V, .int .i64 x.W, .int .i64 x.H, .int .i64 x.K, .int .i64 x.L, .int .i64 x.D, .int .i64 x.N, .int .i64 x.M, .int .i64 x.E.R, .int .i64 x.E.C, .slice x.E.O x.E.n x.E.c, .slice x.tO x.tn x.tc, .slice x.yO x.yn x.yc, .slice x.F.O x.F.n x.F.c, .int .i64 x.Q.R, .int .i64 x.Q.C, .slice x.Q.O x.Q.n x.Q.c, .slice x.mO x.mn x.mc] 34)).rangeAt w.heap.size 0 T.toList) := by rw [hT]; exact row_range (World.rowIs_list w (wtL x) 34) rfl
  have HCK : Hid (∀ z, Below w.heap.size w z → Calls Try.prog 22 #[.agg T] z fun e w' => e = .returned (.int .i64 0) ∧ Below z.heap.size z w') := fun z hz => by rw [hT]; exact check_any (hxx.fresh hz) 0 (.inr (.inr ⟨hm, hp, rfl⟩))
  clear hT hxx hm hp
  have hr : (w.alloc (.cells #[.int .i64 x.V, .int .i64 x.W, .int .i64 x.H, .int .i64 x.K, .int .i64 x.L, .int .i64 x.D, .int .i64 x.N, .int .i64 x.M, .int .i64 x.E.R, .int .i64 x.E.C, .slice x.E.O x.E.n x.E.c, .slice x.tO x.tn x.tc, .slice x.yO x.yn x.yc, .slice x.F.O x.F.n x.F.c, .int .i64 x.Q.R, .int .i64 x.Q.C, .slice x.Q.O x.Q.n x.Q.c, .slice x.mO x.mn x.mc] 34)).rowIs w.heap.size 34 18 (wtc x) := World.rowIs_list w (wtL x) 34
  have f1 := fresh_alloc w (.cells #[.int .i64 x.V, .int .i64 x.W, .int .i64 x.H, .int .i64 x.K, .int .i64 x.L, .int .i64 x.D, .int .i64 x.N, .int .i64 x.M, .int .i64 x.E.R, .int .i64 x.E.C, .slice x.E.O x.E.n x.E.c, .slice x.tO x.tn x.tc, .slice x.yO x.yn x.yc, .slice x.F.O x.F.n x.F.c, .int .i64 x.Q.R, .int .i64 x.Q.C, .slice x.Q.O x.Q.n x.Q.c, .slice x.mO x.mn x.mc] 34)
  have hs : (w.alloc (.cells #[.int .i64 x.V, .int .i64 x.W, .int .i64 x.H, .int .i64 x.K, .int .i64 x.L, .int .i64 x.D, .int .i64 x.N, .int .i64 x.M, .int .i64 x.E.R, .int .i64 x.E.C, .slice x.E.O x.E.n x.E.c, .slice x.tO x.tn x.tc, .slice x.yO x.yn x.yc, .slice x.F.O x.F.n x.F.c, .int .i64 x.Q.R, .int .i64 x.Q.C, .slice x.Q.O x.Q.n x.Q.c, .slice x.mO x.mn x.mc] 34)).heap.size = w.heap.size + 1 := by simp
  have HX := hidd h
  have HZ := hidd hz
  clear h hz
  go_enter Try.func12, Try.ntmps12
  go_upto_region 1 with fail
  generalize w.alloc (.cells #[.int .i64 x.V, .int .i64 x.W, .int .i64 x.H, .int .i64 x.K, .int .i64 x.L, .int .i64 x.D, .int .i64 x.N, .int .i64 x.M, .int .i64 x.E.R, .int .i64 x.E.C, .slice x.E.O x.E.n x.E.c, .slice x.tO x.tn x.tc, .slice x.yO x.yn x.yc, .slice x.F.O x.F.n x.F.c, .int .i64 x.Q.R, .int .i64 x.Q.C, .slice x.Q.O x.Q.n x.Q.c, .slice x.mO x.mn x.mc] 34) = wa at *
  have HRW : Hid (∀ z, Below (w.heap.size + 1) wa z → z.rowIs w.heap.size 34 18 (wtc x)) := fun z hz => hr.of_block (hz.block _ (by omega))
  have HF1 := hidd f1
  have HS := hidd hs
  have HLW : Hid (∀ z, Below (w.heap.size + 1) wa z → Below w.heap.size w z) := fun z hz => HF1.out.trans (hz.mono (by omega))

  have fr := hidd hr
  clear hr
  go_wp2_with (refine wpList_load_mid rfl 34 _ rfl w.heap.size 0 rfl T.toList _ RGW.out Try.underlying34 rfl SLW.out ?_)
  refine (HCK.out _ f1).mono ?_
  rintro e wk ⟨rfl, fk⟩
  have FK := hidd (fk.mono (show w.heap.size + 1 ≤ wa.heap.size by omega))
  clear HCK RGW SLW f1 hs fk fr
  have fb := fresh_alloc wk (.cells #[.int .u8 97, .int .u8 117, .int .u8 103, .int .u8 117, .int .u8 114, .int .u8 1] 5 (6, 7))
  have hks : w.heap.size + 1 ≤ wk.heap.size := by have := FK.out.size; have := HS.out; omega
  have O0 : Hid (FullB (wk.alloc (.cells #[.int .u8 97, .int .u8 117, .int .u8 103, .int .u8 117, .int .u8 114, .int .u8 1] 5 (6, 7))) (.slice (some ⟨wk.heap.size, 0, none⟩) 6 6) beginL) := full_newL wk beginL 5 (6, 7)
  have F0 : Hid (Below (w.heap.size + 1) wa (wk.alloc (.cells #[.int .u8 97, .int .u8 117, .int .u8 103, .int .u8 117, .int .u8 114, .int .u8 1] 5 (6, 7)))) := FK.out.trans (fb.mono hks)
  have hcv : (convert 35 35 (.slice (some ⟨wk.heap.size, 0, none⟩) 6 6)).run Try.prog (wk.alloc (.cells #[.int .u8 97, .int .u8 117, .int .u8 103, .int .u8 117, .int .u8 114, .int .u8 1] 5)) = .ok (.slice (some ⟨wk.heap.size, 0, none⟩) 6 6) (wk.alloc (.cells #[.int .u8 97, .int .u8 117, .int .u8 103, .int .u8 117, .int .u8 114, .int .u8 1] 5 (6, 7))) := Lib.run_convert_bytes_const wk 35 5 #[.int .u8 97, .int .u8 117, .int .u8 103, .int .u8 117, .int .u8 114, .int .u8 1] 6 6 Try.underlying35 Try.underlying5
  clear fb hks
  have c0 : (wk.alloc (.cells #[.int .u8 97, .int .u8 117, .int .u8 103, .int .u8 117, .int .u8 114, .int .u8 1] 5 (6, 7))).cell? ⟨w.heap.size, 0, none⟩ = some (.int .i64 x.V) := (HRW.out _ F0.out).cell (i := 0) (by decide)
  have c1 : (wk.alloc (.cells #[.int .u8 97, .int .u8 117, .int .u8 103, .int .u8 117, .int .u8 114, .int .u8 1] 5 (6, 7))).cell? ⟨w.heap.size, 1, none⟩ = some (.int .i64 x.W) := (HRW.out _ F0.out).cell (i := 1) (by decide)
  have c2 : (wk.alloc (.cells #[.int .u8 97, .int .u8 117, .int .u8 103, .int .u8 117, .int .u8 114, .int .u8 1] 5 (6, 7))).cell? ⟨w.heap.size, 2, none⟩ = some (.int .i64 x.H) := (HRW.out _ F0.out).cell (i := 2) (by decide)
  have c3 : (wk.alloc (.cells #[.int .u8 97, .int .u8 117, .int .u8 103, .int .u8 117, .int .u8 114, .int .u8 1] 5 (6, 7))).cell? ⟨w.heap.size, 3, none⟩ = some (.int .i64 x.K) := (HRW.out _ F0.out).cell (i := 3) (by decide)
  have c4 : (wk.alloc (.cells #[.int .u8 97, .int .u8 117, .int .u8 103, .int .u8 117, .int .u8 114, .int .u8 1] 5 (6, 7))).cell? ⟨w.heap.size, 4, none⟩ = some (.int .i64 x.L) := (HRW.out _ F0.out).cell (i := 4) (by decide)
  have c5 : (wk.alloc (.cells #[.int .u8 97, .int .u8 117, .int .u8 103, .int .u8 117, .int .u8 114, .int .u8 1] 5 (6, 7))).cell? ⟨w.heap.size, 5, none⟩ = some (.int .i64 x.D) := (HRW.out _ F0.out).cell (i := 5) (by decide)
  have c6 : (wk.alloc (.cells #[.int .u8 97, .int .u8 117, .int .u8 103, .int .u8 117, .int .u8 114, .int .u8 1] 5 (6, 7))).cell? ⟨w.heap.size, 6, none⟩ = some (.int .i64 x.N) := (HRW.out _ F0.out).cell (i := 6) (by decide)
  have c7 : (wk.alloc (.cells #[.int .u8 97, .int .u8 117, .int .u8 103, .int .u8 117, .int .u8 114, .int .u8 1] 5 (6, 7))).cell? ⟨w.heap.size, 7, none⟩ = some (.int .i64 x.M) := (HRW.out _ F0.out).cell (i := 7) (by decide)
  have HC1 := hidd (cfgB_any (wk.alloc (.cells #[.int .u8 97, .int .u8 117, .int .u8 103, .int .u8 117, .int .u8 114, .int .u8 1] 5 (6, 7))) x.V x.W x.H x.K x.L x.D x.N x.M)
  go_wp2_with fail
  refine HC1.out.mono ?_
  rintro e w1a ⟨v1a, rfl, ho1a, f1a⟩
  have HD1 := hidd (secF_in (b0 := w.heap.size + 1) (by have := F0.out.size; have := HS.out; omega) O0.out (by show 6 ≤ _; decide) 67 ho1a f1a (by show 0 < 8; decide) (by show 8 ≤ _; decide))
  clear HC1 hcv c0 c1 c2 c3 c4 c5 c6 c7
  go_wp2_with fail
  refine HD1.out.mono ?_
  rintro e w1 ⟨v1, rfl, ho1, f1⟩
  have o1' : OwB w1 (w.heap.size + 1) v1 (h0L x) := ho1
  have O1 := hidd o1'
  have F1 := hidd (F0.out.trans f1)
  clear ho1 f1 o1' ho1a f1a HD1 O0 F0
  have c10 : w1.cell? ⟨w.heap.size, 10, none⟩ = some (.slice x.E.O x.E.n x.E.c) := (HRW.out _ F1.out).cell (i := 10) (by decide)
  have HC2 := hidd (narB_in (HLW.out _ F1.out) (by have := F1.out.size; have := HS.out; omega) (Nat.le_refl _) (own_nilB w1 w1.heap.size) (by show 0 ≤ _; omega) HX.out.E.rd HZ.out.b.E HX.out.E.bd)
  go_wp2_with fail
  refine HC2.out.mono ?_
  rintro e w2a ⟨v2a, rfl, ho2a, f2a⟩
  have HD2 := hidd (sec_in (by have := F1.out.size; have := HS.out; omega) O1.out (by show 19 ≤ _; decide) 69 ho2a f2a (by rw [List.nil_append, nbL_len]; exact HZ.out.E) (by rw [List.nil_append, nbL_len]; have := HZ.out.b.E; omega))
  clear HC2 c10
  go_wp2_with fail
  refine HD2.out.mono ?_
  rintro e w2 ⟨v2, rfl, ho2, f2⟩
  have o2' : OwB w2 (w.heap.size + 1) v2 (h1L x) := ho2
  have O2 := hidd o2'
  have F2 := hidd (F1.out.trans f2)
  clear ho2 f2 o2' ho2a f2a HD2 O1 F1
  have c11 : w2.cell? ⟨w.heap.size, 11, none⟩ = some (.slice x.tO x.tn x.tc) := (HRW.out _ F2.out).cell (i := 11) (by decide)
  have HC3 := hidd (turnB_any (HX.out.T.fresh (HLW.out _ F2.out)) HZ.out.b.T)
  go_wp2_with fail
  refine HC3.out.mono ?_
  rintro e w3a ⟨v3a, rfl, ho3a, f3a⟩
  have HD3 := hidd (sec_in (by have := F2.out.size; have := HS.out; omega) O2.out (by have := h2_len HZ.out; unfold h2L at this; rw [List.length_append] at this; omega) 84 ho3a f3a (by rw [trL_len]; have := HZ.out.T; omega) (by rw [trL_len]; have := HZ.out.b.T; omega))
  clear HC3 c11
  go_wp2_with fail
  refine HD3.out.mono ?_
  rintro e w3 ⟨v3, rfl, ho3, f3⟩
  have o3' : OwB w3 (w.heap.size + 1) v3 (h2L x) := ho3
  have O3 := hidd o3'
  have F3 := hidd (F2.out.trans f3)
  clear ho3 f3 o3' ho3a f3a HD3 O2 F2
  have hyn := HX.out.yle
  have hyt := HX.out.ytop
  unfold maxLen at hyt
  have c12 : w3.cell? ⟨w.heap.size, 12, none⟩ = some (.slice x.yO x.yn x.yc) := (HRW.out _ F3.out).cell (i := 12) (by decide)
  go_wp2
  clear c12
  go_loopw [5, 7, 35] (fun v _ i wr => ∃ k : Nat, k ≤ x.yn ∧ i = .int .i64 (k : Int) ∧ Hid (OwB wr (w.heap.size + 1) v (yL x k)) ∧ Hid (Below (w.heap.size + 1) wa wr)) (fun _ _ i _ => x.yn - (intOf i).toNat)
  case atStart => exact ⟨0, Nat.zero_le _, by simp, O3.out, F3.out⟩
  case round =>
    clear O3 F3
    obtain ⟨k, hk, rfl, HO, HB⟩ := hrel
    by_cases hlt : k < x.yn
    · have i0 : (0 : Int) ≤ (k : Int) := by omega
      have i1 : (k : Int) < (x.yn : Int) := by omega
      obtain ⟨yb, yf, ey, hyc⟩ := HX.out.yat (by omega)
      have RG' : wr.rangeAt yb (yf + k * 30) (lyL (x.ly k)) := fun j v h => fresh_cell (HLW.out _ HB.out) ((hyc k hlt).range j v h)
      obtain ⟨T, hT⟩ : ∃ T, T = lyA (x.ly k) := ⟨_, rfl⟩
      have RG : Hid (wr.rangeAt yb (yf + k * 30) T.toList) := by rw [hT]; exact RG'
      have SL : Hid ((Try.prog.info? 67).map (·.size) = some T.toList.length) := by rw [hT]; exact sizeL
      have S30 : Hid ((Try.prog.info? 67).map (·.size) = some T.size) := by rw [hT]; exact sizeL
      have H1 : Hid (T.all (·.oneCell') = true) := by rw [hT]; exact lyA_one _
      have HOZ : Hid ((#[.slice none 0 0, .slice none 0 0, .int .i64 0, .int .i64 0, .slice none 0 0, .int .i64 0, .int .i64 0, .slice none 0 0, .int .i64 0, .int .i64 0, .slice none 0 0, .int .i64 0, .int .i64 0, .slice none 0 0, .int .i64 0, .int .i64 0, .slice none 0 0, .int .i64 0, .int .i64 0, .slice none 0 0, .int .i64 0, .int .i64 0, .slice none 0 0, .int .i64 0, .int .i64 0, .int .i64 0, .int .i64 0, .int .i64 0, .int .i64 0, .int .i64 0] : Array Value).size = T.size) := by rw [hT]; rfl
      have HZH : Hid ((wr.alloc (.cells #[.slice none 0 0, .slice none 0 0, .int .i64 0, .int .i64 0, .slice none 0 0, .int .i64 0, .int .i64 0, .slice none 0 0, .int .i64 0, .int .i64 0, .slice none 0 0, .int .i64 0, .int .i64 0, .slice none 0 0, .int .i64 0, .int .i64 0, .slice none 0 0, .int .i64 0, .int .i64 0, .slice none 0 0, .int .i64 0, .int .i64 0, .slice none 0 0, .int .i64 0, .int .i64 0, .int .i64 0, .int .i64 0, .int .i64 0, .int .i64 0, .int .i64 0] 67)).heap[wr.heap.size]? = some (.cells #[.slice none 0 0, .slice none 0 0, .int .i64 0, .int .i64 0, .slice none 0 0, .int .i64 0, .int .i64 0, .slice none 0 0, .int .i64 0, .int .i64 0, .slice none 0 0, .int .i64 0, .int .i64 0, .slice none 0 0, .int .i64 0, .int .i64 0, .slice none 0 0, .int .i64 0, .int .i64 0, .slice none 0 0, .int .i64 0, .int .i64 0, .slice none 0 0, .int .i64 0, .int .i64 0, .int .i64 0, .int .i64 0, .int .i64 0, .int .i64 0, .int .i64 0] 67 (0, 0))) := heap_new _ _
      have HEQ : Hid ((wr.alloc (.cells #[.slice none 0 0, .slice none 0 0, .int .i64 0, .int .i64 0, .slice none 0 0, .int .i64 0, .int .i64 0, .slice none 0 0, .int .i64 0, .int .i64 0, .slice none 0 0, .int .i64 0, .int .i64 0, .slice none 0 0, .int .i64 0, .int .i64 0, .slice none 0 0, .int .i64 0, .int .i64 0, .slice none 0 0, .int .i64 0, .int .i64 0, .slice none 0 0, .int .i64 0, .int .i64 0, .int .i64 0, .int .i64 0, .int .i64 0, .int .i64 0, .int .i64 0] 67)).setRow wr.heap.size T = wr.alloc (.cells T 67)) := World.setRow_alloc_new _ _ _ _
      have RG2 : Hid ((wr.alloc (.cells T 67)).rangeAt wr.heap.size 0 T.toList) := by rw [hT]; exact row_range (World.rowIs_list wr (lyL (x.ly k)) 67) rfl
      have fT := fresh_alloc wr (.cells T 67)
      have hwr : w.heap.size + 1 ≤ wr.heap.size := by have := HB.out.size; have := HS.out; omega
      have HB1 := hidd (HB.out.trans (fT.mono hwr))
      have HO1 := hidd (Own.kept HO.out fT)
      have HC : Hid (∀ z, Below (w.heap.size + 1) wa z → Calls Try.prog 33 #[.agg T] z fun e w' => ∃ v', e = .returned v' ∧ OwB w' z.heap.size v' (lyB (x.ly k)) ∧ Below z.heap.size z w') := fun z hzz => by
        rw [hT]
        exact (layB_any ((HX.out.yr k hlt).fresh (HLW.out _ hzz)) (HZ.out.b.ym k hlt) (HZ.out.b.y1 k hlt) (HZ.out.b.y2 k hlt)).mono fun _ _ ⟨v', h1, h2, h3⟩ => ⟨v', h1, h2.weaken (by omega), h3⟩
      have EY := hidd ey
      clear RG' hT hyc fT ey
      rw [EY.out]
      go_upto_region 10 with (first | refine wpList_load_mid rfl 67 _ rfl yb (yf + k * 30) rfl T.toList _ RG.out Try.underlying67 rfl SL.out ?_ | refine wpList_store_row rfl 67 _ _ rfl wr.heap.size T rfl rfl 67 _ HZH.out S30.out HOZ.out H1.out ?_)
      rw [HEQ.out]
      clear HEQ HZH HOZ H1 S30 RG HO HB
      generalize wr.alloc (.cells T 67) = wq at *
      have HC2 := hidd (HC.out wq HB1.out)
      go_wp2_with (refine wpList_load_mid rfl 67 _ rfl wr.heap.size 0 rfl T.toList _ RG2.out Try.underlying67 rfl SL.out ?_)
      refine HC2.out.mono ?_
      rintro e wb ⟨vb, rfl, hob, fb⟩
      have hll := lyB_len (HZ.out.b.ym k hlt) (HZ.out.b.y1 k hlt) (HZ.out.b.y2 k hlt)
      have HD := hidd (sec_in (by have := HB1.out.size; have := HS.out; omega) HO1.out (by have := yL_len HZ.out k (by omega); have := HZ.out.y4; omega) 76 hob fb hll.1 (by omega))
      clear HC HC2 RG2 SL hob fb hll
      go_wp2_with fail
      refine HD.out.mono ?_
      rintro e wc ⟨vc, rfl, hoc, fc⟩
      have hoc' : OwB wc (w.heap.size + 1) vc (yL x (k + 1)) := by rw [yL_succ]; exact hoc
      have HO4 := hidd hoc'
      have HB4 := hidd (HB1.out.trans fc)
      clear hoc hoc' fc HD HO1 HB1 EY hwr
      go_wp2
      go_roundw
      case rel => exact ⟨k + 1, by omega, by go_num, HO4.out, HB4.out⟩
      case measure => simp [intOf]; omega
    · obtain rfl : k = x.yn := by omega
      have hnl : ¬ ((x.yn : Int) < (x.yn : Int)) := by omega
      have O4 := HO
      have F4 := HB
      have c13 : wr.cell? ⟨w.heap.size, 13, none⟩ = some (.slice x.F.O x.F.n x.F.c) := (HRW.out _ F4.out).cell (i := 13) (by decide)
      generalize wr = w4 at *
      clear HO HB

      have HC5 := hidd (narB_in (HLW.out _ F4.out) (by have := F4.out.size; have := HS.out; omega) (Nat.le_refl _) (own_nilB w4 w4.heap.size) (by show 0 ≤ _; omega) HX.out.F.rd HZ.out.b.F HX.out.F.bd)
      go_wp2_with fail
      refine HC5.out.mono ?_
      rintro e w5a ⟨v5a, rfl, ho5a, f5a⟩
      have HD5 := hidd (sec_in (by have := F4.out.size; have := HS.out; omega) O4.out (by have := yL_len HZ.out x.yn (Nat.le_refl _); have := HZ.out.y4; omega) 70 ho5a f5a (by rw [List.nil_append, nbL_len]; exact HZ.out.F) (by rw [List.nil_append, nbL_len]; have := HZ.out.b.F; omega))
      clear HC5 c13
      go_wp2_with fail
      refine HD5.out.mono ?_
      rintro e w5 ⟨v5, rfl, ho5, f5⟩
      have o5' : OwB w5 (w.heap.size + 1) v5 (e1L x) := ho5
      have O5 := hidd o5'
      have F5 := hidd (F4.out.trans f5)
      clear ho5 f5 o5' ho5a f5a HD5 O4 F4
      have c16 : w5.cell? ⟨w.heap.size, 16, none⟩ = some (.slice x.Q.O x.Q.n x.Q.c) := (HRW.out _ F5.out).cell (i := 16) (by decide)
      have HC6 := hidd (narB_in (HLW.out _ F5.out) (by have := F5.out.size; have := HS.out; omega) (Nat.le_refl _) (own_nilB w5 w5.heap.size) (by show 0 ≤ _; omega) HX.out.Q.rd HZ.out.b.Q HX.out.Q.bd)
      go_wp2_with fail
      refine HC6.out.mono ?_
      rintro e w6a ⟨v6a, rfl, ho6a, f6a⟩
      have HD6 := hidd (sec_in (by have := F5.out.size; have := HS.out; omega) O5.out (by have := (e2_len HZ.out).1; omega) 72 ho6a f6a (by rw [List.nil_append, nbL_len]; exact HZ.out.Q) (by rw [List.nil_append, nbL_len]; have := HZ.out.b.Q; omega))
      clear HC6 c16
      go_wp2_with fail
      refine HD6.out.mono ?_
      rintro e w6 ⟨v6, rfl, ho6, f6⟩
      have o6' : OwB w6 (w.heap.size + 1) v6 (e2L x) := ho6
      have O6 := hidd o6'
      have F6 := hidd (F5.out.trans f6)
      clear ho6 f6 o6' ho6a f6a HD6 O5 F5
      have hmn := HX.out.mle
      have hmt := HX.out.mtop
      unfold maxLen at hmt
      have c17 : w6.cell? ⟨w.heap.size, 17, none⟩ = some (.slice x.mO x.mn x.mc) := (HRW.out _ F6.out).cell (i := 17) (by decide)
      go_wp2
      clear c17
      go_loopw [5, 9, 58] (fun v _ i wr => ∃ k : Nat, k ≤ x.mn ∧ i = .int .i64 (k : Int) ∧ Hid (OwB wr (w.heap.size + 1) v (mL x k)) ∧ Hid (Below (w.heap.size + 1) wa wr)) (fun _ _ i _ => x.mn - (intOf i).toNat)
      case atStart => exact ⟨0, Nat.zero_le _, by simp, O6.out, F6.out⟩
      case round =>
        clear O6 F6
        obtain ⟨k, hk, rfl, HO, HB⟩ := hrel
        by_cases hlt : k < x.mn
        · have i0 : (0 : Int) ≤ (k : Int) := by omega
          have i1 : (k : Int) < (x.mn : Int) := by omega
          obtain ⟨mb, mf, em, hmc⟩ := HX.out.mat (by omega)
          obtain ⟨d0, d1, d2⟩ := hmc k hlt
          replace d0 := fresh_cell (HLW.out _ HB.out) d0
          replace d1 := fresh_cell (HLW.out _ HB.out) d1
          replace d2 := fresh_cell (HLW.out _ HB.out) d2
          have fT := fresh_alloc wr (.cells #[.int .i64 (x.md k).R, .int .i64 (x.md k).C, .slice (x.md k).O (x.md k).n (x.md k).c] 29)
          have hwr : w.heap.size + 1 ≤ wr.heap.size := by have := HB.out.size; have := HS.out; omega
          have HB1 := hidd (HB.out.trans (fT.mono hwr))
          have HO1 := hidd (Own.kept HO.out fT)
          have HC := hidd (narB_in (HLW.out _ HB1.out) (by have := HB1.out.size; have := HS.out; omega) (Nat.le_refl _) (own_nilB (wr.alloc (.cells #[.int .i64 (x.md k).R, .int .i64 (x.md k).C, .slice (x.md k).O (x.md k).n (x.md k).c] 29)) _) (by show 0 ≤ _; omega) (HX.out.mr k hlt).rd (HZ.out.b.m k hlt) (HX.out.mr k hlt).bd)
          have EM := hidd em
          clear hmc fT em
          rw [EM.out]
          go_wp2_with fail
          refine HC.out.mono ?_
          rintro e wb ⟨vb, rfl, hob, fb⟩
          have HD := hidd (sec_in (by have := HB1.out.size; have := HS.out; omega) HO1.out (by have := mL_len HZ.out k (by omega); have := HZ.out.m4; omega) 77 hob fb (by rw [List.nil_append, nbL_len]; exact HZ.out.md k hlt) (by rw [List.nil_append, nbL_len]; have := HZ.out.b.m k hlt; omega))
          clear HC d0 d1 d2 hob fb
          go_wp2_with fail
          refine HD.out.mono ?_
          rintro e wc ⟨vc, rfl, hoc, fc⟩
          have hoc' : OwB wc (w.heap.size + 1) vc (mL x (k + 1)) := by rw [mL_succ]; exact hoc
          have HO4 := hidd hoc'
          have HB4 := hidd (HB1.out.trans fc)
          clear hoc hoc' fc HD HO HB HO1 HB1 EM hwr
          go_wp2
          go_roundw
          case rel => exact ⟨k + 1, by omega, by go_num, HO4.out, HB4.out⟩
          case measure => simp [intOf]; omega
        · obtain rfl : k = x.mn := by omega
          have hnl2 : ¬ ((x.mn : Int) < (x.mn : Int)) := by omega
          obtain ⟨p, uc, ev, hrd⟩ := HO.out.rd
          have hlm := mL_len HZ.out x.mn (Nat.le_refl _)
          have hm4 := HZ.out.m4
          have HLS : Hid (Calls Try.prog 34 #[.slice p (mL x x.mn).length uc] wr fun e w' => ∃ v', e = .returned v' ∧ OwB w' wr.heap.size v' (lastL (mL x x.mn)) ∧ Below wr.heap.size wr w') := lastSec_any hrd (mL_byt x _)
          have hrl := hrd.le
          have hrt := hrd.top
          unfold maxLen at hrt
          obtain ⟨LL, hLL⟩ : ∃ LL, LL = mL x x.mn := ⟨_, rfl⟩
          have HFL : Hid (fileL x = LL ++ lastL LL) := by rw [hLL]; rfl
          rw [← hLL] at HO HLS ev hlm hrl
          obtain ⟨ln, hln⟩ : ∃ ln, ln = LL.length := ⟨_, rfl⟩
          rw [← hln] at HLS ev hlm hrl
          have HLN := hidd hln
          have EV := hidd ev
          have hwr : w.heap.size + 1 ≤ wr.heap.size := by have := HB.out.size; have := HS.out; omega
          clear hrd ev hLL hln
          rw [EV.out]
          go_wp2_with fail
          refine HLS.out.mono ?_
          rintro e w8 ⟨v8, rfl, ho8, f8⟩
          have hl13 : (lastL LL).length = 13 := by unfold lastL; rw [secL_len, num_len]
          obtain ⟨g8, c8, e8, h81, h82⟩ := ho8.slice (by omega)
          rw [hl13] at e8 h81
          have HO8 : Hid (Own w8 wr.heap.size 5 1 (.slice (some ⟨g8, 0, none⟩) 13 c8) 13 (bV (lastL LL))) := by have h9 := ho8; unfold OwB at h9; rw [hl13, e8] at h9; exact h9
          have HO9 : Hid (Own w8 (w.heap.size + 1) 5 1 (.slice p ln uc) ln (bV (LL ++ lastL LL))) := by
            have h9 := Own.kept HO.out f8
            rw [EV.out] at h9
            rw [HLN.out]
            rw [HLN.out] at h9
            exact h9.congr (fun j hj => bV_pre LL _ (by omega))
          have HC8 : Hid (∀ j, j < 13 * 1 → w8.cell? ⟨g8, j, none⟩ = some (bV (LL ++ lastL LL) (ln * 1 + j))) := by
            have h9 := cells_of (L := LL) (M := lastL LL) (n := ln) HLN.out hl13 (N := LL ++ lastL LL) rfl (X := []) HO8.out
            rw [List.append_nil] at h9
            exact h9
          have HB8 := hidd (HB.out.trans (f8.mono hwr))
          have HS8 : Hid (w.heap.size + 1 ≤ w8.heap.size) := Nat.le_trans hwr f8.size
          rw [e8]
          clear ho8 f8 e8 HLS HO
          go_wp2_with (at_builtin; refine wpList_app w8 rfl _ _ 35 rfl (w.heap.size + 1) 5 (.int .u8 0) 1 1 Try.underlying35 infoU8 rfl (by decide) _ ln (bV (LL ++ lastL LL)) rfl HO9.out g8 13 c8 rfl HC8.out (fun _ _ => rfl) (by decide) (by unfold maxLen; omega) (by omega) HS8.out ?_)
          rintro v9 w9 ho9 ha9
          have HB9 := hidd (ha9.below HB8.out HO9.out (Nat.le_refl _) HS8.out)
          obtain ⟨p9, uc9, rfl, _⟩ := ho9.rd
          have HFN : Hid ((fileL x).length = ln + 13) := by show _ = _; rw [HFL.out, List.length_append, hl13, HLN.out]
          have HOE : Hid (OwB w9 (w.heap.size + 1) (.slice p9 (fileL x).length uc9) (fileL x)) := by unfold OwB; rw [HFN.out, HFL.out]; exact ho9
          clear ho9 ha9 HO9 HC8 HB8 HS8 HO8
          go_wp2
          go_ret2
          exact ⟨p9, uc9, by rw [HFN.out]; rfl, HOE.out, HLW.out _ HB9.out⟩
end Go.Proofs.Ytilghknalbhacaa
