import Derived.Test.YtlnbbnojkpdccaaLG
import Derived.Test.YtlnbbnojkpdccaaHE
namespace Go.Proofs.Ytlnbbnojkpdccaa
open Go.RowKit
/-! The law HeadsRefuses. -/
theorem may_nat {x : WtD} (hm : x.may) : ∃ R C : Nat, x.V = (R : Int) ∧ x.W = (C : Int) ∧ 1 ≤ R ∧ R ≤ 1048576 ∧ 1 ≤ C ∧ C ≤ 1048576 := by
  obtain ⟨⟨v0, v1⟩, ⟨w0, w1⟩, _⟩ := hm
  obtain ⟨R, hR⟩ := Int.eq_ofNat_of_zero_le (show 0 ≤ x.V by omega)
  obtain ⟨C, hC⟩ := Int.eq_ofNat_of_zero_le (show 0 ≤ x.W by omega)
  exact ⟨R, C, hR, hC, by omega, by omega, by omega, by omega⟩
def RfP (W : World) (e : Ending) (w' : World) : Prop := e = .returned (.bool true) ∧ Below W.heap.size W w'
set_option maxRecDepth 100000 in
set_option maxHeartbeats 8000000 in
theorem refuses_law {w : World} {x : WtD} (hx : WtR w x) {ho : Option Addr} {n hc : Nat} {f : Nat → Int} (hh : RdA w ho 1 n hc (fun i => .int .i8 (f i))) (hg : ∀ i, i < n → -128 ≤ f i ∧ f i ≤ 127) :
    Calls Try.prog 7 #[.agg #[.int .i64 x.V, .int .i64 x.W, .int .i64 x.H, .int .i64 x.K, .int .i64 x.L, .int .i64 x.D, .int .i64 x.N, .int .i64 x.M, .int .i64 x.E.R, .int .i64 x.E.C, .slice x.E.O x.E.n x.E.c, .slice x.tO x.tn x.tc, .slice x.yO x.yn x.yc, .slice x.F.O x.F.n x.F.c, .int .i64 x.Q.R, .int .i64 x.Q.C, .slice x.Q.O x.Q.n x.Q.c, .slice x.mO x.mn x.mc], .slice ho n hc] w (RfP w) := by
  obtain ⟨T, hT⟩ : ∃ T, T = wtA x := ⟨_, rfl⟩
  have hr : (w.alloc (.cells #[.int .i64 x.V, .int .i64 x.W, .int .i64 x.H, .int .i64 x.K, .int .i64 x.L, .int .i64 x.D, .int .i64 x.N, .int .i64 x.M, .int .i64 x.E.R, .int .i64 x.E.C, .slice x.E.O x.E.n x.E.c, .slice x.tO x.tn x.tc, .slice x.yO x.yn x.yc, .slice x.F.O x.F.n x.F.c, .int .i64 x.Q.R, .int .i64 x.Q.C, .slice x.Q.O x.Q.n x.Q.c, .slice x.mO x.mn x.mc] 46)).rowIs w.heap.size 46 18 (wtc x) := World.rowIs_list w (wtL x) 46
  have f1 := fresh_alloc w (.cells #[.int .i64 x.V, .int .i64 x.W, .int .i64 x.H, .int .i64 x.K, .int .i64 x.L, .int .i64 x.D, .int .i64 x.N, .int .i64 x.M, .int .i64 x.E.R, .int .i64 x.E.C, .slice x.E.O x.E.n x.E.c, .slice x.tO x.tn x.tc, .slice x.yO x.yn x.yc, .slice x.F.O x.F.n x.F.c, .int .i64 x.Q.R, .int .i64 x.Q.C, .slice x.Q.O x.Q.n x.Q.c, .slice x.mO x.mn x.mc] 46)
  have SL : Hid ((Try.prog.info? 46).map (·.size) = some T.toList.length) := by rw [hT]; exact sizeW
  have HRG : Hid (∀ z, Below (w.alloc (.cells #[.int .i64 x.V, .int .i64 x.W, .int .i64 x.H, .int .i64 x.K, .int .i64 x.L, .int .i64 x.D, .int .i64 x.N, .int .i64 x.M, .int .i64 x.E.R, .int .i64 x.E.C, .slice x.E.O x.E.n x.E.c, .slice x.tO x.tn x.tc, .slice x.yO x.yn x.yc, .slice x.F.O x.F.n x.F.c, .int .i64 x.Q.R, .int .i64 x.Q.C, .slice x.Q.O x.Q.n x.Q.c, .slice x.mO x.mn x.mc] 46)).heap.size (w.alloc (.cells #[.int .i64 x.V, .int .i64 x.W, .int .i64 x.H, .int .i64 x.K, .int .i64 x.L, .int .i64 x.D, .int .i64 x.N, .int .i64 x.M, .int .i64 x.E.R, .int .i64 x.E.C, .slice x.E.O x.E.n x.E.c, .slice x.tO x.tn x.tc, .slice x.yO x.yn x.yc, .slice x.F.O x.F.n x.F.c, .int .i64 x.Q.R, .int .i64 x.Q.C, .slice x.Q.O x.Q.n x.Q.c, .slice x.mO x.mn x.mc] 46)) z → z.rangeAt w.heap.size 0 T.toList) := fun z hz => by rw [hT]; exact row_range (row_fresh hr hz) rfl
  have HFX : Hid (∀ z, Calls Try.prog 9 #[] z fun e w' => e = .returned (.bool true) ∧ Below z.heap.size z w') := fun z => fixed_any z
  have HLN : Hid (∀ z, Calls Try.prog 17 #[.pointer none, .slice ho n hc] z fun e w' => e = .returned (.tuple #[.slice none 0 0, .int .i64 1]) ∧ w' = z) := fun z => logits_nil z ho n hc
  have HGN : Hid (∀ z, Calls Try.prog 21 #[.pointer none, .slice ho n hc] z fun e w' => e = .returned (.tuple #[.slice none 0 0, .int .i64 1]) ∧ w' = z) := fun z => guesses_nil z ho n hc
  have HT := hidd hT
  have HR := hidd hr
  have HX := hidd hx
  have HH := hidd hh
  have HG := hidd hg
  have hnc := hh.le
  have hnt := hh.top
  unfold maxLen at hnt
  clear hr hT hx hh hg
  by_cases hfit : x.may ∧ WtP x
  · obtain ⟨hm, hp⟩ := hfit
    have HMD : Hid (∀ z, Below w.heap.size w z → Calls Try.prog 15 #[.agg T] z fun e w' => ∃ y g, e = .returned (.tuple #[.pointer (some ⟨g, 0, none⟩), .bool true, .bool true]) ∧ Mdl w' g x y ∧ Below z.heap.size z w') := fun z hz => by rw [HT.out]; exact made_ok (HX.out.fresh hz) hm hp
    obtain ⟨R, C, hV, hW, hR1, hR2, hC1, hC2⟩ := may_nat hm
    by_cases hn : (n : Int) = x.W
    · have hnC : n = C := by omega
      have HLO : Hid (∀ z g y, Below w.heap.size w z → Mdl z g x y → Calls Try.prog 17 #[.pointer (some ⟨g, 0, none⟩), .slice ho n hc] z fun e w' => ∃ b, e = .returned (.tuple #[.slice (some ⟨b, 0, none⟩) R R, .int .i64 0]) ∧ Below z.heap.size z w') := fun z g y hz hmd => by
        subst hnC
        exact (logits_ok hmd (hmd.b hm hp) hV hW hR2 hp.Q (HH.out.fresh hz) HG.out).mono fun e w' ⟨b, F, h1, _, _, _, h2⟩ => ⟨b, h1, h2⟩
      have HGO : Hid (∀ z g y, Below w.heap.size w z → Mdl z g x y → Calls Try.prog 21 #[.pointer (some ⟨g, 0, none⟩), .slice ho n hc] z fun e w' => ∃ u c, e = .returned (.tuple #[.slice u x.mn c, .int .i64 0]) ∧ x.mn ≤ c ∧ c ≤ 9223372036854775807 ∧ Below z.heap.size z w') := fun z g y hz hmd => by
        subst hnC
        refine (guesses_ok hmd (hmd.b hm hp) hV hW hR2 hp.m (hp.b hm).M (HH.out.fresh hz) HG.out).mono fun e w' ⟨u, c, h1, ⟨bb, h2⟩, h3⟩ => ⟨u, c, h1, ?_, ?_, h3⟩
        · exact h2.own.rda.le
        · exact h2.own.rda.top
      have hW' : ((n : Int) != x.W) = false := by simpa using hn
      have hR0 : decide (0 < R) = true := decide_eq_true (by omega)
      have hRI : (0 : Int) < (R : Int) := by omega
      clear hV hW hnC hn
      go_enter Try.func7, Try.ntmps7
      go_upto_region 1 with fail
      have HR1 := hidd (HR.out)
      generalize hwa : w.alloc (.cells #[.int .i64 x.V, .int .i64 x.W, .int .i64 x.H, .int .i64 x.K, .int .i64 x.L, .int .i64 x.D, .int .i64 x.N, .int .i64 x.M, .int .i64 x.E.R, .int .i64 x.E.C, .slice x.E.O x.E.n x.E.c, .slice x.tO x.tn x.tc, .slice x.yO x.yn x.yc, .slice x.F.O x.F.n x.F.c, .int .i64 x.Q.R, .int .i64 x.Q.C, .slice x.Q.O x.Q.n x.Q.c, .slice x.mO x.mn x.mc] 46) = wa at *
      clear hwa HR
      go_wp2_with fail
      refine (HFX.out _).mono ?_
      rintro e w0 ⟨rfl, f0⟩
      have F0 := hidd (fresh_trans f1 f0)
      have RG := hidd (HRG.out w0 f0)
      have HR0 := hidd (row_fresh HR1.out f0)
      clear f1 f0 HRG HR1
      go_wp2_with (refine wpList_load_mid rfl 46 _ rfl w.heap.size 0 rfl T.toList _ RG.out Try.underlying46 rfl SL.out ?_)
      refine (HMD.out _ F0.out).mono ?_
      rintro e w1 ⟨y, g, rfl, hmd, f2⟩
      have F1 := hidd (fresh_trans F0.out f2)
      have HM1 := hidd hmd
      have HR1 := hidd (row_fresh HR0.out f2)
      clear hmd f2 HMD RG SL HR0 F0
      go_wp2_with fail
      refine (HLN.out _).mono ?_
      rintro e w2 ⟨rfl, hw2⟩
      rw [hw2]
      clear hw2 w2
      go_wp2_with fail
      refine (HGN.out _).mono ?_
      rintro e w2 ⟨rfl, hw2⟩
      rw [hw2]
      clear hw2 w2
      have c1 : w1.cell? ⟨w.heap.size, 1, none⟩ = some (.int .i64 x.W) := HR1.out.cell (i := 1) (by show 1 < 18; decide)
      go_wp2_with fail
      refine (HLO.out _ g y F1.out HM1.out).mono ?_
      rintro e w3 ⟨b, rfl, f3⟩
      have F3 := hidd (fresh_trans F1.out f3)
      have HM3 := hidd (HM1.out.fresh f3)
      clear c1 f3 F1 HM1 HR1 HLO
      go_wp2_with fail
      refine (HGO.out _ g y F3.out HM3.out).mono ?_
      rintro e w4 ⟨u, c, rfl, hc1, hc2, f4⟩
      have F4 := hidd (fresh_trans F3.out f4)
      clear f4 F3 HM3 HGO
      go_wp2
      go_ret
      exact ⟨rfl, F4.out⟩
    · have HLO : Hid (∀ z g y, Below w.heap.size w z → Mdl z g x y → Calls Try.prog 17 #[.pointer (some ⟨g, 0, none⟩), .slice ho n hc] z fun e w' => e = .returned (.tuple #[.slice none 0 0, .int .i64 30]) ∧ Below z.heap.size z w') := fun z g y hz hmd => logits_bad hmd ho n hc hn
      have HGO : Hid (∀ z g y, Below w.heap.size w z → Mdl z g x y → Calls Try.prog 21 #[.pointer (some ⟨g, 0, none⟩), .slice ho n hc] z fun e w' => e = .returned (.tuple #[.slice none 0 0, .int .i64 30]) ∧ Below z.heap.size z w') := fun z g y hz hmd => guesses_bad hmd ho n hc hn
      have hW' : ((n : Int) != x.W) = true := by simpa using hn
      clear hV hW hn
      go_enter Try.func7, Try.ntmps7
      go_upto_region 1 with fail
      have HR1 := hidd (HR.out)
      generalize hwa : w.alloc (.cells #[.int .i64 x.V, .int .i64 x.W, .int .i64 x.H, .int .i64 x.K, .int .i64 x.L, .int .i64 x.D, .int .i64 x.N, .int .i64 x.M, .int .i64 x.E.R, .int .i64 x.E.C, .slice x.E.O x.E.n x.E.c, .slice x.tO x.tn x.tc, .slice x.yO x.yn x.yc, .slice x.F.O x.F.n x.F.c, .int .i64 x.Q.R, .int .i64 x.Q.C, .slice x.Q.O x.Q.n x.Q.c, .slice x.mO x.mn x.mc] 46) = wa at *
      clear hwa HR
      go_wp2_with fail
      refine (HFX.out _).mono ?_
      rintro e w0 ⟨rfl, f0⟩
      have F0 := hidd (fresh_trans f1 f0)
      have RG := hidd (HRG.out w0 f0)
      have HR0 := hidd (row_fresh HR1.out f0)
      clear f1 f0 HRG HR1
      go_wp2_with (refine wpList_load_mid rfl 46 _ rfl w.heap.size 0 rfl T.toList _ RG.out Try.underlying46 rfl SL.out ?_)
      refine (HMD.out _ F0.out).mono ?_
      rintro e w1 ⟨y, g, rfl, hmd, f2⟩
      have F1 := hidd (fresh_trans F0.out f2)
      have HM1 := hidd hmd
      have HR1 := hidd (row_fresh HR0.out f2)
      clear hmd f2 HMD RG SL HR0 F0
      go_wp2_with fail
      refine (HLN.out _).mono ?_
      rintro e w2 ⟨rfl, hw2⟩
      rw [hw2]
      clear hw2 w2
      go_wp2_with fail
      refine (HGN.out _).mono ?_
      rintro e w2 ⟨rfl, hw2⟩
      rw [hw2]
      clear hw2 w2
      have c1 : w1.cell? ⟨w.heap.size, 1, none⟩ = some (.int .i64 x.W) := HR1.out.cell (i := 1) (by show 1 < 18; decide)
      go_wp2_with fail
      refine (HLO.out _ g y F1.out HM1.out).mono ?_
      rintro e w3 ⟨rfl, f3⟩
      have F3 := hidd (fresh_trans F1.out f3)
      have HM3 := hidd (HM1.out.fresh f3)
      clear c1 f3 F1 HM1 HR1 HLO
      go_wp2_with fail
      refine (HGO.out _ g y F3.out HM3.out).mono ?_
      rintro e w4 ⟨rfl, f4⟩
      have F4 := hidd (fresh_trans F3.out f4)
      clear f4 F3 HM3 HGO
      go_wp2
      go_ret
      exact ⟨rfl, F4.out⟩
  · have hie : ∃ er, IsE x er ∧ er ≠ 0 := by
      by_cases hm : x.may
      · exact ⟨41, .inr (.inl ⟨hm, fun hp => hfit ⟨hm, hp⟩, rfl⟩), by decide⟩
      · exact ⟨40, .inl ⟨hm, rfl⟩, by decide⟩
    obtain ⟨er, he, h0⟩ := hie
    have HMD : Hid (∀ z, Below w.heap.size w z → Calls Try.prog 15 #[.agg T] z fun e w' => e = .returned (.tuple #[.pointer none, .bool false, .bool true]) ∧ Below z.heap.size z w') := fun z hz => by rw [HT.out]; exact made_bad (HX.out.fresh hz) he h0
    clear he h0 hfit
    go_enter Try.func7, Try.ntmps7
    go_upto_region 1 with fail
    generalize hwa : w.alloc (.cells #[.int .i64 x.V, .int .i64 x.W, .int .i64 x.H, .int .i64 x.K, .int .i64 x.L, .int .i64 x.D, .int .i64 x.N, .int .i64 x.M, .int .i64 x.E.R, .int .i64 x.E.C, .slice x.E.O x.E.n x.E.c, .slice x.tO x.tn x.tc, .slice x.yO x.yn x.yc, .slice x.F.O x.F.n x.F.c, .int .i64 x.Q.R, .int .i64 x.Q.C, .slice x.Q.O x.Q.n x.Q.c, .slice x.mO x.mn x.mc] 46) = wa at *
    clear hwa HR
    go_wp2_with fail
    refine (HFX.out _).mono ?_
    rintro e w0 ⟨rfl, f0⟩
    have F0 := hidd (fresh_trans f1 f0)
    have RG := hidd (HRG.out w0 f0)
    clear f1 f0 HRG
    go_wp2_with (refine wpList_load_mid rfl 46 _ rfl w.heap.size 0 rfl T.toList _ RG.out Try.underlying46 rfl SL.out ?_)
    refine (HMD.out _ F0.out).mono ?_
    rintro e w1 ⟨rfl, f2⟩
    have F1 := hidd (fresh_trans F0.out f2)
    clear f2 HMD RG SL F0
    go_wp2_with fail
    refine (HLN.out _).mono ?_
    rintro e w2 ⟨rfl, hw2⟩
    rw [hw2]
    clear hw2 w2
    go_wp2_with fail
    refine (HGN.out _).mono ?_
    rintro e w2 ⟨rfl, hw2⟩
    rw [hw2]
    clear hw2 w2
    go_wp2
    go_ret
    exact ⟨rfl, F1.out⟩
end Go.Proofs.Ytlnbbnojkpdccaa
