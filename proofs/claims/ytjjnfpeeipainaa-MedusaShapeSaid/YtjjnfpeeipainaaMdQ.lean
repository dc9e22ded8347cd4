import Derived.Test.YtjjnfpeeipainaaMY
import Derived.Deep.DeepCutAuto
namespace Go.Proofs.Ytjjnfpeeipainaa
open Go.RowKit
/-! The law MedusaShape. -/
/-- what the law's loop reads besides -/
structure GsQ (w : World) (gu : Option Addr) (mn gc R : Nat) (bb : Nat → Nat) (F : Nat → Nat → Int) : Prop where
  g : RdA w gu 1 mn gc (fun j => .slice (some ⟨bb j, 0, none⟩) R R)
  rows : ∀ j, j < mn → RdA w (some ⟨bb j, 0, none⟩) 1 R R (fun r => .int .i64 (F j r))
theorem GsQ.fresh {w w' : World} {gu : Option Addr} {mn gc R : Nat} {bb : Nat → Nat} {F : Nat → Nat → Int} (h : GsQ w gu mn gc R bb F) (f : Below w.heap.size w w') : GsQ w' gu mn gc R bb F := ⟨h.g.fresh f, fun j hj => (h.rows j hj).fresh f⟩
theorem RdA.firstsQ {w : World} {ao : Option Addr} {sz n m cap : Nat} {cs : Nat → Value} (h : RdA w ao sz n cap cs) (hm : m ≤ n) : RdA w ao sz m cap cs :=
  ⟨Nat.le_trans hm h.le, h.top, fun h0 => by obtain ⟨b, off, e, hc⟩ := h.at_ (by omega); exact ⟨b, off, e, fun j hj => hc j (Nat.lt_of_lt_of_le hj (Nat.mul_le_mul_right _ hm))⟩⟩
set_option maxRecDepth 100000 in
set_option maxHeartbeats 40000000 in
theorem shape_law {w : World} {x : WtD} (hx : WtR w x) {ho : Option Addr} {n hc : Nat} {f : Nat → Int} (hh : RdA w ho 1 n hc (fun i => .int .i8 (f i))) (hg : ∀ i, i < n → -128 ≤ f i ∧ f i ≤ 127) {wo : Option Addr} {m wc : Nat} {v : Nat → Int} (hw : RdA w wo 1 m wc (fun i => .int .i64 (v i))) :
    Calls Try.prog 4 #[.agg #[.int .i64 x.V, .int .i64 x.W, .int .i64 x.H, .int .i64 x.K, .int .i64 x.L, .int .i64 x.D, .int .i64 x.N, .int .i64 x.M, .int .i64 x.E.R, .int .i64 x.E.C, .slice x.E.O x.E.n x.E.c, .slice x.tO x.tn x.tc, .slice x.yO x.yn x.yc, .slice x.F.O x.F.n x.F.c, .int .i64 x.Q.R, .int .i64 x.Q.C, .slice x.Q.O x.Q.n x.Q.c, .slice x.mO x.mn x.mc], .slice ho n hc, .slice wo m wc] w fun e w' => e = .returned (.bool true) ∧ Below w.heap.size w w' := by
  obtain ⟨T, hT⟩ : ∃ T, T = wtA x := ⟨_, rfl⟩
  have hr : (w.alloc (.cells #[.int .i64 x.V, .int .i64 x.W, .int .i64 x.H, .int .i64 x.K, .int .i64 x.L, .int .i64 x.D, .int .i64 x.N, .int .i64 x.M, .int .i64 x.E.R, .int .i64 x.E.C, .slice x.E.O x.E.n x.E.c, .slice x.tO x.tn x.tc, .slice x.yO x.yn x.yc, .slice x.F.O x.F.n x.F.c, .int .i64 x.Q.R, .int .i64 x.Q.C, .slice x.Q.O x.Q.n x.Q.c, .slice x.mO x.mn x.mc] 31)).rowIs w.heap.size 31 18 (wtc x) := World.rowIs_list w (wtL x) 31
  have f1 := fresh_alloc w (.cells #[.int .i64 x.V, .int .i64 x.W, .int .i64 x.H, .int .i64 x.K, .int .i64 x.L, .int .i64 x.D, .int .i64 x.N, .int .i64 x.M, .int .i64 x.E.R, .int .i64 x.E.C, .slice x.E.O x.E.n x.E.c, .slice x.tO x.tn x.tc, .slice x.yO x.yn x.yc, .slice x.F.O x.F.n x.F.c, .int .i64 x.Q.R, .int .i64 x.Q.C, .slice x.Q.O x.Q.n x.Q.c, .slice x.mO x.mn x.mc] 31)
  have SL : Hid ((Try.prog.info? 31).map (·.size) = some T.toList.length) := by rw [hT]; exact sizeW
  have HFX : Hid (∀ z, Calls Try.prog 8 #[] z fun e w' => e = .returned (.bool true) ∧ Below z.heap.size z w') := fun z => fixedM_any z
  have HT := hidd hT
  have HR := hidd hr
  have HX := hidd hx
  have HH := hidd hh
  have HG := hidd hg
  have HWS := hidd hw
  have hwl := hw.le
  have hwt := hw.top
  unfold maxLen at hwt
  have hnc := hh.le
  have hnt := hh.top
  unfold maxLen at hnt
  clear hr hT hx hh hg hw
  by_cases hlong : (2147483647 : Int) < (m : Int)
  · have HLG : Hid (∀ z, Calls Try.prog 14 #[.int .i64 (m : Int)] z fun e w' => e = .returned (.bool true) ∧ w' = z) := fun z => (long_any z m).mono fun e w' ⟨h1, h2⟩ => ⟨by rw [h1, decide_eq_true hlong], h2⟩
    go_enter Try.func4, Try.ntmps4
    go_upto_region 1 with fail
    have HR1 := hidd (HR.out)
    generalize hwa : w.alloc (.cells #[.int .i64 x.V, .int .i64 x.W, .int .i64 x.H, .int .i64 x.K, .int .i64 x.L, .int .i64 x.D, .int .i64 x.N, .int .i64 x.M, .int .i64 x.E.R, .int .i64 x.E.C, .slice x.E.O x.E.n x.E.c, .slice x.tO x.tn x.tc, .slice x.yO x.yn x.yc, .slice x.F.O x.F.n x.F.c, .int .i64 x.Q.R, .int .i64 x.Q.C, .slice x.Q.O x.Q.n x.Q.c, .slice x.mO x.mn x.mc] 31) = wa at *
    clear hwa HR
    go_wp2_with fail
    refine (HLG.out _).mono ?_
    rintro e wz ⟨rfl, hwz⟩
    rw [hwz]
    clear hwz wz HLG
    go_wp2
    go_ret
    exact ⟨rfl, f1⟩
  by_cases hfit : x.may ∧ WtP x
  · obtain ⟨hm, hp⟩ := hfit
    have HMD : Hid (∀ z, Below w.heap.size w z → Calls Try.prog 9 #[.agg T] z fun e w' => ∃ y g, e = .returned (.tuple #[.pointer (some ⟨g, 0, none⟩), .bool true, .bool true]) ∧ Mdl w' g x y ∧ Below z.heap.size z w') := fun z hz => by rw [HT.out]; exact made_ok (HX.out.fresh hz) hm hp
    obtain ⟨R, C, hV, hW, hR1, hR2, hC1, hC2⟩ : ∃ R C : Nat, x.V = (R : Int) ∧ x.W = (C : Int) ∧ 1 ≤ R ∧ R ≤ 1048576 ∧ 1 ≤ C ∧ C ≤ 1048576 := by
      obtain ⟨⟨v0, v1⟩, ⟨w0, w1⟩, _⟩ := hm
      obtain ⟨R, hR⟩ := Int.eq_ofNat_of_zero_le (show 0 ≤ x.V by omega)
      obtain ⟨C, hC⟩ := Int.eq_ofNat_of_zero_le (show 0 ≤ x.W by omega)
      exact ⟨R, C, hR, hC, by omega, by omega, by omega, by omega⟩
    have hmb : x.mn ≤ 1048576 := (hp.b hm).M
    obtain ⟨F, hF⟩ : ∃ F : Nat → Nat → Int, F = fun i r => mv (x.md i).f (fiF f n) C r := ⟨_, rfl⟩
    obtain ⟨X, hX⟩ : ∃ X : Nat → List Int, X = fun i => tpL sg (F i) R (w0F v i) := ⟨_, rfl⟩
    have HPR : Hid (∀ (z : World) (g : Nat) (y : WtD) (u : Option Addr) (c : Nat) (vo : Option Addr) (t vc : Nat), Mdl z g x y → RdA z u 1 C c (fun i => .int .i8 (fiF f n i)) → RdA z vo 1 t vc (fun i => .int .i64 (w0F v i)) → Calls Try.prog 11 #[.pointer (some ⟨g, 0, none⟩), .slice u C c, .slice vo t vc] z fun e w' => ∃ lu lc, e = .returned (.tuple #[.slice lu (grL X (min x.mn t)).length lc, .int .i64 0]) ∧ Own w' z.heap.size 48 2 (.slice lu (grL X (min x.mn t)).length lc) (grL X (min x.mn t)).length (rwF (grL X (min x.mn t))) ∧ Below z.heap.size z w') := by
      intro z g y u c vo t vc hmd hrd hw
      have := propose_ok topC hmd (hmd.b hm hp) hV hW hR2 hp.m hmb hrd (fun i _ => fiF_bd HG.out i) hw (fun i _ => w0F_pos v i)
      rw [hX, hF]
      exact this
    have HGO : Hid (∀ (z : World) (g : Nat) (y : WtD) (u : Option Addr) (c : Nat), Mdl z g x y → RdA z u 1 C c (fun i => .int .i8 (fiF f n i)) → Calls Try.prog 12 #[.pointer (some ⟨g, 0, none⟩), .slice u C c] z fun e w' => ∃ gu gc bb, e = .returned (.tuple #[.slice gu x.mn gc, .int .i64 0]) ∧ GsQ w' gu x.mn gc R bb F ∧ Below z.heap.size z w') := by
      intro z g y u c hmd hrd
      refine (guesses_ok hmd (hmd.b hm hp) hV hW hR2 hp.m hmb hrd (fun i _ => fiF_bd HG.out i)).mono ?_
      rintro e w' ⟨gu, gc, rfl, ⟨bb, hgs⟩, f1⟩
      refine ⟨gu, gc, bb, rfl, ⟨md_rda hgs.own, fun j hj => ?_⟩, f1⟩
      obtain ⟨_, G, h1, h2⟩ := hgs.rows j hj
      rw [hF]
      exact (rowIs_rd h1 (by unfold maxLen; omega)).congr (fun r hr => h2 r (by omega))
    have HTP : Hid (∀ (z : World) (gu : Option Addr) (gc : Nat) (bb : Nat → Nat) (j : Nat), GsQ z gu x.mn gc R bb F → j < x.mn → Calls Try.prog 13 #[.slice (some ⟨bb j, 0, none⟩) R R, .int .i64 (w0F v j)] z fun e w' => ∃ u c, e = .returned (.slice u (X j).length c) ∧ Own w' z.heap.size 3 1 (.slice u (X j).length c) (X j).length (tkF (X j)) ∧ Below z.heap.size z w') := by
      intro z gu gc bb j hq hj
      rw [hX]
      exact topC_tk topC (hq.rows j hj) (by omega) (w0F v j)
    have HXL : Hid (∀ j, (X j).length ≤ R) := fun j => by rw [hX, tpL_len]; omega
    have HW1 : Hid (x.W = (C : Int)) := hW
    clear hV hW hm hp hF hX
    have HLG : Hid (∀ z, Calls Try.prog 14 #[.int .i64 (m : Int)] z fun e w' => e = .returned (.bool false) ∧ w' = z) := fun z => (long_any z m).mono fun e w' ⟨h1, h2⟩ => ⟨by rw [h1, decide_eq_false hlong], h2⟩
    go_enter Try.func4, Try.ntmps4
    go_upto_region 1 with fail
    have HR1 := hidd (HR.out)
    generalize hwa : w.alloc (.cells #[.int .i64 x.V, .int .i64 x.W, .int .i64 x.H, .int .i64 x.K, .int .i64 x.L, .int .i64 x.D, .int .i64 x.N, .int .i64 x.M, .int .i64 x.E.R, .int .i64 x.E.C, .slice x.E.O x.E.n x.E.c, .slice x.tO x.tn x.tc, .slice x.yO x.yn x.yc, .slice x.F.O x.F.n x.F.c, .int .i64 x.Q.R, .int .i64 x.Q.C, .slice x.Q.O x.Q.n x.Q.c, .slice x.mO x.mn x.mc] 31) = wa at *
    clear hwa HR
    go_wp2_with fail
    refine (HLG.out _).mono ?_
    rintro e wz ⟨rfl, hwz⟩
    rw [hwz]
    clear hwz wz HLG
    go_wp2_with fail
    refine (HFX.out _).mono ?_
    rintro e w0 ⟨rfl, f0⟩
    have F0 := hidd (fresh_trans f1 f0)
    have HR0 := hidd (row_fresh HR1.out f0)
    have RG : Hid (w0.rangeAt w.heap.size 0 T.toList) := by rw [HT.out]; exact row_range HR0.out rfl
    clear f1 f0 HR1
    go_wp2_with (refine wpList_load_mid rfl 31 _ rfl w.heap.size 0 rfl T.toList _ RG.out Try.underlying31 rfl SL.out ?_)
    refine (HMD.out _ F0.out).mono ?_
    rintro e w1 ⟨y, g, rfl, hmd, f2⟩
    have F1 := hidd (fresh_trans F0.out f2)
    have HM1 := hidd hmd
    have HR1 := hidd (row_fresh HR0.out f2)
    clear hmd f2 HMD HR0 F0 RG SL HFX HT HX
    go_wp2
    go_loopw [11, 12, 13] (fun vh vi _ wr => ∃ k : Nat, k ≤ C ∧ vi = .int .i64 (k : Int) ∧ Own wr w1.heap.size 51 1 vh k (fun i => .int .i8 (fiF f n i)) ∧ Hid (Below w1.heap.size w1 wr)) (fun _ vi _ _ => C - (intOf vi).toNat)
    case atStart => exact ⟨0, Nat.zero_le _, by simp, own_nil _ _ _ _ _, Below.refl _ _⟩
    case round =>
      obtain ⟨k, hk, rfl, hown, HF⟩ := hrel
      obtain ⟨p, uc, ep, _⟩ := hown.rd
      subst ep
      have c1 : wr.cell? ⟨w.heap.size, 1, none⟩ = some (.int .i64 (C : Int)) := by rw [← HW1.out]; exact fresh_cell HF.out (HR1.out.cell (i := 1) (by decide))
      have hsz2 := HF.out.size
      by_cases hlt : k < C
      · have i0 : (0 : Int) ≤ (k : Int) := by omega
        have i1 : (k : Int) < (C : Int) := by omega
        by_cases hkn : k < n
        · obtain ⟨b, off, rfl, hcell⟩ := (HH.out.fresh (fresh_trans F1.out HF.out)).one (by omega)
          have ck := hcell k hkn
          have i2 : (k : Int) < (n : Int) := by omega
          have HN : Hid (∀ (w0 : World) (t : TypeId), (w0.alloc (.cells #[.int .i8 (f k)] t)).cell? ⟨w0.heap.size, 0, none⟩ = some (.int .i8 (fiF f n k))) := fun w0 t => by rw [new_cell, fiF_lt hkn]
          have HO := hidd (hown.kept (fresh_alloc wr (.cells #[.int .i8 (f k)] 51)))
          have HFA := hidd (fresh_trans HF.out (fresh_alloc wr (.cells #[.int .i8 (f k)] 51)))
          clear hcell
          go_wp2_with (at_builtin; refine wpList_app1 _ rfl _ _ 24 rfl w1.heap.size 51 (.int .i8 0) 1 Try.underlying24 infoI8 rfl _ k (fun i => .int .i8 (fiF f n i)) rfl HO.out wr.heap.size 1 rfl (HN.out _ _) rfl (by omega) (by omega) HFA.out.size ?_)
          rintro v' w2 hown' happ
          have HB := hidd (happ.below HFA.out HO.out (Nat.le_refl _) HFA.out.size)
          clear happ HO HFA HN
          go_wp2
          go_roundw
          case rel => exact ⟨k + 1, by omega, by go_num, hown', HB⟩
          case measure => simp [intOf]; omega
        · have i2 : ¬ ((k : Int) < (n : Int)) := by omega
          have HN : Hid (∀ (w0 : World) (t : TypeId), (w0.alloc (.cells #[.int .i8 (IntKind.i8.wrap (k : Int))] t)).cell? ⟨w0.heap.size, 0, none⟩ = some (.int .i8 (fiF f n k))) := fun w0 t => by rw [new_cell, fiF_ge hkn]
          have HO := hidd (hown.kept (fresh_alloc wr (.cells #[.int .i8 (IntKind.i8.wrap (k : Int))] 51)))
          have HFA := hidd (fresh_trans HF.out (fresh_alloc wr (.cells #[.int .i8 (IntKind.i8.wrap (k : Int))] 51)))
          go_wp2_with (at_builtin; refine wpList_app1 _ rfl _ _ 24 rfl w1.heap.size 51 (.int .i8 0) 1 Try.underlying24 infoI8 rfl _ k (fun i => .int .i8 (fiF f n i)) rfl HO.out wr.heap.size 1 rfl (HN.out _ _) rfl (by omega) (by omega) HFA.out.size ?_)
          rintro v' w2 hown' happ
          have HB := hidd (happ.below HFA.out HO.out (Nat.le_refl _) HFA.out.size)
          clear happ HO HFA HN
          go_wp2
          go_roundw
          case rel => exact ⟨k + 1, by omega, by go_num, hown', HB⟩
          case measure => simp [intOf]; omega
      · obtain rfl : k = C := by omega
        have hnl : ¬ ((k : Int) < (k : Int)) := by omega
        have HRD := hidd (md_rda hown)
        have HGC := hidd (HGO.out wr g y p uc (HM1.out.fresh HF.out) HRD.out)
        have F3 := hidd (fresh_trans F1.out HF.out)
        have HM3 := hidd (HM1.out.fresh HF.out)
        clear hown HF HGO HM1 F1 HR1
        rename World => w3
        go_wp2_with fail
        refine HGC.out.mono ?_
        rintro e w5 ⟨gu, gc, bb, rfl, hgq, f5⟩
        have HGQ := hidd hgq
        have F5 := hidd (fresh_trans F3.out f5)
        have HM5 := hidd (HM3.out.fresh f5)
        have HRD5 := hidd (HRD.out.fresh f5)
        have hgl := hgq.g.le
        have hgt := hgq.g.top
        unfold maxLen at hgt
        clear hgq f5 HGC F3 HM3 HRD hnl c1 hsz2
        have hm31 : m ≤ 2147483647 := by omega
        have HS0 := hidd (ShW.start X (w0F v) w5)
        go_wp2
        go_loopw [16, 17, 18, 19, 20, 21] (fun v16 v17 v18 v19 v20 vi wr => ∃ (i t e al lv bl : Nat) (A : Nat → Option Addr) (C' : Nat → Nat) (bu : Option Addr) (bc : Nat) (LB : List (Int × Int)), i ≤ m + 1 ∧ vi = .int .i64 (i : Int) ∧ v18 = .int .i64 (al : Int) ∧ v19 = .int .i64 (lv : Int) ∧ v20 = .slice bu bl bc ∧ lv ≤ 97 ∧ al ≤ 101711872 ∧ bl ≤ 96 ∧ Hid (t = min i m ∧ e = min x.mn t ∧ al = alN X e ∧ lv = lvN X e ∧ bl = LB.length) ∧ Hid (LB <+: grL X e) ∧ Hid (ShW X (w0F v) w5 wr v16 v17 t e A C' bu bc LB)) (fun _ _ _ _ _ vi _ => m + 1 - (intOf vi).toNat)
        case atStart => exact ⟨0, 0, 0, 0, 1, 0, _, _, none, 0, [], by omega, by simp, by simp, by simp, rfl, by omega, by omega, by omega, ⟨by omega, by omega, rfl, rfl, rfl⟩, List.nil_prefix, HS0⟩
        case round =>
          obtain ⟨i, t, e, al, lv, bl, A, C', bu, bc, LB, hi, rfl, rfl, rfl, rfl, hlv, hal, hbl, HQ, HPX, HSW⟩ := hrel
          rename World => wA
          obtain ⟨su, sc, es, _⟩ := HSW.out.ws.rd
          obtain ⟨tu, tc, et, _⟩ := HSW.out.bs.rd
          subst es et
          by_cases him : i ≤ m
          · have ht : t = i := by have := HQ.out.1; omega
            subst ht
            have hem : e ≤ x.mn := by have := HQ.out.2.1; omega
            have het : e ≤ t := by have := HQ.out.2.1; omega
            obtain ⟨L, HL⟩ : ∃ L, Hid (L = grL X e) := ⟨_, rfl⟩
            obtain ⟨a, HA⟩ : ∃ a, Hid (a = L.length) := ⟨_, rfl⟩
            have HAW : Hid (a = min al 96) := by show _ = _; rw [HA.out, HL.out, grL_count, ← HQ.out.2.2.1]
            have ha : a ≤ 96 := by have := HAW.out; omega
            have hba : bl ≤ a := by have := HPX.out.length_le; rw [← HL.out, ← HA.out, ← HQ.out.2.2.2.2] at this; exact this
            have HP := hidd (HPR.out wA g y p uc su t sc (HM5.out.fresh HSW.out.low) (HRD5.out.fresh HSW.out.low) (md_rda HSW.out.ws))
            rw [← HQ.out.2.1, ← HL.out, ← HA.out] at HP
            have i0 : (0 : Int) ≤ (t : Int) := by omega
            have i1 : decide ((t : Int) ≤ (m : Int)) = true := decide_eq_true (by omega)
            have i2 : (t : Int) ≤ (m : Int) := by omega
            go_wp2_with fail
            refine HP.out.mono ?_
            rintro e' w6 ⟨lu, lc, rfl, hlo, f6⟩
            have HLO : Hid (Own w6 wA.heap.size 48 2 (.slice lu L.length lc) L.length (rwF L)) := by rw [← HA.out]; exact hlo
            have HLR := hidd (md_rda hlo)
            have HS6 := hidd (HSW.out.fresh f6)
            have HSN := hidd (HSW.out.tree f6 HLO.out)
            have hlc1 := HLR.out.le
            have hlc2 := HLR.out.top
            unfold maxLen at hlc2
            clear hlo f6 HP HLO HSW
            go_upto_if 91 with fail
            go_cut [24] (fun v24 wx => wx = w6 ∧ v24 = .int .i64 (a : Int))
            case first =>
              by_cases h96 : 96 < al
              · have d1 : decide ((96 : Int) < (al : Int)) = true := decide_eq_true (by omega)
                have d2 : decide (96 < al) = true := decide_eq_true h96
                have HE : Hid (a = 96) := by show _ = _; have := HAW.out; omega
                go_wp2_with fail
                go_meet
                case rel => exact ⟨rfl, by rw [HE.out]; rfl⟩
              · have d1 : decide ((96 : Int) < (al : Int)) = false := decide_eq_false (by omega)
                have d2 : decide (96 < al) = false := decide_eq_false h96
                have HE : Hid (a = al) := by show _ = _; have := HAW.out; omega
                go_wp2_with fail
                go_meet
                case rel => exact ⟨rfl, by rw [HE.out]⟩
            case rest =>
              obtain ⟨hw, hsv⟩ := hcut
              subst hsv
              rw [hw]
              clear hw
              have HEQ : Hid (Calls Try.prog 15 #[.slice bu bl bc, .slice lu bl lc] w6 fun e w' => e = .returned (.bool true) ∧ Below w6.heap.size w6 w') := by
                refine eqRaw_same (R := LB) HQ.out.2.2.2.2 (by have := md_rda HS6.out.bef; rw [← HQ.out.2.2.2.2] at this; exact this) ((HLR.out.firstsQ hba).congr (fun j hj => ?_))
                refine (rwF_pre (by rw [HL.out]; exact HPX.out) (by rw [← HQ.out.2.2.2.2]; exact hj)).symm
              have HSH : Hid (∀ z, Below w6.heap.size w6 z → Calls Try.prog 16 #[.slice lu a lc, .slice tu e tc] z fun e w' => e = .returned (.bool true) ∧ Below z.heap.size z w') := by
                intro z hz
                obtain ⟨D, hD⟩ := shp_grL X e
                exact shaped_any HA.out (HLR.out.fresh hz) ((HS6.out.fresh hz).tk rfl) (by rw [HL.out]; exact hD) ha
              have d1 : decide ((bl : Int) ≤ (a : Int)) = true := decide_eq_true (by omega)
              have d2 : decide (bl ≤ a) = true := decide_eq_true hba
              have d3 : (bl : Int) ≤ (a : Int) := by omega
              have d4 : (bl : Int) ≤ (lc : Int) := by omega
              have d5 : (0 : Int) ≤ (bl : Int) := by omega
              go_wp2_with fail
              refine HEQ.out.mono ?_
              rintro e' w7 ⟨rfl, f7⟩
              have HSC := hidd (HSH.out w7 f7)
              have HS7 := hidd (HSN.out.fresh f7)
              clear HEQ HSH f7 HSN HS6 HLR d1 d2 d3 d4 d5
              go_wp2_with fail
              refine HSC.out.mono ?_
              rintro e' w8 ⟨rfl, f8⟩
              have HS8 := hidd (HS7.out.fresh f8)
              clear HSC f8 HS7
              by_cases hlt : t < m
              · obtain ⟨wb, wf, ew, h2⟩ := (HWS.out.fresh (fresh_trans F5.out HS8.out.low)).one (by omega)
                have c2 : w8.cell? ⟨wb, wf + t, none⟩ = some (.int .i64 (v t)) := h2 t hlt
                have j1 : (t : Int) < (m : Int) := by omega
                have j2 : decide ((t : Int) < (m : Int)) = true := decide_eq_true j1
                rw [ew]
                have EW := hidd ew
                clear h2 ew
                obtain ⟨xv, HXV⟩ : ∃ xv, Hid (xv = w0F v t) := ⟨_, rfl⟩
                go_upto_if 134 with fail
                go_cut [27] (fun v27 wx => wx = w8 ∧ v27 = .int .i64 xv)
                case first =>
                  by_cases hneg : v t < 0
                  · have d1 : decide (v t < 0) = true := decide_eq_true hneg
                    have HE : Hid (xv = 0) := by show _ = _; rw [HXV.out]; exact if_pos hneg
                    go_wp2_with fail
                    go_meet
                    case rel => exact ⟨rfl, by rw [HE.out]⟩
                  · have d1 : decide (v t < 0) = false := decide_eq_false hneg
                    have HE : Hid (xv = v t) := by show _ = _; rw [HXV.out]; exact if_neg hneg
                    go_wp2_with fail
                    go_meet
                    case rel => exact ⟨rfl, by rw [HE.out]⟩
                case rest =>
                  obtain ⟨hw, hsv⟩ := hcut
                  subst hsv
                  rw [hw, ← EW.out]
                  clear hw c2
                  have HN1 : Hid (∀ (w0 : World) (t' : TypeId), (w0.alloc (.cells #[.int .i64 xv] t')).cell? ⟨w0.heap.size, 0, none⟩ = some (.int .i64 (w0F v t))) := fun w0 t' => by rw [new_cell, HXV.out]
                  have HS9 := hidd (HS8.out.fresh (fresh_alloc w8 (.cells #[.int .i64 xv] 3)))
                  clear HS8
                  go_wp2_with (at_builtin; refine wpList_app1 _ rfl _ _ 37 rfl w5.heap.size 3 (.int .i64 0) 8 Try.underlying37 infoIn rfl _ t (fun j => .int .i64 (w0F v j)) rfl HS9.out.ws w8.heap.size 1 rfl (HN1.out _ _) rfl (by omega) (by omega) HS9.out.low.size ?_)
                  intro v16' w9 hown1 happ1
                  have HS10 := hidd (HS9.out.width happ1 hown1)
                  obtain ⟨su', sc', es, _⟩ := hown1.rd
                  subst es
                  clear hown1 happ1 HS9 HN1
                  by_cases hmn : t < x.mn
                  · have het2 : e = t := by have := HQ.out.2.1; omega
                    subst het2
                    have HG9 := hidd (HGQ.out.fresh HS10.out.low)
                    obtain ⟨gb, gf, eg, h3⟩ := HG9.out.g.one (by omega)
                    have c3 := h3 e hmn
                    have j3 : (e : Int) < (x.mn : Int) := by omega
                    have j4 : decide ((e : Int) < (x.mn : Int)) = true := decide_eq_true j3
                    have HTC := hidd (HTP.out w9 gu gc bb e HG9.out hmn)
                    rw [← HXV.out] at HTC
                    obtain ⟨xl, HXE⟩ : ∃ xl, Hid (xl = (X e).length) := ⟨_, rfl⟩
                    rw [← HXE.out] at HTC
                    have hxl : xl ≤ 1048576 := by have := HXL.out e; rw [← HXE.out] at this; omega
                    rw [eg]
                    have EG := hidd eg
                    clear h3 eg
                    go_wp2_with fail
                    refine HTC.out.mono ?_
                    rintro e' w10 ⟨nu, nc, rfl, hto, f10⟩
                    have HTO : Hid (Own w10 w5.heap.size 3 1 (.slice nu (X e).length nc) (X e).length (tkF (X e))) := by rw [← HXE.out]; exact hto.weaken HS10.out.low.size
                    have HOF : Hid (Off (.slice su' (e + 1) sc') (.slice nu (X e).length nc)) := by rw [← HXE.out]; exact off_new HS10.out.ws hto
                    have HS11 := hidd (HS10.out.fresh f10)
                    have hnl1 := (md_rda hto).le
                    have hnl2 := (md_rda hto).top
                    unfold maxLen at hnl2
                    clear hto f10 HTC HS10 HG9 c3
                    have fa := fresh_alloc w10 (.cells #[.slice nu xl nc] 37)
                    have HS12 := hidd (HS11.out.fresh fa)
                    have HTO2 := hidd (HTO.out.kept fa)
                    have HBO : Hid (Own (w10.alloc (.cells #[.slice nu xl nc] 37)) w5.heap.size 37 1 (.slice tu e tc) e (fun j => .slice (updX A e nu j) (X j).length (updX C' e nc j))) := HS12.out.bs.congr (fun j hj => by rw [updX_ne _ _ _ (by omega), updX_ne _ _ _ (by omega)])
                    have HN2 : Hid ((w10.alloc (.cells #[.slice nu xl nc] 37)).cell? ⟨w10.heap.size, 0, none⟩ = some (.slice (updX A e nu e) (X e).length (updX C' e nc e))) := by show _ = _; rw [new_cell, updX_at, updX_at, HXE.out]
                    clear fa HS11 HTO
                    go_wp2_with (at_builtin; refine wpList_app1 _ rfl _ _ 52 rfl w5.heap.size 37 (.slice none 0 0) 24 Try.underlying52 infoSI rfl _ e (fun j => .slice (updX A e nu j) (X j).length (updX C' e nc j)) rfl HBO.out w10.heap.size 1 rfl HN2.out rfl (by omega) (by omega) HS12.out.low.size ?_)
                    intro v17' w11 hown2 happ2
                    have HS13 := hidd (HS12.out.best HTO2.out HOF.out happ2 hown2)
                    obtain ⟨tu', tc', et, _⟩ := hown2.rd
                    subst et
                    clear hown2 happ2 HS12 HTO2 HOF HBO HN2
                    obtain ⟨z, HZ⟩ : ∃ z, Hid (z = lv * xl) := ⟨_, rfl⟩
                    have hzb : z ≤ 101711872 := by rw [HZ.out]; exact Nat.le_trans (Nat.mul_le_mul hlv hxl) (by omega)
                    have hmul : IntKind.i64.wrap ((lv : Int) * (xl : Int)) = (z : Int) := by
                      have : (lv : Int) * (xl : Int) = (z : Int) := by rw [HZ.out]; push_cast; rfl
                      rw [this]
                      exact wrap_small _ (by omega) (by omega)
                    have hmul2 : (lv : Int) * (xl : Int) = (z : Int) := by rw [HZ.out]; push_cast; rfl
                    obtain ⟨lv', HLV⟩ : ∃ lv', Hid (lv' = lvN X (e + 1)) := ⟨_, rfl⟩
                    have hlv' : lv' ≤ 97 := by rw [HLV.out]; exact lvN_le X _
                    have HLZ : Hid (lv' = if 96 < z then 97 else z) := by
                      show _ = _
                      rw [HLV.out, HZ.out, HXE.out, HQ.out.2.2.2.1]
                      rfl
                    rw [← EG.out]
                    go_upto_if 158 with fail
                    go_cut [19] (fun v19 wx => wx = w11 ∧ v19 = .int .i64 (lv' : Int))
                    case first =>
                      by_cases h96 : 96 < z
                      · have d1 : decide ((96 : Int) < (z : Int)) = true := decide_eq_true (by omega)
                        have d2 : decide (96 < z) = true := decide_eq_true h96
                        have HE : Hid (lv' = 97) := by show _ = _; rw [HLZ.out]; exact if_pos h96
                        go_wp2_with fail
                        go_meet
                        case rel => exact ⟨rfl, by rw [HE.out]; rfl⟩
                      · have d1 : decide ((96 : Int) < (z : Int)) = false := decide_eq_false (by omega)
                        have d2 : decide (96 < z) = false := decide_eq_false h96
                        have HE : Hid (lv' = z) := by show _ = _; rw [HLZ.out]; exact if_neg h96
                        go_wp2_with fail
                        go_meet
                        case rel => exact ⟨rfl, by rw [HE.out]⟩
                    case rest =>
                      obtain ⟨hw, hsv⟩ := hcut
                      subst hsv
                      rw [hw]
                      clear hw hmul hmul2
                      have hal2 : al ≤ 97 * e := by rw [HQ.out.2.2.1]; exact alN_le X e
                      have HPN : Hid (L <+: grL X (e + 1)) := by rw [HL.out]; exact grL_pre X (by omega)
                      have HQN : Hid (e + 1 = min (e + 1) m ∧ e + 1 = min x.mn (e + 1) ∧ al + lv' = alN X (e + 1) ∧ lv' = lvN X (e + 1) ∧ a = L.length) := ⟨by omega, by omega, by rw [HQ.out.2.2.1, HLV.out]; rfl, HLV.out, HA.out⟩
                      clear HQ HPX HLV HLZ HZ HXE HXV HAW
                      go_wp2
                      go_roundw
                      case rel => exact ⟨e + 1, e + 1, e + 1, al + lv', lv', a, _, _, lu, lc, L, by omega, by go_num, by go_num, rfl, rfl, hlv', by omega, ha, HQN, HPN, HS13⟩
                      case measure => simp [intOf]; omega
                  · have j3 : ¬ ((t : Int) < (x.mn : Int)) := by omega
                    have j4 : decide ((t : Int) < (x.mn : Int)) = false := decide_eq_false j3
                    have HPN : Hid (L <+: grL X e) := by rw [HL.out]; exact List.prefix_rfl
                    have HQN : Hid (t + 1 = min (t + 1) m ∧ e = min x.mn (t + 1) ∧ al = alN X e ∧ lv = lvN X e ∧ a = L.length) := ⟨by omega, by have := HQ.out.2.1; omega, HQ.out.2.2.1, HQ.out.2.2.2.1, HA.out⟩
                    clear HQ HPX HXV HAW
                    go_wp2
                    go_roundw
                    case rel => exact ⟨t + 1, t + 1, e, al, lv, a, _, _, lu, lc, L, by omega, by go_num, rfl, rfl, rfl, hlv, hal, ha, HQN, HPN, HS10⟩
                    case measure => simp [intOf]; omega
              · obtain rfl : t = m := by omega
                have j1 : ¬ ((t : Int) < (t : Int)) := by omega
                have HPN : Hid (L <+: grL X e) := by rw [HL.out]; exact List.prefix_rfl
                have HQN : Hid (t = min (t + 1) t ∧ e = min x.mn t ∧ al = alN X e ∧ lv = lvN X e ∧ a = L.length) := ⟨by omega, HQ.out.2.1, HQ.out.2.2.1, HQ.out.2.2.2.1, HA.out⟩
                clear HQ HPX HAW
                go_wp2
                go_roundw
                case rel => exact ⟨t + 1, t, e, al, lv, a, _, _, lu, lc, L, by omega, by go_num, rfl, rfl, rfl, hlv, hal, ha, HQN, HPN, HS8⟩
                case measure => first | (simp [intOf]; done) | (simp [intOf]; omega)
          · obtain rfl : i = m + 1 := by omega
            have i1 : decide (((m + 1 : Nat) : Int) ≤ (m : Int)) = false := decide_eq_false (by omega)
            have i2 : ¬ (((m + 1 : Nat) : Int) ≤ (m : Int)) := by omega
            have FE := hidd (fresh_trans F5.out HSW.out.low)
            go_wp2
            go_ret
            exact ⟨rfl, FE.out⟩
  · have hie : ∃ er, IsE x er ∧ er ≠ 0 := by
      by_cases hm : x.may
      · exact ⟨41, .inr (.inl ⟨hm, fun hp => hfit ⟨hm, hp⟩, rfl⟩), by decide⟩
      · exact ⟨40, .inl ⟨hm, rfl⟩, by decide⟩
    obtain ⟨er, he, h0⟩ := hie
    have HMD : Hid (∀ z, Below w.heap.size w z → Calls Try.prog 9 #[.agg T] z fun e w' => e = .returned (.tuple #[.pointer none, .bool false, .bool true]) ∧ Below z.heap.size z w') := fun z hz => by rw [HT.out]; exact made_bad (HX.out.fresh hz) he h0
    clear he h0 hfit
    have HLG : Hid (∀ z, Calls Try.prog 14 #[.int .i64 (m : Int)] z fun e w' => e = .returned (.bool false) ∧ w' = z) := fun z => (long_any z m).mono fun e w' ⟨h1, h2⟩ => ⟨by rw [h1, decide_eq_false hlong], h2⟩
    go_enter Try.func4, Try.ntmps4
    go_upto_region 1 with fail
    have HR1 := hidd (HR.out)
    generalize hwa : w.alloc (.cells #[.int .i64 x.V, .int .i64 x.W, .int .i64 x.H, .int .i64 x.K, .int .i64 x.L, .int .i64 x.D, .int .i64 x.N, .int .i64 x.M, .int .i64 x.E.R, .int .i64 x.E.C, .slice x.E.O x.E.n x.E.c, .slice x.tO x.tn x.tc, .slice x.yO x.yn x.yc, .slice x.F.O x.F.n x.F.c, .int .i64 x.Q.R, .int .i64 x.Q.C, .slice x.Q.O x.Q.n x.Q.c, .slice x.mO x.mn x.mc] 31) = wa at *
    clear hwa HR
    go_wp2_with fail
    refine (HLG.out _).mono ?_
    rintro e wz ⟨rfl, hwz⟩
    rw [hwz]
    clear hwz wz HLG
    go_wp2_with fail
    refine (HFX.out _).mono ?_
    rintro e w0 ⟨rfl, f0⟩
    have F0 := hidd (fresh_trans f1 f0)
    have HR0 := hidd (row_fresh HR1.out f0)
    have RG : Hid (w0.rangeAt w.heap.size 0 T.toList) := by rw [HT.out]; exact row_range HR0.out rfl
    clear f1 f0 HR1
    go_wp2_with (refine wpList_load_mid rfl 31 _ rfl w.heap.size 0 rfl T.toList _ RG.out Try.underlying31 rfl SL.out ?_)
    refine (HMD.out _ F0.out).mono ?_
    rintro e w1 ⟨rfl, f2⟩
    have F1 := hidd (fresh_trans F0.out f2)
    clear f2 HMD RG SL F0
    go_wp2
    go_ret
    exact ⟨rfl, F1.out⟩
end Go.Proofs.Ytjjnfpeeipainaa
