import Derived.Test.YtjjnfpeeipainaaMK
import Derived.Deep.DeepCutAuto
import Derived.Test.YtjjnfpeeipainaaWtO
namespace Go.Proofs.Ytjjnfpeeipainaa
open Go.RowKit
/-! The law MedusaLine. -/
/-- one way of best tokens -/
def lnL (F : Nat → Nat → Int) (R d : Nat) : List (Int × Int) := (List.range d).map (fun (i : Nat) => ((i : Int) - 1, ((sg (F i) R 0 : Nat) : Int)))
theorem lnL_len (F : Nat → Nat → Int) (R d : Nat) : (lnL F R d).length = d := by unfold lnL; simp
theorem lnL_at (F : Nat → Nat → Int) {R d i : Nat} (h : i < d) : (lnL F R d).getD i (0, 0) = ((i : Int) - 1, ((sg (F i) R 0 : Nat) : Int)) := by
  unfold lnL
  rw [List.getD_eq_getElem?_getD, List.getElem?_map, List.getElem?_range h]
  rfl
theorem ln_range (a : Nat → Int) : ∀ (m : Nat), ln 0 ((List.range m).map a) = (List.range m).map (fun (i : Nat) => ((i : Int) - 1, a i)) := by
  intro m
  unfold ln
  refine List.ext_getElem (by simp) (fun i h1 h2 => ?_)
  simp
theorem grL_line (a : Nat → Int) (m : Nat) (h : m ≤ 96) : grL (fun i => [a i]) m = (List.range m).map (fun (i : Nat) => ((i : Int) - 1, a i)) := by
  unfold grL
  have e : (List.range m).map (fun i => [a i]) = ((List.range m).map a).map (fun t => [t]) := by rw [List.map_map]; rfl
  rw [e, gr_line ((List.range m).map a) 0 [] rfl (by simp; omega), List.nil_append]
  exact ln_range a m
theorem line_list (x : WtD) (f : Nat → Int) (R C k : Nat) (hR : 1 ≤ R) (hk : k ≤ 6) : prL sg x f R C (fun _ => 1) k = lnL (fun i r => mv (x.md i).f f C r) R (min x.mn k) := by
  unfold prL lnL
  rw [← grL_line _ _ (by omega)]
  congr 1
  funext i
  unfold tpL
  have : min (1 : Int).toNat R = 1 := by omega
  rw [this]
  rfl
/-- what the law's last loop reads -/
structure LnR (w : World) (d R : Nat) (gu : Option Addr) (mn gc : Nat) (lu : Option Addr) (lc : Nat) (bb : Nat → Nat) (F : Nat → Nat → Int) : Prop where
  g : RdA w gu 1 mn gc (fun j => .slice (some ⟨bb j, 0, none⟩) R R)
  rows : ∀ j, j < mn → RdA w (some ⟨bb j, 0, none⟩) 1 R R (fun r => .int .i64 (F j r))
  l : RdA w lu 2 d lc (rwF (lnL F R d))
  dm : d ≤ mn
theorem LnR.fresh {w w' : World} {d R : Nat} {gu : Option Addr} {mn gc : Nat} {lu : Option Addr} {lc : Nat} {bb : Nat → Nat} {F : Nat → Nat → Int} (h : LnR w d R gu mn gc lu lc bb F) (f : Below w.heap.size w w') : LnR w' d R gu mn gc lu lc bb F := ⟨h.g.fresh f, fun j hj => (h.rows j hj).fresh f, h.l.fresh f, h.dm⟩
set_option maxRecDepth 100000 in
set_option maxHeartbeats 8000000 in
theorem line_law {w : World} {x : WtD} (hx : WtR w x) {ho : Option Addr} {n hc : Nat} {f : Nat → Int} (hh : RdA w ho 1 n hc (fun i => .int .i8 (f i))) (hg : ∀ i, i < n → -128 ≤ f i ∧ f i ≤ 127) (q : Int) :
    Calls Try.prog 3 #[.agg #[.int .i64 x.V, .int .i64 x.W, .int .i64 x.H, .int .i64 x.K, .int .i64 x.L, .int .i64 x.D, .int .i64 x.N, .int .i64 x.M, .int .i64 x.E.R, .int .i64 x.E.C, .slice x.E.O x.E.n x.E.c, .slice x.tO x.tn x.tc, .slice x.yO x.yn x.yc, .slice x.F.O x.F.n x.F.c, .int .i64 x.Q.R, .int .i64 x.Q.C, .slice x.Q.O x.Q.n x.Q.c, .slice x.mO x.mn x.mc], .slice ho n hc, .int .i64 q] w fun e w' => e = .returned (.bool true) ∧ Below w.heap.size w w' := by
  obtain ⟨T, hT⟩ : ∃ T, T = wtA x := ⟨_, rfl⟩
  have hr : (w.alloc (.cells #[.int .i64 x.V, .int .i64 x.W, .int .i64 x.H, .int .i64 x.K, .int .i64 x.L, .int .i64 x.D, .int .i64 x.N, .int .i64 x.M, .int .i64 x.E.R, .int .i64 x.E.C, .slice x.E.O x.E.n x.E.c, .slice x.tO x.tn x.tc, .slice x.yO x.yn x.yc, .slice x.F.O x.F.n x.F.c, .int .i64 x.Q.R, .int .i64 x.Q.C, .slice x.Q.O x.Q.n x.Q.c, .slice x.mO x.mn x.mc] 31)).rowIs w.heap.size 31 18 (wtc x) := World.rowIs_list w (wtL x) 31
  have f1 := fresh_alloc w (.cells #[.int .i64 x.V, .int .i64 x.W, .int .i64 x.H, .int .i64 x.K, .int .i64 x.L, .int .i64 x.D, .int .i64 x.N, .int .i64 x.M, .int .i64 x.E.R, .int .i64 x.E.C, .slice x.E.O x.E.n x.E.c, .slice x.tO x.tn x.tc, .slice x.yO x.yn x.yc, .slice x.F.O x.F.n x.F.c, .int .i64 x.Q.R, .int .i64 x.Q.C, .slice x.Q.O x.Q.n x.Q.c, .slice x.mO x.mn x.mc] 31)
  have SL : Hid ((Try.prog.info? 31).map (·.size) = some T.toList.length) := by rw [hT]; exact sizeW
  have HFX : Hid (∀ z, Calls Try.prog 8 #[] z fun e w' => e = .returned (.bool true) ∧ Below z.heap.size z w') := fun z => fixedM_any z
  have HT := hidd hT
  have HR := hidd hr
  have HX := hidd hx
  have HH := hidd hh
  have HG := hidd hg
  have hnc := hh.le
  have hnt := hh.top
  unfold maxLen at hnt
  clear hr hT hx hh hg
  by_cases hfit : x.may ∧ WtP x
  · obtain ⟨hm, hp⟩ := hfit
    have HMD : Hid (∀ z, Below w.heap.size w z → Calls Try.prog 9 #[.agg T] z fun e w' => ∃ y g, e = .returned (.tuple #[.pointer (some ⟨g, 0, none⟩), .bool true, .bool true]) ∧ Mdl w' g x y ∧ Below z.heap.size z w') := fun z hz => by rw [HT.out]; exact made_ok (HX.out.fresh hz) hm hp
    obtain ⟨R, C, hV, hW, hR1, hR2, hC1, hC2⟩ : ∃ R C : Nat, x.V = (R : Int) ∧ x.W = (C : Int) ∧ 1 ≤ R ∧ R ≤ 1048576 ∧ 1 ≤ C ∧ C ≤ 1048576 := by
      obtain ⟨⟨v0, v1⟩, ⟨w0, w1⟩, _⟩ := hm
      obtain ⟨R, hR⟩ := Int.eq_ofNat_of_zero_le (show 0 ≤ x.V by omega)
      obtain ⟨C, hC⟩ := Int.eq_ofNat_of_zero_le (show 0 ≤ x.W by omega)
      exact ⟨R, C, hR, hC, by omega, by omega, by omega, by omega⟩
    have HFT : Hid (∀ z, Below w.heap.size w z → Calls Try.prog 10 #[.agg T, .slice ho n hc] z fun e w' => ∃ u c, e = .returned (.slice u C c) ∧ Own w' z.heap.size 51 1 (.slice u C c) C (fun i => .int .i8 (fitF f n i)) ∧ Below z.heap.size z w') := fun z hz => by rw [HT.out]; exact fitv_any hW hC2 (HH.out.fresh hz)
    have hmb : x.mn ≤ 1048576 := (hp.b hm).M
    obtain ⟨k, hk6, hkq⟩ : ∃ k : Nat, k ≤ 6 ∧ ((k : Int) = Int.tmod q 7 ∨ (-(k : Int) = Int.tmod q 7 ∧ 0 < k)) := by
      have h1 := Int.tmod_lt_of_pos q (show (0 : Int) < 7 by omega)
      have h2 : -7 < Int.tmod q 7 := by
        have := Int.tmod_lt_of_pos (-q) (show (0 : Int) < 7 by omega)
        rw [Int.neg_tmod] at this
        omega
      by_cases h : 0 ≤ Int.tmod q 7
      · exact ⟨(Int.tmod q 7).toNat, by omega, .inl (by omega)⟩
      · exact ⟨(-(Int.tmod q 7)).toNat, by omega, .inr ⟨by omega, by omega⟩⟩
    obtain ⟨d, HD⟩ : ∃ d, Hid (d = min x.mn k) := ⟨_, rfl⟩
    have hdm : d ≤ x.mn := by have := HD.out; omega
    have hdk : d ≤ k := by have := HD.out; omega
    have HPR : Hid (∀ (z : World) (g : Nat) (y : WtD) (u : Option Addr) (c : Nat) (wo : Option Addr) (wc : Nat), Mdl z g x y → RdA z u 1 C c (fun i => .int .i8 (fitF f n i)) → RdA z wo 1 k wc (fun _ => .int .i64 1) → Calls Try.prog 11 #[.pointer (some ⟨g, 0, none⟩), .slice u C c, .slice wo k wc] z fun e w' => ∃ lu lc, e = .returned (.tuple #[.slice lu d lc, .int .i64 0]) ∧ RdA w' lu 2 d lc (rwF (lnL (fun i r => mv (x.md i).f (fitF f n) C r) R d)) ∧ Below z.heap.size z w') := by
      intro z g y u c wo wc hmd hrd hw
      refine (propose_ok topC hmd (hmd.b hm hp) hV hW hR2 hp.m hmb hrd (fun i _ => fitF_bd HG.out i) hw (fun _ _ => by omega)).mono ?_
      rintro e w' ⟨lu, lc, rfl, ho, f1⟩
      rw [line_list x _ R C k hR1 hk6, ← HD.out] at ho ⊢
      have hl : (lnL (fun i r => mv (x.md i).f (fitF f n) C r) R d).length = d := lnL_len _ _ _
      rw [hl] at ho ⊢
      exact ⟨lu, lc, rfl, md_rda ho, f1⟩
    have HGO : Hid (∀ (z : World) (g : Nat) (y : WtD) (u : Option Addr) (c : Nat) (lu : Option Addr) (lc : Nat), Mdl z g x y → RdA z u 1 C c (fun i => .int .i8 (fitF f n i)) → RdA z lu 2 d lc (rwF (lnL (fun i r => mv (x.md i).f (fitF f n) C r) R d)) → Calls Try.prog 12 #[.pointer (some ⟨g, 0, none⟩), .slice u C c] z fun e w' => ∃ gu gc bb, e = .returned (.tuple #[.slice gu x.mn gc, .int .i64 0]) ∧ LnR w' d R gu x.mn gc lu lc bb (fun i r => mv (x.md i).f (fitF f n) C r) ∧ Below z.heap.size z w') := by
      intro z g y u c lu lc hmd hrd hl
      refine (guesses_ok hmd (hmd.b hm hp) hV hW hR2 hp.m hmb hrd (fun i _ => fitF_bd HG.out i)).mono ?_
      rintro e w' ⟨gu, gc, rfl, ⟨bb, hgs⟩, f1⟩
      refine ⟨gu, gc, bb, rfl, ⟨md_rda hgs.own, fun j hj => ?_, hl.fresh f1, hdm⟩, f1⟩
      obtain ⟨_, F, h1, h2⟩ := hgs.rows j hj
      exact (rowIs_rd h1 (by unfold maxLen; omega)).congr (fun r hr => h2 r (by omega))
    clear hV hW hm hp
    go_enter Try.func3, Try.ntmps3
    go_upto_region 1 with fail
    have HR1 := hidd (HR.out)
    generalize hwa : w.alloc (.cells #[.int .i64 x.V, .int .i64 x.W, .int .i64 x.H, .int .i64 x.K, .int .i64 x.L, .int .i64 x.D, .int .i64 x.N, .int .i64 x.M, .int .i64 x.E.R, .int .i64 x.E.C, .slice x.E.O x.E.n x.E.c, .slice x.tO x.tn x.tc, .slice x.yO x.yn x.yc, .slice x.F.O x.F.n x.F.c, .int .i64 x.Q.R, .int .i64 x.Q.C, .slice x.Q.O x.Q.n x.Q.c, .slice x.mO x.mn x.mc] 31) = wa at *
    clear hwa HR
    go_wp2_with fail
    refine (HFX.out _).mono ?_
    rintro e w0 ⟨rfl, f0⟩
    have F0 := hidd (fresh_trans f1 f0)
    have HR0 := hidd (row_fresh HR1.out f0)
    have RG : Hid (w0.rangeAt w.heap.size 0 T.toList) := by rw [HT.out]; exact row_range HR0.out rfl
    clear f1 f0 HR1
    go_wp2_with (refine wpList_load_mid rfl 31 _ rfl w.heap.size 0 rfl T.toList _ RG.out Try.underlying31 rfl SL.out ?_)
    refine (HMD.out _ F0.out).mono ?_
    rintro e w1 ⟨y, g, rfl, hmd, f2⟩
    have F1 := hidd (fresh_trans F0.out f2)
    have HM1 := hidd hmd
    have HR1 := hidd (row_fresh HR0.out f2)
    replace RG : Hid (w1.rangeAt w.heap.size 0 T.toList) := by rw [HT.out]; exact row_range HR1.out rfl
    clear hmd f2 HMD HR0 F0
    go_wp2_with (refine wpList_load_mid rfl 31 _ rfl w.heap.size 0 rfl T.toList _ RG.out Try.underlying31 rfl SL.out ?_)
    refine (HFT.out _ F1.out).mono ?_
    rintro e w2 ⟨hu, hcc, rfl, ho2, f3⟩
    have F2 := hidd (fresh_trans F1.out f3)
    have HM2 := hidd (HM1.out.fresh f3)
    have HO2 := hidd (md_rda ho2)
    clear ho2 f3 F1 HM1 HR1 HFT RG SL HFX HT HX HH HG
    go_upto_if 42 with fail
    go_cut [12, 43, 44] (fun v _ _ wx => wx = w2 ∧ v = .int .i64 (k : Int))
    case first =>
      rcases hkq with e | ⟨e, h0⟩
      · rw [← e]
        have d1 : decide ((k : Int) < 0) = false := decide_eq_false (by omega)
        clear e
        go_wp2_with fail
        go_meet
        case rel => exact ⟨rfl, rfl⟩
      · rw [← e]
        have d1 : decide (-(k : Int) < 0) = true := decide_eq_true (by omega)
        have d2 : IntKind.i64.wrap (-(-(k : Int))) = (k : Int) := by rw [Int.neg_neg]; exact wrap_small _ (by omega) (by omega)
        clear e
        go_wp2_with fail
        go_meet
        case rel => exact ⟨rfl, by first | rfl | simp⟩
    case rest =>
      obtain ⟨hw, hs⟩ := hcut
      subst hs
      rw [hw]
      clear hw hkq
      go_wp2
      go_loopw [13, 14] (fun v i wr => ∃ j : Nat, j ≤ k ∧ i = .int .i64 (j : Int) ∧ Own wr w2.heap.size 3 1 v j (fun _ => .int .i64 1) ∧ Hid (Below w2.heap.size w2 wr)) (fun _ i _ => k - (intOf i).toNat)
      case atStart => exact ⟨0, Nat.zero_le _, by simp, own_nil _ _ _ _ _, Below.refl _ _⟩
      case round =>
        obtain ⟨j, hj, rfl, hown, HF⟩ := hrel
        obtain ⟨p, uc, rfl, _⟩ := hown.rd
        have hsz := HF.out.size
        by_cases hlt : j < k
        · have i1 : (j : Int) < (k : Int) := by omega
          have HN : Hid (∀ (w0 : World) (t : TypeId), (w0.alloc (.cells #[.int .i64 1] t)).cell? ⟨w0.heap.size, 0, none⟩ = some (.int .i64 1)) := fun w0 t => new_cell _ _ _
          have HO := hidd (hown.kept (fresh_alloc wr (.cells #[.int .i64 1] 3)))
          have HFA := hidd (HF.out.alloc hsz (.cells #[.int .i64 1] 3))
          clear hown
          go_wp2_with (at_builtin; refine wpList_app1 _ rfl _ _ 37 rfl w2.heap.size 3 (.int .i64 0) 8 Try.underlying37 infoIn rfl _ j (fun _ => .int .i64 1) rfl HO.out wr.heap.size 1 rfl (HN.out _ _) rfl (by omega) (by omega) HFA.out.size ?_)
          rintro v' w3 hown' happ
          have HB := hidd (happ.below HFA.out HO.out (Nat.le_refl _) HFA.out.size)
          clear happ HO HFA HN
          go_wp2
          go_roundw
          case rel => exact ⟨j + 1, by omega, by go_num, hown', HB⟩
          case measure => simp [intOf]; omega
        · obtain rfl : j = k := by omega
          have hnl : ¬ ((j : Int) < (j : Int)) := by omega
          have HP1 := hidd (HPR.out wr g y hu hcc p uc (HM2.out.fresh HF.out) (HO2.out.fresh HF.out) (md_rda hown))
          have FR := hidd (fresh_trans F2.out HF.out)
          have HM3 := hidd (HM2.out.fresh HF.out)
          have HO3 := hidd (HO2.out.fresh HF.out)
          clear hown HPR HF F2 HM2 HO2 hsz
          go_wp2_with fail
          refine HP1.out.mono ?_
          rintro e w4 ⟨lu, lc, rfl, hl, f4⟩
          have HG1 := hidd (HGO.out w4 g y hu hcc lu lc (HM3.out.fresh f4) (HO3.out.fresh f4) hl)
          have F4 := hidd (fresh_trans FR.out f4)
          clear hl f4 HP1 HGO FR HM3 HO3
          go_wp2_with fail
          refine HG1.out.mono ?_
          rintro e w5 ⟨gu, gc, bb, rfl, hln, f5⟩
          have HL := hidd hln
          have F5 := hidd (fresh_trans F4.out f5)
          have hgl := hln.g.le
          have hgt := hln.g.top
          have hll := hln.l.le
          have hlt2 := hln.l.top
          unfold maxLen at hgt hlt2
          clear hln f5 HG1 F4
          go_upto_if 69 with fail
          go_cut [12, 70, 71] (fun v _ _ wx => wx = w5 ∧ v = .int .i64 (d : Int))
          case first =>
            by_cases hmk : x.mn < j
            · have d1 : decide ((x.mn : Int) < (j : Int)) = true := decide_eq_true (by omega)
              have HE : Hid (x.mn = d) := by show _ = _; have := HD.out; omega
              go_wp2_with fail
              go_meet
              case rel => exact ⟨rfl, by rw [HE.out]⟩
            · have d1 : decide ((x.mn : Int) < (j : Int)) = false := decide_eq_false (by omega)
              have HE : Hid (j = d) := by show _ = _; have := HD.out; omega
              go_wp2_with fail
              go_meet
              case rel => exact ⟨rfl, by rw [← HE.out]⟩
          case rest =>
            obtain ⟨hw, hs⟩ := hcut
            subst hs
            rw [hw]
            clear hw
            go_wp2
            go_loopw [19] (fun i wr => ∃ i' : Nat, i' ≤ d ∧ i = .int .i64 (i' : Int) ∧ Hid (Below w5.heap.size w5 wr)) (fun i _ => d - (intOf i).toNat)
            case atStart => exact ⟨0, Nat.zero_le _, by simp, Below.refl _ _⟩
            case round =>
              obtain ⟨i, hi, rfl, HB⟩ := hrel
              by_cases hid : i < d
              · have HL2 := hidd (HL.out.fresh HB.out)
                have HTC := hidd (topC wr _ R R _ (HL2.out.rows i (by omega)) (by omega) 1)
                rw [show min (1 : Int).toNat R = 1 by omega] at HTC
                obtain ⟨gb, gf, eg, h1⟩ := HL2.out.g.one (by omega)
                have c1 := h1 i (by omega)
                have i0 : (0 : Int) ≤ (i : Int) := by omega
                have i1 : (i : Int) < (d : Int) := by omega
                have i2 : (i : Int) < (x.mn : Int) := by omega
                rw [eg]
                have EG := hidd eg
                clear h1 eg
                go_wp2_with fail
                refine HTC.out.mono ?_
                rintro e w6 ⟨tu, tc, rfl, hto, f6⟩
                have HL3 := hidd (HL2.out.fresh f6)
                have F6 := hidd (fresh_trans HB.out f6)
                have htr := md_rda hto
                have htl := htr.le
                have htt := htr.top
                unfold maxLen at htt
                obtain ⟨tb, tf, et, h2⟩ := htr.one (by omega)
                have c2 := h2 0 (by omega)
                obtain ⟨lb, lf, el, h3⟩ := HL3.out.l.at_ (by omega)
                have c3 := h3 (i * 2) (by omega)
                have c4 := h3 (i * 2 + 1) (by omega)
                rw [rwF_1, lnL_at _ hid] at c3
                rw [rwF_2, lnL_at _ hid, ← Nat.add_assoc] at c4
                rw [Nat.add_zero] at c2
                generalize hsg : ((sg (fun r => mv (x.md i).f (fitF f n) C r) R 0 : Nat) : Int) = s at *
                have g1 : IntKind.i64.wrap ((i : Int) - 1) = (i : Int) - 1 := by rw [IntKind.wrap_i64]; omega
                subst et el
                clear hsg h2 h3 htr hto f6 HTC c1 HL2 HL3
                go_wp2
                go_quiet (fail)
                go_wp2
                go_roundw
                case rel => exact ⟨i + 1, by omega, by go_num, below_drewN F6.out _⟩
                case measure => simp [intOf]; omega
              · obtain rfl : i = d := by omega
                have hnl : ¬ ((i : Int) < (i : Int)) := by omega
                have FE := hidd (fresh_trans F5.out HB.out)
                go_wp2
                go_ret
                exact ⟨rfl, FE.out⟩
  · have hie : ∃ er, IsE x er ∧ er ≠ 0 := by
      by_cases hm : x.may
      · exact ⟨41, .inr (.inl ⟨hm, fun hp => hfit ⟨hm, hp⟩, rfl⟩), by decide⟩
      · exact ⟨40, .inl ⟨hm, rfl⟩, by decide⟩
    obtain ⟨er, he, h0⟩ := hie
    have HMD : Hid (∀ z, Below w.heap.size w z → Calls Try.prog 9 #[.agg T] z fun e w' => e = .returned (.tuple #[.pointer none, .bool false, .bool true]) ∧ Below z.heap.size z w') := fun z hz => by rw [HT.out]; exact made_bad (HX.out.fresh hz) he h0
    clear he h0 hfit
    go_enter Try.func3, Try.ntmps3
    go_upto_region 1 with fail
    have HR1 := hidd (HR.out)
    generalize hwa : w.alloc (.cells #[.int .i64 x.V, .int .i64 x.W, .int .i64 x.H, .int .i64 x.K, .int .i64 x.L, .int .i64 x.D, .int .i64 x.N, .int .i64 x.M, .int .i64 x.E.R, .int .i64 x.E.C, .slice x.E.O x.E.n x.E.c, .slice x.tO x.tn x.tc, .slice x.yO x.yn x.yc, .slice x.F.O x.F.n x.F.c, .int .i64 x.Q.R, .int .i64 x.Q.C, .slice x.Q.O x.Q.n x.Q.c, .slice x.mO x.mn x.mc] 31) = wa at *
    clear hwa HR
    go_wp2_with fail
    refine (HFX.out _).mono ?_
    rintro e w0 ⟨rfl, f0⟩
    have F0 := hidd (fresh_trans f1 f0)
    have HR0 := hidd (row_fresh HR1.out f0)
    have RG : Hid (w0.rangeAt w.heap.size 0 T.toList) := by rw [HT.out]; exact row_range HR0.out rfl
    clear f1 f0 HR1
    go_wp2_with (refine wpList_load_mid rfl 31 _ rfl w.heap.size 0 rfl T.toList _ RG.out Try.underlying31 rfl SL.out ?_)
    refine (HMD.out _ F0.out).mono ?_
    rintro e w1 ⟨rfl, f2⟩
    have F1 := hidd (fresh_trans F0.out f2)
    clear f2 HMD RG SL F0
    go_wp2
    go_ret
    exact ⟨rfl, F1.out⟩
end Go.Proofs.Ytjjnfpeeipainaa
namespace Go.Proofs.Ytjjnfpeeipainaa
open Go.ChangeShapes Go.WideShapes Go.ChangeAt Go.RowKit Go.Deep
/-! The law MedusaLine, from what came in. -/
set_option maxRecDepth 100000 in
theorem medusaLine_walk {H : Type} {enc : TypeId × Value → H} {base : Nat} {sp : Nat → Bool} {held : Bool} {r : Reach} {b0 b1 : Nat} {v0 v1 : Value} {d0 d1 : DataW H} {ps0 ps1 : List MemPlace} (n : Int) (W : World)
    (hval0 : Value.okWide Try.prog W r b0 31 v0) (h0 : DataW.Trod enc Try.prog W base sp held 31 v0 d0 ps0) (hval1 : Value.okWide Try.prog W r b1 24 v1) (h1 : DataW.Trod enc Try.prog W base sp held 24 v1 d1 ps1) (_l : -9223372036854775808 ≤ n) (_u : n ≤ 9223372036854775807) :
    Calls Try.prog 3 #[v0, v1, .int .i64 n] W fun e w' => e = .returned (.bool true) ∧ Below W.heap.size W w' := by
  obtain ⟨x, rfl, hx⟩ := open_weights hval0 h0
  obtain ⟨l, rfl, hl⟩ := open_narrow hval1 h1
  exact line_law hx hl.rd hl.bd n
end Go.Proofs.Ytjjnfpeeipainaa
