import Derived.Test.YtjjnfpeeipainaaMdS
namespace Go.Proofs.Ytjjnfpeeipainaa
open Go.RowKit
/-! The law MedusaBegins. -/
theorem RdA.firsts {w : World} {ao : Option Addr} {sz n m cap : Nat} {cs : Nat → Value} (h : RdA w ao sz n cap cs) (hm : m ≤ n) : RdA w ao sz m cap cs :=
  ⟨Nat.le_trans hm h.le, h.top, fun h0 => by obtain ⟨b, off, e, hc⟩ := h.at_ (by omega); exact ⟨b, off, e, fun j hj => hc j (Nat.lt_of_lt_of_le hj (Nat.mul_le_mul_right _ hm))⟩⟩
theorem own_off0 {w : World} {base : Nat} {e : TypeId} {sz n c : Nat} {u : Option Addr} {cs : Nat → Value} (h : Own w base e sz (.slice u n c) n cs) (hn : 0 < n) : ∃ g, u = some ⟨g, 0, none⟩ := by
  rcases h.2 with ⟨e4, h0⟩ | ⟨g, cap', cur, e4, _⟩
  · omega
  · injection e4 with e5
    exact ⟨g, e5⟩
/-- nothing more -/
theorem wpList_app0 {P : Program} (w : World) {ops : Array Oper} {rest : List Oper} {o : Oper} {a : Act} {Q : Exit → Act → World → Prop}
    (hg : o.guard = none) (s x : Operand) (t e : TypeId) (hop : o.op = Op.call { callee := Callee.builtin Builtin.append, args := #[s, x], argTypes := #[t, t] })
    (h1 : P.underlying t = some (.slice e)) {i : TypeInfo} (hi : P.info? e = some i) (ao u : Option Addr) (n cap k : Nat) (hs : a.eval s = .slice ao n cap) (hx : a.eval x = .slice u 0 k) (hle : n ≤ cap)
    (hK : wpList P ops Q rest (a.put o.dst (.slice ao n cap)) w) : wpList P ops Q (o :: rest) a w := by
  refine wpList_plain hg fun K hK' => ?_
  have hr := run_append_zero (P := P) w t o.type e h1 hi ao u n cap k hle
  unfold Oper.wp execOp
  simp only [hop, resolve, invoke, builtin, Sem.run_bind, Sem.run_pure, Result.andThen_ok, List.map_toArray, List.map_cons, List.map_nil, hs, hx, hr]
  exact hK' _ _ hK
set_option maxRecDepth 100000 in
set_option maxHeartbeats 16000000 in
theorem begins_law {w : World} {x : WtD} (hx : WtR w x) {ho : Option Addr} {n hc : Nat} {f : Nat → Int} (hh : RdA w ho 1 n hc (fun i => .int .i8 (f i))) (hg : ∀ i, i < n → -128 ≤ f i ∧ f i ≤ 127) {wo : Option Addr} {m wc : Nat} {v : Nat → Int} (hw : RdA w wo 1 m wc (fun i => .int .i64 (v i))) (hm20 : m ≤ 1048576) (q : Int) :
    Calls Try.prog 6 #[.agg #[.int .i64 x.V, .int .i64 x.W, .int .i64 x.H, .int .i64 x.K, .int .i64 x.L, .int .i64 x.D, .int .i64 x.N, .int .i64 x.M, .int .i64 x.E.R, .int .i64 x.E.C, .slice x.E.O x.E.n x.E.c, .slice x.tO x.tn x.tc, .slice x.yO x.yn x.yc, .slice x.F.O x.F.n x.F.c, .int .i64 x.Q.R, .int .i64 x.Q.C, .slice x.Q.O x.Q.n x.Q.c, .slice x.mO x.mn x.mc], .slice ho n hc, .slice wo m wc, .int .i64 q] w fun e w' => e = .returned (.bool true) ∧ Below w.heap.size w w' := by
  obtain ⟨T, hT⟩ : ∃ T, T = wtA x := ⟨_, rfl⟩
  have hr : (w.alloc (.cells #[.int .i64 x.V, .int .i64 x.W, .int .i64 x.H, .int .i64 x.K, .int .i64 x.L, .int .i64 x.D, .int .i64 x.N, .int .i64 x.M, .int .i64 x.E.R, .int .i64 x.E.C, .slice x.E.O x.E.n x.E.c, .slice x.tO x.tn x.tc, .slice x.yO x.yn x.yc, .slice x.F.O x.F.n x.F.c, .int .i64 x.Q.R, .int .i64 x.Q.C, .slice x.Q.O x.Q.n x.Q.c, .slice x.mO x.mn x.mc] 31)).rowIs w.heap.size 31 18 (wtc x) := World.rowIs_list w (wtL x) 31
  have f1 := fresh_alloc w (.cells #[.int .i64 x.V, .int .i64 x.W, .int .i64 x.H, .int .i64 x.K, .int .i64 x.L, .int .i64 x.D, .int .i64 x.N, .int .i64 x.M, .int .i64 x.E.R, .int .i64 x.E.C, .slice x.E.O x.E.n x.E.c, .slice x.tO x.tn x.tc, .slice x.yO x.yn x.yc, .slice x.F.O x.F.n x.F.c, .int .i64 x.Q.R, .int .i64 x.Q.C, .slice x.Q.O x.Q.n x.Q.c, .slice x.mO x.mn x.mc] 31)
  have SL : Hid ((Try.prog.info? 31).map (·.size) = some T.toList.length) := by rw [hT]; exact sizeW
  have HFX : Hid (∀ z, Calls Try.prog 8 #[] z fun e w' => e = .returned (.bool true) ∧ Below z.heap.size z w') := fun z => fixedM_any z
  have HT := hidd hT
  have HR := hidd hr
  have HX := hidd hx
  have HH := hidd hh
  have HG := hidd hg
  have HWS := hidd hw
  have hnc := hh.le
  have hnt := hh.top
  unfold maxLen at hnt
  clear hr hT hx hh hg hw
  by_cases hfit : x.may ∧ WtP x
  · obtain ⟨hm, hp⟩ := hfit
    have HMD : Hid (∀ z, Below w.heap.size w z → Calls Try.prog 9 #[.agg T] z fun e w' => ∃ y g, e = .returned (.tuple #[.pointer (some ⟨g, 0, none⟩), .bool true, .bool true]) ∧ Mdl w' g x y ∧ Below z.heap.size z w') := fun z hz => by rw [HT.out]; exact made_ok (HX.out.fresh hz) hm hp
    obtain ⟨R, C, hV, hW, hR1, hR2, hC1, hC2⟩ : ∃ R C : Nat, x.V = (R : Int) ∧ x.W = (C : Int) ∧ 1 ≤ R ∧ R ≤ 1048576 ∧ 1 ≤ C ∧ C ≤ 1048576 := by
      obtain ⟨⟨v0, v1⟩, ⟨w0, w1⟩, _⟩ := hm
      obtain ⟨R, hR⟩ := Int.eq_ofNat_of_zero_le (show 0 ≤ x.V by omega)
      obtain ⟨C, hC⟩ := Int.eq_ofNat_of_zero_le (show 0 ≤ x.W by omega)
      exact ⟨R, C, hR, hC, by omega, by omega, by omega, by omega⟩
    have HFT : Hid (∀ z, Below w.heap.size w z → Calls Try.prog 10 #[.agg T, .slice ho n hc] z fun e w' => ∃ u c, e = .returned (.slice u C c) ∧ Own w' z.heap.size 51 1 (.slice u C c) C (fun i => .int .i8 (fitF f n i)) ∧ Below z.heap.size z w') := fun z hz => by rw [HT.out]; exact fitv_any hW hC2 (HH.out.fresh hz)
    have hmb : x.mn ≤ 1048576 := (hp.b hm).M
    have HRT : Hid (∀ z, Below w.heap.size w z → Calls Try.prog 17 #[.slice wo m wc] z fun e w' => ∃ u c, e = .returned (.slice u m c) ∧ Own w' z.heap.size 3 1 (.slice u m c) m (fun i => .int .i64 (rgF v i)) ∧ Below z.heap.size z w') := fun z hz => right_any (by omega) (HWS.out.fresh hz)
    obtain ⟨k, hkm, hkq⟩ : ∃ k : Nat, k ≤ m ∧ ((k : Int) = Int.tmod q ((m : Int) + 1) ∨ ((k : Int) - ((m : Int) + 1) = Int.tmod q ((m : Int) + 1))) := by
      have h1 := Int.tmod_lt_of_pos q (show (0 : Int) < (m : Int) + 1 by omega)
      have h2 : -((m : Int) + 1) < Int.tmod q ((m : Int) + 1) := by
        have := Int.tmod_lt_of_pos (-q) (show (0 : Int) < (m : Int) + 1 by omega)
        rw [Int.neg_tmod] at this
        omega
      by_cases h : 0 ≤ Int.tmod q ((m : Int) + 1)
      · exact ⟨(Int.tmod q ((m : Int) + 1)).toNat, by omega, .inl (by omega)⟩
      · exact ⟨(Int.tmod q ((m : Int) + 1) + ((m : Int) + 1)).toNat, by omega, .inr (by omega)⟩
    have HPR : Hid (∀ (z : World) (g : Nat) (y : WtD) (u : Option Addr) (c : Nat) (vo : Option Addr) (t vc : Nat) (vv : Nat → Int) (L : List (Int × Int)), L = prL sg x (fitF f n) R C vv t → Mdl z g x y → RdA z u 1 C c (fun i => .int .i8 (fitF f n i)) → RdA z vo 1 t vc (fun i => .int .i64 (vv i)) → (∀ i, i < t → 0 ≤ vv i) → Calls Try.prog 11 #[.pointer (some ⟨g, 0, none⟩), .slice u C c, .slice vo t vc] z fun e w' => ∃ lu lc, e = .returned (.tuple #[.slice lu L.length lc, .int .i64 0]) ∧ RdA w' lu 2 L.length lc (rwF L) ∧ Below z.heap.size z w') := by
      intro z g y u c vo t vc vv L hL hmd hrd hw hpos
      refine (propose_ok topC hmd (hmd.b hm hp) hV hW hR2 hp.m hmb hrd (fun i _ => fitF_bd HG.out i) hw hpos).mono ?_
      rintro e w' ⟨lu, lc, rfl, ho, f1⟩
      rw [← hL] at ho ⊢
      exact ⟨lu, lc, rfl, md_rda ho, f1⟩
    have HMN : Hid ((x.mn : Int) = x.M) := hp.mn
    obtain ⟨LA, HLA⟩ : ∃ LA, Hid (LA = prL sg x (fitF f n) R C (rgF v) m) := ⟨_, rfl⟩
    obtain ⟨LS, HLS⟩ : ∃ LS, Hid (LS = prL sg x (fitF f n) R C (rgF v) k) := ⟨_, rfl⟩
    have HPX : Hid (LS <+: LA) := by rw [HLA.out, HLS.out]; exact prL_pre _ _ _ _ _ hkm
    have HLC : Hid (LS = prL sg x (fitF f n) R C (cuF (rgF v) k) (k + 1 + m)) := by rw [HLS.out]; exact (prL_cut _ _ _ _ _ _ _).symm
    have HLB : Hid (LA = prL sg x (fitF f n) R C (rgF v) (min m x.mn)) := by rw [HLA.out]; exact (prL_min _ _ _ _ _ _).symm
    have hsa : LS.length ≤ LA.length := HPX.out.length_le
    have hla : LA.length ≤ 96 := by rw [HLA.out]; exact grL_len _ _
    obtain ⟨a, HA⟩ : ∃ a, Hid (a = LA.length) := ⟨_, rfl⟩
    obtain ⟨s, HS⟩ : ∃ s, Hid (s = LS.length) := ⟨_, rfl⟩
    rw [← HA.out] at hsa hla
    rw [← HS.out] at hsa
    clear hV hW hm hp
    go_enter Try.func6, Try.ntmps6
    go_upto_region 1 with fail
    have HR1 := hidd (HR.out)
    generalize hwa : w.alloc (.cells #[.int .i64 x.V, .int .i64 x.W, .int .i64 x.H, .int .i64 x.K, .int .i64 x.L, .int .i64 x.D, .int .i64 x.N, .int .i64 x.M, .int .i64 x.E.R, .int .i64 x.E.C, .slice x.E.O x.E.n x.E.c, .slice x.tO x.tn x.tc, .slice x.yO x.yn x.yc, .slice x.F.O x.F.n x.F.c, .int .i64 x.Q.R, .int .i64 x.Q.C, .slice x.Q.O x.Q.n x.Q.c, .slice x.mO x.mn x.mc] 31) = wa at *
    clear hwa HR
    go_wp2_with fail
    refine (HFX.out _).mono ?_
    rintro e w0 ⟨rfl, f0⟩
    have F0 := hidd (fresh_trans f1 f0)
    have HR0 := hidd (row_fresh HR1.out f0)
    have RG : Hid (w0.rangeAt w.heap.size 0 T.toList) := by rw [HT.out]; exact row_range HR0.out rfl
    clear f1 f0 HR1
    go_wp2_with (refine wpList_load_mid rfl 31 _ rfl w.heap.size 0 rfl T.toList _ RG.out Try.underlying31 rfl SL.out ?_)
    refine (HMD.out _ F0.out).mono ?_
    rintro e w1 ⟨y, g, rfl, hmd, f2⟩
    have F1 := hidd (fresh_trans F0.out f2)
    have HM1 := hidd hmd
    have HR1 := hidd (row_fresh HR0.out f2)
    replace RG : Hid (w1.rangeAt w.heap.size 0 T.toList) := by rw [HT.out]; exact row_range HR1.out rfl
    clear hmd f2 HMD HR0 F0
    go_wp2_with (refine wpList_load_mid rfl 31 _ rfl w.heap.size 0 rfl T.toList _ RG.out Try.underlying31 rfl SL.out ?_)
    refine (HFT.out _ F1.out).mono ?_
    rintro e w2 ⟨hu, hcc, rfl, ho2, f3⟩
    have F2 := hidd (fresh_trans F1.out f3)
    have HM2 := hidd (HM1.out.fresh f3)
    have HO2 := hidd (md_rda ho2)
    have HB2 := hidd (row_fresh HR1.out f3)
    clear ho2 f3 F1 HM1 HR1 HFT RG SL HFX HT HX HH HG
    go_wp2_with fail
    refine (HRT.out _ F2.out).mono ?_
    rintro e w3 ⟨ru, rc, rfl, hro, f4⟩
    have F3 := hidd (fresh_trans F2.out f4)
    have HM3 := hidd (HM2.out.fresh f4)
    have HO3 := hidd (HO2.out.fresh f4)
    have HB3 := hidd (row_fresh HB2.out f4)
    have HRD := hidd (md_rda hro)
    have HR0 : Hid (0 < m → ∃ g, ru = some ⟨g, 0, none⟩) := fun h => own_off0 hro h
    have hrl := HRD.out.le
    have hrt := HRD.out.top
    unfold maxLen at hrt
    clear hro f4 HRT F2 HM2 HO2 HB2
    have e1 : IntKind.i64.wrap ((m : Int) + 1) = (m : Int) + 1 := wrap_small _ (by omega) (by omega)
    have e2 : ¬ ((m : Int) + 1 = 0) := by omega
    go_upto_if 53 with fail
    go_cut [15, 54, 55, 56, 57, 58] (fun v _ _ _ _ _ wx => wx = w3 ∧ v = .int .i64 (k : Int))
    case first =>
      rcases hkq with e | e
      · rw [← e]
        have d1 : decide ((k : Int) < 0) = false := decide_eq_false (by omega)
        clear e
        go_wp2_with fail
        go_meet
        case rel => exact ⟨rfl, rfl⟩
      · rw [← e]
        have d1 : decide ((k : Int) - ((m : Int) + 1) < 0) = true := decide_eq_true (by omega)
        have d2 : IntKind.i64.wrap ((k : Int) - ((m : Int) + 1) + (m : Int)) = (k : Int) - 1 := by rw [IntKind.wrap_i64]; omega
        have d3 : IntKind.i64.wrap ((k : Int) - 1 + 1) = (k : Int) := by rw [IntKind.wrap_i64]; omega
        clear e
        go_wp2_with fail
        go_meet
        case rel => exact ⟨rfl, by first | rfl | simp⟩
    case rest =>
      obtain ⟨hw, hs⟩ := hcut
      subst hs
      rw [hw]
      clear hw hkq
      have HP1 := hidd (HPR.out w3 g y hu hcc ru m rc (rgF v) LA HLA.out HM3.out HO3.out HRD.out (fun i _ => rgF_pos v i))
      rw [← HA.out] at HP1
      go_wp2_with fail
      refine HP1.out.mono ?_
      rintro e w4 ⟨au, ac, rfl, hal, f5⟩
      have F4 := hidd (fresh_trans F3.out f5)
      have HM4 := hidd (HM3.out.fresh f5)
      have HO4 := hidd (HO3.out.fresh f5)
      have HB4 := hidd (row_fresh HB3.out f5)
      have HRD4 := hidd (HRD.out.fresh f5)
      have HAL := hidd hal
      have hacl := hal.le
      have hact := hal.top
      unfold maxLen at hact
      clear hal f5 HP1 F3 HM3 HO3 HB3 HRD
      have HP2 := hidd (HPR.out w4 g y hu hcc ru k rc (rgF v) LS HLS.out HM4.out HO4.out (HRD4.out.firsts hkm) (fun i _ => rgF_pos v i))
      rw [← HS.out] at HP2
      have i1 : (k : Int) ≤ (rc : Int) := by omega
      have i0 : (0 : Int) ≤ (k : Int) := by omega
      go_wp2_with fail
      refine HP2.out.mono ?_
      rintro e w5 ⟨su, sc, rfl, hsl, f6⟩
      have F5 := hidd (fresh_trans F4.out f6)
      have HM5 := hidd (HM4.out.fresh f6)
      have HO5 := hidd (HO4.out.fresh f6)
      have HB5 := hidd (row_fresh HB4.out f6)
      have HRD5 := hidd (HRD4.out.fresh f6)
      have HAL5 := hidd (HAL.out.fresh f6)
      have HSL := hidd hsl
      have hscl := hsl.le
      have hsct := hsl.top
      unfold maxLen at hsct
      have HEQ : Hid (∀ z, Below w5.heap.size w5 z → Calls Try.prog 15 #[.slice su s sc, .slice au s ac] z fun e w' => e = .returned (.bool true) ∧ Below z.heap.size z w') := fun z hz => eqRaw_same (R := LS) HS.out (HSL.out.fresh hz) (((HAL5.out.firsts hsa).congr (fun j hj => (rwF_pre HPX.out (by rw [← HS.out]; exact hj)).symm)).fresh hz)
      clear hsl f6 HP2 F4 HM4 HO4 HB4 HRD4 HAL
      have j1 : ¬ ((a : Int) < (s : Int)) := by omega
      have j2 : decide ((a : Int) < (s : Int)) = false := decide_eq_false j1
      have j3 : (s : Int) ≤ (ac : Int) := by omega
      have j4 : (0 : Int) ≤ (s : Int) := by omega
      go_wp2_with fail
      refine (HEQ.out _ (Below.refl _ _)).mono ?_
      rintro e w6 ⟨rfl, f7⟩
      have F6 := hidd (fresh_trans F5.out f7)
      have HM6 := hidd (HM5.out.fresh f7)
      have HO6 := hidd (HO5.out.fresh f7)
      have HB6 := hidd (row_fresh HB5.out f7)
      have HRD6 := hidd (HRD5.out.fresh f7)
      have HAL6 := hidd (HAL5.out.fresh f7)
      have HSL6 := hidd (HSL.out.fresh f7)
      clear f7 HEQ F5 HM5 HO5 HB5 HRD5 HAL5 HSL
      have HCP := hidd (copyI_any (by omega) (HRD6.out.firsts hkm))
      go_wp2_with fail
      refine HCP.out.mono ?_
      rintro e w7 ⟨cu, cc, rfl, hco, f8⟩
      have HCO : Hid (Own w7 w6.heap.size 3 1 (.slice cu k cc) k (fun i => .int .i64 (cuF (rgF v) k i))) := hco.congr (fun j hj => by rw [cuF_lt (by omega)])
      have HF7 := hidd f8
      have h67 := f8.size
      have HN : Hid (∀ (w0 : World) (t : TypeId), (w0.alloc (.cells #[.int .i64 0] t)).cell? ⟨w0.heap.size, 0, none⟩ = some (.int .i64 (cuF (rgF v) k k))) := fun w0 t => by rw [new_cell, cuF_at]
      clear hco f8 HCP
      go_wp2_with (at_builtin; refine wpList_app1 _ rfl _ _ 37 rfl w6.heap.size 3 (.int .i64 0) 8 Try.underlying37 infoIn rfl _ k (fun i => .int .i64 (cuF (rgF v) k i)) rfl (HCO.out.kept (fresh_alloc _ _)) _ 1 rfl (HN.out _ _) rfl (by omega) (by omega) (by simp; omega) ?_)
      intro v' w8 hown' happ
      have HF8 := hidd (happ.below (HF7.out.alloc h67 _) (HCO.out.kept (fresh_alloc _ _)) (Nat.le_refl _) (by simp; omega))
      obtain ⟨eu, ec, rfl, _⟩ := hown'.rd
      have HE8 := hidd hown'
      clear happ hown' HN HCO HF7 h67
      have HRD8 := hidd (HRD6.out.fresh HF8.out)
      have h68 := HF8.out.size
      have hel := (md_rda HE8.out).le
      go_upto_region 18 with fail
      go_cut [21, 101, 102, 103] (fun vv _ _ _ wx => ∃ tu tc, vv = .slice tu (k + 1 + m) tc ∧ Hid (Own wx w6.heap.size 3 1 (.slice tu (k + 1 + m) tc) (k + 1 + m) (fun i => .int .i64 (cuF (rgF v) k i))) ∧ Hid (Below w6.heap.size w6 wx))
      case first =>
        by_cases hm0 : m = 0
        · obtain ⟨i9, hi9, _⟩ := info_parts infoIn
          have HI9 := hidd hi9
          clear hi9
          subst hm0
          go_wp2_with (at_builtin; refine wpList_app0 _ rfl _ _ 37 3 rfl Try.underlying37 HI9.out eu ru (k + 1) ec rc rfl rfl hel ?_)
          go_meet
          case rel => exact ⟨eu, ec, rfl, HE8, HF8⟩
        · obtain ⟨gb, eg⟩ := HR0.out (by omega)
          have HEG := hidd eg
          obtain ⟨b', o', e', hcl⟩ := HRD8.out.one (by omega)
          rw [eg] at e'
          cases e'
          have HX : Hid (∀ j, j < m * 1 → w8.cell? ⟨gb, j, none⟩ = some (.int .i64 (cuF (rgF v) k ((k + 1) * 1 + j)))) := fun j hj => by
            have := hcl j (by omega)
            rw [Nat.zero_add] at this
            rw [this, Nat.mul_one, cuF_gt]
          rw [eg]
          clear eg hcl
          go_wp2_with (at_builtin; refine wpList_app _ rfl _ _ 37 rfl w6.heap.size 3 (.int .i64 0) 1 8 Try.underlying37 infoIn rfl (by decide) _ (k + 1) (fun i => .int .i64 (cuF (rgF v) k i)) rfl HE8.out gb m rc rfl HX.out (fun _ _ => rfl) (by omega) (by unfold maxLen; omega) (by omega) h68 ?_)
          intro v' w9 hown' happ
          have HF9 := hidd (happ.below HF8.out HE8.out (Nat.le_refl _) h68)
          obtain ⟨tu, tc, rfl, _⟩ := hown'.rd
          have HE9 := hidd hown'
          clear happ hown' HX
          go_wp2_with fail
          rw [← HEG.out]
          go_meet
          case rel => exact ⟨tu, tc, rfl, HE9, HF9⟩
      case rest =>
        obtain ⟨tu, tc, hs, HE9, HF9⟩ := hcut
        subst hs
        have F9 := hidd (fresh_trans F6.out HF9.out)
        have HM9 := hidd (HM6.out.fresh HF9.out)
        have HO9 := hidd (HO6.out.fresh HF9.out)
        have HB9 := hidd (row_fresh HB6.out HF9.out)
        have HRD9 := hidd (HRD6.out.fresh HF9.out)
        have HAL9 := hidd (HAL6.out.fresh HF9.out)
        have HSL9 := hidd (HSL6.out.fresh HF9.out)
        have HP3 := hidd (HPR.out wc g y hu hcc tu (k + 1 + m) tc (cuF (rgF v) k) LS HLC.out HM9.out HO9.out (md_rda HE9.out) (fun i _ => cuF_pos (rgF_pos v) k i))
        rw [← HS.out] at HP3
        clear HF9 F6 HM6 HO6 HB6 HRD6 HAL6 HSL6 HE8 HF8 HRD8 h68 hel HE9
        go_wp2_with fail
        refine HP3.out.mono ?_
        rintro e w10 ⟨du, dc, rfl, hdl, f10⟩
        have F10 := hidd (fresh_trans F9.out f10)
        have HM10 := hidd (HM9.out.fresh f10)
        have HO10 := hidd (HO9.out.fresh f10)
        have HB10 := hidd (row_fresh HB9.out f10)
        have HRD10 := hidd (HRD9.out.fresh f10)
        have HAL10 := hidd (HAL9.out.fresh f10)
        have HEQ := hidd (eqRaw_same (R := LS) HS.out hdl (HSL9.out.fresh f10))
        have hdl1 := hdl.le
        have hdl2 := hdl.top
        unfold maxLen at hdl2
        clear hdl f10 HP3 F9 HM9 HO9 HB9 HRD9 HAL9 HSL9
        go_wp2_with fail
        refine HEQ.out.mono ?_
        rintro e w11 ⟨rfl, f11⟩
        have F11 := hidd (fresh_trans F10.out f11)
        have HM11 := hidd (HM10.out.fresh f11)
        have HO11 := hidd (HO10.out.fresh f11)
        have HB11 := hidd (row_fresh HB10.out f11)
        have HRD11 := hidd (HRD10.out.fresh f11)
        have HAL11 := hidd (HAL10.out.fresh f11)
        clear f11 HEQ F10 HM10 HO10 HB10 HRD10 HAL10
        have c7 : w11.cell? ⟨w.heap.size, 7, none⟩ = some (.int .i64 (x.mn : Int)) := by rw [HMN.out]; exact HB11.out.cell (i := 7) (by decide)
        obtain ⟨nb, HNB⟩ : ∃ nb, Hid (nb = min m x.mn) := ⟨_, rfl⟩
        go_upto_if 120 with fail
        go_cut [24, 121, 122, 123, 124, 125] (fun vv _ _ _ _ _ wx => wx = w11 ∧ vv = .slice ru nb rc)
        case first =>
          by_cases hmm : x.mn < m
          · have d1 : decide ((x.mn : Int) < (m : Int)) = true := decide_eq_true (by omega)
            have HE : Hid (x.mn = nb) := by show _ = _; have := HNB.out; omega
            have d2 : (x.mn : Int) ≤ (rc : Int) := by omega
            have d3 : (0 : Int) ≤ (x.mn : Int) := by omega
            go_wp2_with fail
            go_meet
            case rel => exact ⟨rfl, by rw [← HE.out]⟩
          · have d1 : decide ((x.mn : Int) < (m : Int)) = false := decide_eq_false (by omega)
            have HE : Hid (m = nb) := by show _ = _; have := HNB.out; omega
            go_wp2_with fail
            go_meet
            case rel => exact ⟨rfl, by rw [← HE.out]⟩
        case rest =>
          obtain ⟨hw, hs⟩ := hcut
          subst hs
          rw [hw]
          clear hw c7
          have hnb : nb ≤ m := by have := HNB.out; omega
          have HP4 := hidd (HPR.out w11 g y hu hcc ru nb rc (rgF v) LA (by rw [HNB.out]; exact HLB.out) HM11.out HO11.out (HRD11.out.firsts hnb) (fun i _ => rgF_pos v i))
          rw [← HA.out] at HP4
          go_wp2_with fail
          refine HP4.out.mono ?_
          rintro e w12 ⟨mu, mc, rfl, hml, f12⟩
          have F12 := hidd (fresh_trans F11.out f12)
          have HEQ := hidd (eqRaw_same (R := LA) HA.out hml (HAL11.out.fresh f12))
          have hml1 := hml.le
          have hml2 := hml.top
          unfold maxLen at hml2
          clear hml f12 HP4 F11 HM11 HO11 HB11 HRD11 HAL11 HPR
          go_wp2_with fail
          refine HEQ.out.mono ?_
          rintro e w13 ⟨rfl, f13⟩
          have F13 := hidd (fresh_trans F12.out f13)
          clear f13 HEQ F12
          go_wp2
          go_ret
          exact ⟨rfl, F13.out⟩
  · have hie : ∃ er, IsE x er ∧ er ≠ 0 := by
      by_cases hm : x.may
      · exact ⟨41, .inr (.inl ⟨hm, fun hp => hfit ⟨hm, hp⟩, rfl⟩), by decide⟩
      · exact ⟨40, .inl ⟨hm, rfl⟩, by decide⟩
    obtain ⟨er, he, h0⟩ := hie
    have HMD : Hid (∀ z, Below w.heap.size w z → Calls Try.prog 9 #[.agg T] z fun e w' => e = .returned (.tuple #[.pointer none, .bool false, .bool true]) ∧ Below z.heap.size z w') := fun z hz => by rw [HT.out]; exact made_bad (HX.out.fresh hz) he h0
    clear he h0 hfit
    go_enter Try.func6, Try.ntmps6
    go_upto_region 1 with fail
    have HR1 := hidd (HR.out)
    generalize hwa : w.alloc (.cells #[.int .i64 x.V, .int .i64 x.W, .int .i64 x.H, .int .i64 x.K, .int .i64 x.L, .int .i64 x.D, .int .i64 x.N, .int .i64 x.M, .int .i64 x.E.R, .int .i64 x.E.C, .slice x.E.O x.E.n x.E.c, .slice x.tO x.tn x.tc, .slice x.yO x.yn x.yc, .slice x.F.O x.F.n x.F.c, .int .i64 x.Q.R, .int .i64 x.Q.C, .slice x.Q.O x.Q.n x.Q.c, .slice x.mO x.mn x.mc] 31) = wa at *
    clear hwa HR
    go_wp2_with fail
    refine (HFX.out _).mono ?_
    rintro e w0 ⟨rfl, f0⟩
    have F0 := hidd (fresh_trans f1 f0)
    have HR0 := hidd (row_fresh HR1.out f0)
    have RG : Hid (w0.rangeAt w.heap.size 0 T.toList) := by rw [HT.out]; exact row_range HR0.out rfl
    clear f1 f0 HR1
    go_wp2_with (refine wpList_load_mid rfl 31 _ rfl w.heap.size 0 rfl T.toList _ RG.out Try.underlying31 rfl SL.out ?_)
    refine (HMD.out _ F0.out).mono ?_
    rintro e w1 ⟨rfl, f2⟩
    have F1 := hidd (fresh_trans F0.out f2)
    clear f2 HMD RG SL F0
    go_wp2
    go_ret
    exact ⟨rfl, F1.out⟩
end Go.Proofs.Ytjjnfpeeipainaa
