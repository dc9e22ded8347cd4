import Derived.Test.YtaalinlggjimcaaKV
namespace Go.Proofs.Ytaalinlggjimcaa
open Go.RowKit
/-! A round of PrefixLists in a world without a pool: kind 5. -/
theorem nilR5 (w : World) : RdA w none 1 0 0 (fun _ => .int .i64 0) := ⟨Nat.le_refl _, Nat.zero_le _, fun h => absurd h (by omega)⟩
set_option maxRecDepth 100000 in
set_option maxHeartbeats 16000000 in
theorem round_nil5 {w wq : World} {b off n cap wd : Nat} {v : Value} {m : Nat} {l : Nat → Nat} {i : Nat} {E : Nat → Value} {K : Nat → Int} {wh nn : Int} {tO : Option Addr} {T tc : Nat} {t : Nat → Int} {bO : Option Addr} {M bc : Nat} {g : Nat → Int}
    (a : Act) (ha : LF (some ⟨b, off, none⟩) n cap wd v i a) (d0 : wq.cell? ⟨b, off + i * 5, none⟩ = some (.int .i64 5)) (d1 : wq.cell? ⟨b, off + i * 5 + 1, none⟩ = some (.int .i64 wh)) (d2 : wq.cell? ⟨b, off + i * 5 + 2, none⟩ = some (.slice tO T tc)) (d3 : wq.cell? ⟨b, off + i * 5 + 3, none⟩ = some (.slice bO M bc)) (d4 : wq.cell? ⟨b, off + i * 5 + 4, none⟩ = some (.int .i64 nn))
    (hi : i < n) (hn : n ≤ 2147483647) (OT : RdA wq tO 1 T tc (fun j => .int .i64 (t j))) (hTl : T ≤ 2147483647) (OB : RdA wq bO 1 M bc (fun j => .int .i64 (g j))) (hMl : M ≤ 2147483647) (hOw : 0 < T → ∀ b o, tO = some ⟨b, o, none⟩ → b < w.heap.size)
    (hN : wq.rowIs wd 63 7 nilW) (mk : Mk wq (fun _ => 0) v m E l K) (hv : ∀ z, v.ownBlock = some z → w.heap.size ≤ z) (hf : Below w.heap.size w wq) (hm : m ≤ i)
    (Q : Exit → Act → World → Prop) (R : Act → World → Prop) (hR : ∀ a' w' v' m' l', LF (some ⟨b, off, none⟩) n cap wd v' (i + 1) a' → m' ≤ i + 1 → (∀ z, v'.ownBlock = some z → w.heap.size ≤ z) → WoM (fun _ => True) w w' wd (5 * (i + 1)) v' m' l' → R a' w') :
    roundC.wp Try.prog (Exit.then R Q) a wq := by
  have nilR := nilR5
  dsimp only [roundC, Try.f7, Option.getD, rgt, lft, inb, inl]
  obtain ⟨va, vk, ev, hvr⟩ := mk.own.rd
  subst ev
  clear hvr
  obtain ⟨u, e2, e7, e10, e11, rfl⟩ := ha
  rw [e2, e7, e10, e11]
  clear e2 e7 e10 e11
  have k4 : ((5 : Int) != 4) = true := rfl
  have k5 : ((5 : Int) != 5) = false := rfl
  have i0 : (0 : Int) ≤ (i : Int) := by omega
  have i1 : (i : Int) < (n : Int) := by omega
  obtain ⟨wb, hwb⟩ : ∃ wb, wb = wq.alloc (.cells #[.int .i64 5, .int .i64 wh, .slice tO T tc, .slice bO M bc, .int .i64 nn] 56) := ⟨_, rfl⟩
  have fb : Below wq.heap.size wq wb := by rw [hwb]; exact fresh_alloc _ _
  have hbs : wb.heap.size = wq.heap.size + 1 := by rw [hwb]; simp
  have HBX : Hid (Bx wb wq.heap.size 5 wh nn (.slice tO T tc) (.slice bO M bc)) := by show Bx _ _ _ _ _ _ _; rw [hwb]; exact Bx.new _ _ _ _ _ _
  have HOT := hidd (OT.fresh fb)
  have HOB := hidd (OB.fresh fb)
  have HMK := hidd (mk.fresh fb)
  have HNW := hidd (nil_row hN fb)
  have mlt : ∀ z, (Value.slice va m vk).ownBlock = some z → z < wq.heap.size := fun z hz => (mk.own.lt z hz).2
  have mwd : (Value.slice va m vk).ownBlock ≠ some wd := mk.own.apart hN (by decide)
  obtain ⟨_, ck, _, dk, _⟩ := nil_cells HNW.out
  have cc : wb.cell? ⟨wd, 1, none⟩ = some (.pointer none) := ck 0 (by decide)
  have cd : wb.cell? ⟨wd, 4, none⟩ = some (.pointer none) := dk 0 (by decide)
  obtain ⟨_, _, x2, x3, _⟩ := HBX.out.parts
  have hfb := hf.trans (fb.mono hf.size)
  have hwz := hf.size
  have HWB := hidd hwb
  have hwdl := hN.lt
  clear ck dk OT OB mk hN hwb
  go_upto_region 12 with (fail)
  rw [← HWB.out]
  clear HWB d0 d1 d2 d3 d4
  go_wp2_with (fail)
  refine (copyI_own HOT.out (by omega)).mono ?_
  rintro e w1 ⟨u1, k1, rfl, o1, f1⟩
  have sz1 := f1.size
  have y3 := fresh_cell f1 x3
  clear x2 x3 cc cd
  go_wp2_with (fail)
  refine (copyI_own (HOB.out.fresh f1) (by omega)).mono ?_
  rintro e w2 ⟨u2, k2, rfl, o2, f2⟩
  have sz2 := f2.size
  have P1 := hidd (o1.kept f2)
  have q1 := o1.lt
  have q2 := o2.lt
  have B2 := fresh_trans f1 f2
  clear y3 o1
  go_wp2_with (fail)
  refine (keep_nil _ _ _ _ _ _ _).mono ?_
  rintro e w3 ⟨rfl, h3⟩
  rw [h3]
  clear h3 w3
  obtain ⟨_, _, x2, x3, _⟩ := (HBX.out.fresh B2).parts
  go_wp2_with (fail)
  refine (rkeep_nil _ _ _ _ _ _ _).mono ?_
  rintro e w3 ⟨rfl, h3⟩
  rw [h3]
  clear h3 w3 x2 x3
  have HV5 := hidd (over_any (P1.out.weaken (Nat.zero_le _)) hTl (mark := -1) (by omega) (by omega))
  go_wp2_with (fail)
  refine HV5.out.mono ?_
  rintro e w5 ⟨rfl, _, c5⟩
  have B5 := c5.below B2 (by omega) (fun z e => (q1 z e).1)
  have O5 := hidd (o2.chg c5 (fun z hz e => by have := (q1 z e).2; have := (q2 z hz).1; omega))
  have HV6 := hidd (over_any (O5.out.weaken (Nat.zero_le _)) hMl (mark := -2) (by omega) (by omega))
  have sz5 := c5.size
  clear HV5 P1 o2 c5
  go_wp2_with (fail)
  refine HV6.out.mono ?_
  rintro e w6 ⟨rfl, _, c6⟩
  have B6 := c6.below B5 (by omega) (fun z e => by have := (q2 z e).1; omega)
  obtain ⟨_, _, x2, _, _⟩ := (HBX.out.fresh B6).parts
  have sz6 := c6.size
  clear HV6 O5 c6 B5 B2
  go_wp2_with (fail)
  refine (copyI_own (HOT.out.fresh B6) (by omega)).mono ?_
  rintro e w7 ⟨u7, k7, rfl, o7, f7⟩
  have B7 := B6.trans (f7.mono B6.size)
  have O7 := hidd o7
  have q7lt : ∀ z, (Value.slice u7 T k7).ownBlock = some z → z < w7.heap.size := fun z hz => (O7.out.lt z hz).2
  have q7b : ∀ z, (Value.slice u7 T k7).ownBlock = some z → wb.heap.size ≤ z := fun z hz => by have := (O7.out.lt z hz).1; omega
  clear x2 o7 B6
  go_wp2_with (fail)
  refine (find_nil _ _ _ _).mono ?_
  rintro e w3 ⟨rfl, h3⟩
  rw [h3]
  clear h3 w3
  go_wp2_with (fail)
  refine (find_nil _ _ _ _).mono ?_
  rintro e w3 ⟨rfl, h3⟩
  rw [h3]
  clear h3 w3
  obtain ⟨_, _, x2, _, _⟩ := (HBX.out.fresh B7).parts
  go_wp2_with (fail)
  refine (rfind_nil _ _ _ _).mono ?_
  rintro e w3 ⟨rfl, h3⟩
  rw [h3]
  clear h3 w3
  go_wp2_with (fail)
  refine (rfind_nil _ _ _ _).mono ?_
  rintro e w3 ⟨rfl, h3⟩
  rw [h3]
  clear h3 w3 x2
  have HE := hidd (eq_rows (nilR w7) (nilR w7))
  go_wp2_with (fail)
  refine HE.out.mono ?_
  rintro e w12 ⟨rfl, f12⟩
  have HV := hidd (over_any (own_nil w12 0 3 1 (fun _ => .int .i64 0)) (by omega) (mark := -3 - (i : Int)) (by omega) (by omega))
  clear HE
  go_wp2_with (fail)
  refine HV.out.mono ?_
  rintro e w13 ⟨rfl, rd13, c13⟩
  have f13 : Below w12.heap.size w12 w13 := c13.below (Below.refl _ _) (Nat.le_refl _) (fun z e => by simp [Value.ownBlock] at e)
  have F13 := fresh_trans f12 f13
  have B13 := B7.trans (F13.mono B7.size)
  have MK13 := hidd (HMK.out.fresh B13)
  have RD13 := hidd rd13
  have O13 := hidd (O7.out.kept F13)
  have sz13 := F13.size
  have sz7 := B7.size
  have OWN13 : Hid (Own (w13.alloc (.cells #[.slice none 0 0] 22)) 0 22 1 (.slice va m vk) m (fun j => if j = m then .slice none 0 0 else E j)) := (MK13.out.own.kept (fresh_alloc _ _)).congr (fun j hj => by rw [if_neg (by omega)])
  clear HV rd13 c13 f12 f13 O7
  go_wp2_with (at_builtin; refine wpList_app1 _ rfl _ _ 44 rfl 0 22 (.slice none 0 0) 24 Try.underlying44 infoM rfl _ m (fun j => if j = m then .slice none 0 0 else E j) rfl OWN13.out _ 1 rfl (by simp) (by simp [Value.oneCell']) (by omega) (by omega) (by simp) ?_)
  intro v' w14 hown' happ
  have fA := fresh_alloc w13 (.cells #[.slice none 0 0] 22)
  have MK14 := hidd (MK13.out.push fA happ RD13.out (fun z hz => by simp [Value.ownBlock] at hz) (fun z _ e => by simp [Value.ownBlock] at e) (fun z e => absurd rfl e) hown')
  have C14 : Chg w13 w14 (fun z => (Value.slice va m vk).ownBlock = some z) := (Chg.of_below _ fA).trans (Chg.of_app happ) (fun _ _ e => e)
  have hv14 : ∀ z, v'.ownBlock = some z → w.heap.size ≤ z ∧ (z < wq.heap.size ∨ w13.heap.size ≤ z) := fun z hz => by
    rcases happ.blk z hz with e | e
    · exact ⟨hv z e, .inl (mlt z e)⟩
    · simp at e
      exact ⟨by omega, .inr (by omega)⟩
  obtain ⟨va9, vk9, ev9, hrd9⟩ := hown'.rd
  subst ev9
  have vle := hrd9.le
  have vtop := hrd9.top
  unfold maxLen at vtop
  have O14 := hidd (O13.out.chg C14 (fun z hz e => by have := mlt z e; have := q7b z hz; omega))
  have BX14 := (HBX.out.fresh B13).chg C14 (fun e => by have := mlt _ e; omega)
  obtain ⟨_, _, x214, _, _⟩ := BX14.parts
  have OT14 : Hid (RdA w14 tO 1 T tc (fun j => .int .i64 (t j))) := (HOT.out.fresh B13).chg0 C14 (fun h0 b o e q => by have := hOw h0 b o e; have := hv _ q; omega)
  have NW14 : Hid (w14.rowIs wd 63 7 nilW) := C14.row (nil_row HNW.out B13) (fun e => mwd e)
  have BL14 := C14.below (hfb.trans (B13.mono (by omega))) (by omega) hv
  have sz14 := C14.size
  have mel : ∀ k, k < m → ∀ z, (E k).ownBlock = some z → z < wb.heap.size := fun k hk z hz => (HMK.out.le k hk z hz).2
  have HE15 := hidd (eq_rows (nilR w14) (nilR w14))
  clear hown' happ fA C14 MK13 RD13 OWN13 hrd9 HBX hfb F13 O13 HOT HOB HNW BX14 B13 B7
  go_wp2_with (fail)
  refine HE15.out.mono ?_
  rintro e w15 ⟨rfl, f15⟩
  have HV9 := hidd (over_any (own_nil w15 0 3 1 (fun _ => .int .i64 0)) (by omega) (mark := -3 - (i : Int)) (by omega) (by omega))
  clear HE15
  go_wp2_with (fail)
  refine HV9.out.mono ?_
  rintro e w16 ⟨rfl, _, c16⟩
  have f16 : Below w15.heap.size w15 w16 := c16.below (Below.refl _ _) (Nat.le_refl _) (fun z e => by simp [Value.ownBlock] at e)
  have F16 := fresh_trans f15 f16
  have CH16 : Chg w14 w16 (fun z => (Value.slice u7 T k7).ownBlock = some z) := Chg.of_below _ F16
  have O16 := hidd (O14.out.kept F16)
  have sz16 := CH16.size
  clear HV9 c16 f15 f16 O14 F16
  by_cases hT0 : T = 0
  · have hd0 : decide (0 < T) = false := decide_eq_false (by omega)
    have CHL := CH16
    have szL := sz16
    clear hT0
    obtain ⟨E9, l9, K9, MKL⟩ : ∃ E9 l9 K9, Hid (Mk w16 (fun _ => 0) (.slice va9 (m + 1) vk9) (m + 1) E9 l9 K9) := ⟨_, _, _, MK14.out.chg CHL (fun z hz e => by
        have := (hv14 z hz).2; have := q7lt z e; have := q7b z e; omega) (fun k hk z hz e => by
        by_cases ek : k = m
        · rw [if_pos ek] at hz
          simp [Value.ownBlock] at hz
        · have hz9 : (E k).ownBlock = some z := by rw [if_neg ek] at hz; exact hz
          have h1 := mel k (by omega) z hz9
          have := q7b z e
          omega)⟩
    have x2L : w16.cell? ⟨wq.heap.size, 2, none⟩ = some (.slice tO T tc) := CHL.cell x214 (fun e => by have := q7b _ e; omega)
    have OTL : Hid (RdA w16 tO 1 T tc (fun j => .int .i64 (t j))) := OT14.out.chg0 CHL (fun h0 b o e q => by have := hOw h0 b o e; have := q7b b q; omega)
    have Nw16 : Hid (w16.rowIs wd 63 7 nilW) := CHL.row NW14.out (fun e => by have := q7b _ e; have := NW14.out.lt; omega)
    have BLL := CHL.below BL14 (by omega) (fun z e => by have := q7b z e; omega)
    clear CHL MK14 OT14 NW14 BL14 x214 HMK
    go_wp2_with (fail)
    go_loopw [25] (fun vk wr => ∃ k : Nat, k ≤ m + 1 ∧ vk = .int .i64 (k : Int) ∧ Below w16.heap.size w16 wr) (fun vk _ => m + 1 - (intOf vk).toNat)
    case atStart => exact ⟨0, Nat.zero_le _, by simp, Below.refl _ _⟩
    case round =>
      obtain ⟨k, hk, rfl, hfk⟩ := hrel
      by_cases hlt : k < m + 1
      · obtain ⟨gv, cv, ev, _⟩ := MKL.out.cell hlt
        have HCE : Hid (∀ w', Below w16.heap.size w16 w' → w'.cell? ⟨gv, k, none⟩ = some (E9 k)) := fun w' f' => by
          obtain ⟨gv2, cv2, ev2, hce⟩ := (MKL.out.fresh f').cell hlt
          rw [ev] at ev2
          injection ev2 with ev3
          injection ev3 with ev3
          injection ev3 with ev3
          rw [ev3]
          exact hce
        obtain ⟨ae, ce, eE, hle, _⟩ := MKL.out.num hlt
        have HCK : Hid (0 < l9 k → ∃ b o, ae = some ⟨b, o, none⟩ ∧ ∀ w', Below w16.heap.size w16 w' → ∀ j, j < l9 k → w'.cell? ⟨b, o + j, none⟩ = some (.int .i64 (K9 k))) := fun h0 => by
          obtain ⟨ae1, ce1, eE1, _, hc1⟩ := MKL.out.num hlt
          rw [eE] at eE1
          injection eE1 with e1 _ e3
          subst e1 e3
          obtain ⟨b1, o1, e4, hc2⟩ := hc1 h0
          exact ⟨b1, o1, e4, fun w' f' j hj => fresh_cell f' (hc2 j hj)⟩
        have HEE := hidd eE
        have htopE : l9 k ≤ 9223372036854775807 := by
          obtain ⟨_, _, e1, hr1⟩ := MKL.out.rd k hlt
          have := hr1.le
          have := hr1.top
          unfold maxLen at this
          omega
        have ceb : ce ≤ 9223372036854775807 := by
          obtain ⟨_, _, e1, hr1⟩ := MKL.out.rd k hlt
          rw [eE] at e1
          injection e1 with _ _ e3
          have := hr1.top
          unfold maxLen at this
          omega
        injection ev with ev1 _ ev3
        rw [ev1]
        have cE0 := HCE.out _ hfk
        rw [HEE.out] at cE0
        obtain ⟨lk, hlk⟩ : ∃ lk, lk = l9 k := ⟨_, rfl⟩
        obtain ⟨kk, hkk⟩ : ∃ kk, kk = K9 k := ⟨_, rfl⟩
        rw [← hlk] at HCK hle htopE HEE cE0
        rw [← hkk] at HCK
        have k0 : (0 : Int) ≤ (k : Int) := by omega
        have k1 : (k : Int) < (m : Int) + 1 := by omega
        clear hlk hkk ev1 ev3 eE
        go_wp2_with (fail)
        go_loopw [26] (fun vj wr => ∃ j : Nat, j ≤ lk ∧ vj = .int .i64 (j : Int) ∧ Below w16.heap.size w16 wr) (fun vj _ => lk - (intOf vj).toNat)
        case atStart => exact ⟨0, Nat.zero_le _, by simp, hfk⟩
        case round =>
          clear cE0 hfk
          obtain ⟨j, hj, rfl, hfj⟩ := hrel
          have cE := HCE.out _ hfj
          rw [HEE.out] at cE
          by_cases hlj : j < lk
          · obtain ⟨b6, o6, ea, hc6⟩ := HCK.out (by omega)
            have cj := hc6 _ hfj j hlj
            have cz : wr.cell? ⟨b6, o6, none⟩ = some (.int .i64 kk) := by simpa using hc6 _ hfj 0 (by omega)
            rw [ea] at cE
            have j0 : (0 : Int) ≤ (j : Int) := by omega
            have j1 : (j : Int) < (lk : Int) := by omega
            have jz : (0 : Int) < (lk : Int) := by omega
            clear hc6
            go_wp2
            go_quiet (fail)
            go_wp2
            go_roundw
            case rel => exact ⟨j + 1, by omega, by go_num, below_drewN hfj _⟩
            case measure => simp [intOf]; omega
          · obtain rfl : lk = j := by omega
            go_wp2
            go_roundw
            case rel => exact ⟨k + 1, by omega, by go_num, hfj⟩
            case measure => simp [intOf]; omega
      · obtain rfl : k = m + 1 := by omega
        have x2 := fresh_cell hfk x2L
        have szk := hfk.size
        go_wp2_with (fail)
        refine (copyI_own (OTL.out.fresh hfk) (by omega)).mono ?_
        rintro e w22 ⟨u22, k22, rfl, o22, f22⟩
        have y2 := fresh_cell f22 x2
        have HN := hidd (Nw16.out)
        clear x2 o22
        go_wp2_with (fail)
        refine (find_nil _ _ _ _).mono ?_
        rintro e w23 ⟨rfl, h23⟩
        rw [h23]
        clear h23
        go_wp2_with (fail)
        refine (rfind_nil _ _ _ _).mono ?_
        rintro e w24 ⟨rfl, h24⟩
        rw [h24]
        clear h24 w23 w24
        have HE25 := hidd (eq_rows (nilR w22) (nilR w22))
        clear y2
        go_wp2_with (fail)
        refine HE25.out.mono ?_
        rintro e w25 ⟨rfl, f25⟩
        have g25 := fresh_trans (fresh_trans hfk f22) f25
        have HW : Hid (WoM (fun _ => True) w w25 wd (5 * (i + 1)) (.slice va9 (m + 1) vk9) (m + 1) l9) := ⟨BLL.trans (g25.mono BLL.size), .inl ⟨nil_row Nw16.out g25, E9, K9, MKL.out.fresh g25⟩⟩
        clear HE25
        go_wp2
        exact hR _ _ _ (m + 1) l9 (LF.of rfl rfl rfl rfl (by first | rfl | simp)) (by omega) (fun z hz => (hv14 z hz).1) HW.out
  · have hd0 : decide (0 < T) = true := decide_eq_true (by omega)
    obtain ⟨g7, e7, hc7⟩ := O16.out.at0 (by omega)
    subst e7
    have c7 := hc7 (T - 1) (by omega)
    have fz7 : w16.frozen? ⟨g7, T - 1, none⟩ = false := by
      rcases O16.out.2 with ⟨e1, _⟩ | ⟨gg, cp, cur, e1, _, hgg, _⟩
      · cases e1
      · injection e1 with e1
        injection e1 with e1
        injection e1 with e1
        subst e1
        unfold World.frozen?
        simp [hgg]
    have eT : ((T - 1 : Nat) : Int) = (T : Int) - 1 := by omega
    clear hc7
    go_wp2_with (fail)
    refine (find_nil _ _ _ _).mono ?_
    rintro e w17 ⟨rfl, h17⟩
    rw [h17]
    clear h17 w17
    obtain ⟨x, hx⟩ : ∃ x, x = wrap64 (t (T - 1) + 1) := ⟨_, rfl⟩
    rw [← hx]
    have O17 : Hid (Own (w16.setCell ⟨g7, T - 1, none⟩ (.int .i64 x)) w6.heap.size 3 1 (.slice (some ⟨g7, 0, none⟩) T k7) T (fun j => .int .i64 ((fun j => if j = T - 1 then x else t j) j))) := (O16.out.put (T - 1) (.int .i64 x)).congr (fun j hj => by
      show (if j = T - 1 then Value.int .i64 x else .int .i64 (t j)) = .int .i64 (if j = T - 1 then x else t j)
      split <;> rfl)
    have CH17 : Chg w14 (w16.setCell ⟨g7, T - 1, none⟩ (.int .i64 x)) (fun z => (Value.slice (some ⟨g7, 0, none⟩) T k7).ownBlock = some z) := CH16.trans (Chg.of_set w16 g7 (T - 1) (.int .i64 x)) (fun z _ e => by rw [e]; rfl)
    generalize w16.setCell ⟨g7, T - 1, none⟩ (.int .i64 x) = w17 at *
    generalize (fun j => if j = T - 1 then x else t j) = t3 at *
    clear hx CH16 O16 c7 fz7 eT
    go_wp2_with (fail)
    refine (copyI_own O17.out.rda (by omega)).mono ?_
    rintro e w19 ⟨u19, k19, rfl, o19, f19⟩
    go_wp2_with (fail)
    refine (rfind_nil _ _ _ _).mono ?_
    rintro e w20 ⟨rfl, h20⟩
    rw [h20]
    clear h20 w20
    have HE21 := hidd (eq_rows (nilR w19) (nilR w19))
    go_wp2_with (fail)
    refine HE21.out.mono ?_
    rintro e w21 ⟨rfl, f21⟩
    have CHL := (CH17.post f19).post f21
    have szL := CHL.size
    clear HE21 f21 f19 O17 CH17 o19
    obtain ⟨E9, l9, K9, MKL⟩ : ∃ E9 l9 K9, Hid (Mk w21 (fun _ => 0) (.slice va9 (m + 1) vk9) (m + 1) E9 l9 K9) := ⟨_, _, _, MK14.out.chg CHL (fun z hz e => by
        have := (hv14 z hz).2; have := q7lt z e; have := q7b z e; omega) (fun k hk z hz e => by
        by_cases ek : k = m
        · rw [if_pos ek] at hz
          simp [Value.ownBlock] at hz
        · have hz9 : (E k).ownBlock = some z := by rw [if_neg ek] at hz; exact hz
          have h1 := mel k (by omega) z hz9
          have := q7b z e
          omega)⟩
    have x2L : w21.cell? ⟨wq.heap.size, 2, none⟩ = some (.slice tO T tc) := CHL.cell x214 (fun e => by have := q7b _ e; omega)
    have OTL : Hid (RdA w21 tO 1 T tc (fun j => .int .i64 (t j))) := OT14.out.chg0 CHL (fun h0 b o e q => by have := hOw h0 b o e; have := q7b b q; omega)
    have Nw21 : Hid (w21.rowIs wd 63 7 nilW) := CHL.row NW14.out (fun e => by have := q7b _ e; have := NW14.out.lt; omega)
    have BLL := CHL.below BL14 (by omega) (fun z e => by have := q7b z e; omega)
    clear CHL MK14 OT14 NW14 BL14 x214 HMK
    go_wp2_with (fail)
    go_loopw [25] (fun vk wr => ∃ k : Nat, k ≤ m + 1 ∧ vk = .int .i64 (k : Int) ∧ Below w21.heap.size w21 wr) (fun vk _ => m + 1 - (intOf vk).toNat)
    case atStart => exact ⟨0, Nat.zero_le _, by simp, Below.refl _ _⟩
    case round =>
      obtain ⟨k, hk, rfl, hfk⟩ := hrel
      by_cases hlt : k < m + 1
      · obtain ⟨gv, cv, ev, _⟩ := MKL.out.cell hlt
        have HCE : Hid (∀ w', Below w21.heap.size w21 w' → w'.cell? ⟨gv, k, none⟩ = some (E9 k)) := fun w' f' => by
          obtain ⟨gv2, cv2, ev2, hce⟩ := (MKL.out.fresh f').cell hlt
          rw [ev] at ev2
          injection ev2 with ev3
          injection ev3 with ev3
          injection ev3 with ev3
          rw [ev3]
          exact hce
        obtain ⟨ae, ce, eE, hle, _⟩ := MKL.out.num hlt
        have HCK : Hid (0 < l9 k → ∃ b o, ae = some ⟨b, o, none⟩ ∧ ∀ w', Below w21.heap.size w21 w' → ∀ j, j < l9 k → w'.cell? ⟨b, o + j, none⟩ = some (.int .i64 (K9 k))) := fun h0 => by
          obtain ⟨ae1, ce1, eE1, _, hc1⟩ := MKL.out.num hlt
          rw [eE] at eE1
          injection eE1 with e1 _ e3
          subst e1 e3
          obtain ⟨b1, o1, e4, hc2⟩ := hc1 h0
          exact ⟨b1, o1, e4, fun w' f' j hj => fresh_cell f' (hc2 j hj)⟩
        have HEE := hidd eE
        have htopE : l9 k ≤ 9223372036854775807 := by
          obtain ⟨_, _, e1, hr1⟩ := MKL.out.rd k hlt
          have := hr1.le
          have := hr1.top
          unfold maxLen at this
          omega
        have ceb : ce ≤ 9223372036854775807 := by
          obtain ⟨_, _, e1, hr1⟩ := MKL.out.rd k hlt
          rw [eE] at e1
          injection e1 with _ _ e3
          have := hr1.top
          unfold maxLen at this
          omega
        injection ev with ev1 _ ev3
        rw [ev1]
        have cE0 := HCE.out _ hfk
        rw [HEE.out] at cE0
        obtain ⟨lk, hlk⟩ : ∃ lk, lk = l9 k := ⟨_, rfl⟩
        obtain ⟨kk, hkk⟩ : ∃ kk, kk = K9 k := ⟨_, rfl⟩
        rw [← hlk] at HCK hle htopE HEE cE0
        rw [← hkk] at HCK
        have k0 : (0 : Int) ≤ (k : Int) := by omega
        have k1 : (k : Int) < (m : Int) + 1 := by omega
        clear hlk hkk ev1 ev3 eE
        go_wp2_with (fail)
        go_loopw [26] (fun vj wr => ∃ j : Nat, j ≤ lk ∧ vj = .int .i64 (j : Int) ∧ Below w21.heap.size w21 wr) (fun vj _ => lk - (intOf vj).toNat)
        case atStart => exact ⟨0, Nat.zero_le _, by simp, hfk⟩
        case round =>
          clear cE0 hfk
          obtain ⟨j, hj, rfl, hfj⟩ := hrel
          have cE := HCE.out _ hfj
          rw [HEE.out] at cE
          by_cases hlj : j < lk
          · obtain ⟨b6, o6, ea, hc6⟩ := HCK.out (by omega)
            have cj := hc6 _ hfj j hlj
            have cz : wr.cell? ⟨b6, o6, none⟩ = some (.int .i64 kk) := by simpa using hc6 _ hfj 0 (by omega)
            rw [ea] at cE
            have j0 : (0 : Int) ≤ (j : Int) := by omega
            have j1 : (j : Int) < (lk : Int) := by omega
            have jz : (0 : Int) < (lk : Int) := by omega
            clear hc6
            go_wp2
            go_quiet (fail)
            go_wp2
            go_roundw
            case rel => exact ⟨j + 1, by omega, by go_num, below_drewN hfj _⟩
            case measure => simp [intOf]; omega
          · obtain rfl : lk = j := by omega
            go_wp2
            go_roundw
            case rel => exact ⟨k + 1, by omega, by go_num, hfj⟩
            case measure => simp [intOf]; omega
      · obtain rfl : k = m + 1 := by omega
        have x2 := fresh_cell hfk x2L
        have szk := hfk.size
        go_wp2_with (fail)
        refine (copyI_own (OTL.out.fresh hfk) (by omega)).mono ?_
        rintro e w22 ⟨u22, k22, rfl, o22, f22⟩
        have y2 := fresh_cell f22 x2
        have HN := hidd (Nw21.out)
        clear x2 o22
        go_wp2_with (fail)
        refine (find_nil _ _ _ _).mono ?_
        rintro e w23 ⟨rfl, h23⟩
        rw [h23]
        clear h23
        go_wp2_with (fail)
        refine (rfind_nil _ _ _ _).mono ?_
        rintro e w24 ⟨rfl, h24⟩
        rw [h24]
        clear h24 w23 w24
        have HE25 := hidd (eq_rows (nilR w22) (nilR w22))
        clear y2
        go_wp2_with (fail)
        refine HE25.out.mono ?_
        rintro e w25 ⟨rfl, f25⟩
        have g25 := fresh_trans (fresh_trans hfk f22) f25
        have HW : Hid (WoM (fun _ => True) w w25 wd (5 * (i + 1)) (.slice va9 (m + 1) vk9) (m + 1) l9) := ⟨BLL.trans (g25.mono BLL.size), .inl ⟨nil_row Nw21.out g25, E9, K9, MKL.out.fresh g25⟩⟩
        clear HE25
        go_wp2
        exact hR _ _ _ (m + 1) l9 (LF.of rfl rfl rfl rfl (by first | rfl | simp)) (by omega) (fun z hz => (hv14 z hz).1) HW.out
end Go.Proofs.Ytaalinlggjimcaa
