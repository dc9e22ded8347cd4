import Derived.Test.YtaalinlggjimcaaKV
namespace Go.Proofs.Ytaalinlggjimcaa
open Go.RowKit
/-! A round of PrefixLists in a world with a pool: kind 5. -/
set_option maxRecDepth 100000 in
set_option maxHeartbeats 16000000 in
theorem round_real5 {w wq : World} {b off n cap : Nat} {v : Value} {m : Nat} {l : Nat → Nat} {i : Nat} {X : Wx} {lab : Nat → Nat} {L : Nat → List Nd} {N : Nat → Nat} {num : Nat → Int} {y : Ry} {mine : Nat → Nat} {E : Nat → Value} {K : Nat → Int} {wh nn : Int} {tO : Option Addr} {T tc : Nat} {t : Nat → Int} {bO : Option Addr} {M bc : Nat} {g : Nat → Int}
    (a : Act) (ha : LF (some ⟨b, off, none⟩) n cap X.wd v i a) (d0 : wq.cell? ⟨b, off + i * 5, none⟩ = some (.int .i64 5)) (d1 : wq.cell? ⟨b, off + i * 5 + 1, none⟩ = some (.int .i64 wh)) (d2 : wq.cell? ⟨b, off + i * 5 + 2, none⟩ = some (.slice tO T tc)) (d3 : wq.cell? ⟨b, off + i * 5 + 3, none⟩ = some (.slice bO M bc)) (d4 : wq.cell? ⟨b, off + i * 5 + 4, none⟩ = some (.int .i64 nn))
    (hi : i < n) (hn : n ≤ 2147483647) (OT : OpAt wq lab tO T tc t) (OB : OpAt wq lab bO M bc g) (hOw : 0 < T → ∀ b o, tO = some ⟨b, o, none⟩ → b < w.heap.size)
    (st : St wq X lab L N num y mine (5 * i)) (h3 : ∀ z, lab z ≠ 0 → w.heap.size ≤ z) (mk : Mk wq lab v m E l K) (hv : ∀ z, v.ownBlock = some z → w.heap.size ≤ z) (hf : Below w.heap.size w wq) (hm : m ≤ i) (hZ : X.Z 0)
    (Q : Exit → Act → World → Prop) (R : Act → World → Prop) (hR : ∀ a' w' v' m' l', LF (some ⟨b, off, none⟩) n cap X.wd v' (i + 1) a' → m' ≤ i + 1 → (∀ z, v'.ownBlock = some z → w.heap.size ≤ z) → WoM X.Z w w' X.wd (5 * (i + 1)) v' m' l' → R a' w') :
    roundC.wp Try.prog (Exit.then R Q) a wq := by
  dsimp only [roundC, Try.f7, Option.getD, rgt, lft, inb, inl]
  obtain ⟨va, vk, ev, hvr⟩ := mk.own.rd
  subst ev
  clear hvr
  obtain ⟨u, e2, e7, e10, e11, rfl⟩ := ha
  rw [e2, e7, e10, e11]
  clear e2 e7 e10 e11
  have k4 : ((5 : Int) != 4) = true := rfl
  have k5 : ((5 : Int) != 5) = false := rfl
  have i0 : (0 : Int) ≤ (i : Int) := by omega
  have i1 : (i : Int) < (n : Int) := by omega
  have hTl := OT.le
  have hMl := OB.le
  obtain ⟨wb, hwb⟩ : ∃ wb, wb = wq.alloc (.cells #[.int .i64 5, .int .i64 wh, .slice tO T tc, .slice bO M bc, .int .i64 nn] 56) := ⟨_, rfl⟩
  have fb : Below wq.heap.size wq wb := by rw [hwb]; exact fresh_alloc _ _
  have hbs : wb.heap.size = wq.heap.size + 1 := by rw [hwb]; simp
  have HBX : Hid (Bx wb wq.heap.size 5 wh nn (.slice tO T tc) (.slice bO M bc)) := by show Bx _ _ _ _ _ _ _; rw [hwb]; exact Bx.new _ _ _ _ _ _
  have lbx : lab wq.heap.size = 0 := Classical.not_not.1 (fun e => absurd (st.ws.low _ e) (Nat.lt_irrefl _))
  have stb := st.fresh fb
  have hinv := st.inv
  have HOT := hidd (OT.fresh fb)
  have HOB := hidd (OB.fresh fb)
  have HMK := hidd (mk.fresh fb)
  have mlt : ∀ z, (Value.slice va m vk).ownBlock = some z → z < wq.heap.size := fun z hz => (mk.own.lt z hz).2
  obtain ⟨_, ck, _, dk, _⟩ := PS.cells stb.ws
  have cc : wb.cell? ⟨X.wd, 1, none⟩ = some (.pointer (some ⟨(X.c 0).C, 0, none⟩)) := ck 0 (by decide)
  have cd : wb.cell? ⟨X.wd, 4, none⟩ = some (.pointer (some ⟨X.D 0, 0, none⟩)) := dk 0 (by decide)
  have HF0 := hidd (Fd.of stb)
  have HI := hidd hinv
  obtain ⟨_, _, x2, x3, _⟩ := HBX.out.parts
  have hfb := hf.trans (fb.mono hf.size)
  have hwz := hf.size
  have HWB := hidd hwb
  clear ck dk stb st OT OB mk hinv hwb
  go_upto_region 12 with (fail)
  rw [← HWB.out]
  clear HWB d0 d1 d2 d3 d4
  go_wp2_with (fail)
  refine (HF0.out.copy HOT.out.rd hTl).mono ?_
  rintro e w1 ⟨u1, k1, rfl, A1⟩
  obtain ⟨o1, z1, f1, F1⟩ := A1.out
  have HF1 := hidd F1
  have O1 := hidd o1
  have sz1 := f1.size
  obtain ⟨_, _, _, y3, _⟩ := (HBX.out.chg F1.chg (fun e => e lbx)).parts
  clear A1 F1 o1 HF0 x2 x3 cc cd
  go_wp2_with (fail)
  refine (HF1.out.copy (HOB.out.chg HF1.out.chg).rd hMl).mono ?_
  rintro e w2 ⟨u2, k2, rfl, A2⟩
  obtain ⟨o2, z2, f2, F2⟩ := A2.out
  have HF2 := hidd F2
  have O2 := hidd o2
  have P1 := hidd (O1.out.kept f2)
  have sz2 := f2.size
  have q1lt : ∀ z, (Value.slice u1 T k1).ownBlock = some z → z < w1.heap.size := fun z hz => (O1.out.lt z hz).2
  have q2lt : ∀ z, (Value.slice u2 M k2).ownBlock = some z → z < w2.heap.size := fun z hz => (O2.out.lt z hz).2
  clear A2 F2 o2 y3 HF1 O1
  go_wp2_with (fail)
  refine (HF2.out.keep HI.out (by omega) (HOT.out.chg HF2.out.chg) (HOB.out.chg HF2.out.chg) P1.out.rda O2.out (fun z hz => (z2 z hz).1) (by decide) hZ).mono ?_
  rintro e w3 ⟨c, rfl, ch3, HK3⟩
  obtain ⟨_, _, x2, x3, _⟩ := (HBX.out.chg ch3 (fun e => e lbx)).parts
  go_wp2_with (fail)
  refine HK3.out.mono ?_
  rintro e w4 ⟨rfl, A4⟩
  obtain ⟨lb, L4, N4, y4, F4, hi4, hlb, ch4⟩ := A4.out
  have lbx4 : lb wq.heap.size = 0 := by rw [hlb _ (by omega)]; exact lbx
  have P4 := hidd (P1.out.chg ch4 (fun z hz e => e (z1 z hz).1))
  have Q4 := hidd (O2.out.chg ch4 (fun z hz e => e (z2 z hz).1))
  have z14 : ∀ z, (Value.slice u1 T k1).ownBlock = some z → lb z = 0 ∧ wb.heap.size ≤ z := fun z hz => ⟨by rw [hlb z (by have := q1lt z hz; omega)]; exact (z1 z hz).1, (z1 z hz).2.2⟩
  have z24 : ∀ z, (Value.slice u2 M k2).ownBlock = some z → lb z = 0 ∧ wb.heap.size ≤ z := fun z hz => ⟨by rw [hlb z (q2lt z hz)]; exact (z2 z hz).1, (z2 z hz).2.2⟩
  have hlow4 : ∀ z, lb z ≠ 0 → w.heap.size ≤ z := fun z hz => by
    by_cases e : z < w2.heap.size
    · rw [hlb z e] at hz
      exact h3 z hz
    · omega
  have HOT4 : Hid (OpAt wb lb tO T tc t) := HOT.out.relab (fun z hz => hlb z (by omega))
  have HMK4 : Hid (Mk wb lb (.slice va m vk) m E l K) := HMK.out.step (Chg.refl _ _) (fun z hz => hlb z (by omega))
  have HF4 := hidd F4
  have HI4 := hidd hi4
  clear A4 F4 hi4 HK3 ch3 x2 x3 P1 O2 HF2 HI HOT HOB HMK ch4
  go_wp2_with (fail)
  refine (HF4.out.over P4.out z14 hTl (by omega) (by omega)).mono ?_
  rintro e w5 ⟨rfl, A5⟩
  obtain ⟨_, c5, F5⟩ := A5.out
  have HF5 := hidd F5
  have Q5 := hidd (Q4.out.chg c5 (fun z hz e => by have := q1lt z e; have := (z2 z hz).2.1; omega))
  clear A5 F5 c5 HF4 P4 Q4
  go_wp2_with (fail)
  refine (HF5.out.over Q5.out z24 hMl (by omega) (by omega)).mono ?_
  rintro e w6 ⟨rfl, A6⟩
  obtain ⟨_, c6, F6⟩ := A6.out
  have HF6 := hidd F6
  obtain ⟨_, _, x2, _, _⟩ := (HBX.out.chg F6.chg (fun e => e lbx4)).parts
  clear A6 F6 c6 HF5 Q5
  go_wp2_with (fail)
  refine (HF6.out.copy (HOT4.out.chg HF6.out.chg).rd hTl).mono ?_
  rintro e w7 ⟨u7, k7, rfl, A7⟩
  obtain ⟨o7, z7, f7, F7⟩ := A7.out
  have HF7 := hidd F7
  have O7 := hidd o7
  have sz7 := F7.chg.size
  have q7lt : ∀ z, (Value.slice u7 T k7).ownBlock = some z → z < w7.heap.size := fun z hz => (O7.out.lt z hz).2
  have z7b : ∀ z, (Value.slice u7 T k7).ownBlock = some z → lb z = 0 ∧ wb.heap.size ≤ z := fun z hz => ⟨(z7 z hz).1, (z7 z hz).2.2⟩
  clear A7 F7 o7 x2 HF6
  go_wp2_with (fail)
  refine (find4 HF7.out HI4.out hZ (by omega) O7.out.rda (fun _ b o e => (z7 b (by rw [e]; rfl)).1) (HOT4.out.chg HF7.out.chg)).mono ?_
  rintro e w8 ⟨q, g8, rfl, ch8, HF9⟩
  go_wp2_with (fail)
  refine HF9.out.mono ?_
  rintro e w9 ⟨g9, rfl, ch9, HF10⟩
  have cb9 := (HF7.out.chg.trans ch8 (fun _ _ e => e)).trans ch9 (fun _ _ e => e)
  obtain ⟨_, _, x2, _, _⟩ := (HBX.out.chg cb9 (fun e => e lbx4)).parts
  clear HF9
  go_wp2_with (fail)
  refine HF10.out.mono ?_
  rintro e w10 ⟨vo, vc, rfl, ch10, HF11⟩
  have cb10 := cb9.trans ch10 (fun _ _ e => e)
  obtain ⟨_, _, y2, _, _⟩ := (HBX.out.chg cb10 (fun e => e lbx4)).parts
  clear HF10 x2
  go_wp2_with (fail)
  refine HF11.out.mono ?_
  rintro e w11 ⟨⟨vo9, vc9, rfl⟩, ch11, A11⟩
  obtain ⟨B, r8, r9, rb, ⟨hne, hg8, hl8, hg9, hl9⟩, zb, hqT, S11⟩ := A11.out
  have O11 := hidd ((((O7.out.chg ch8 (fun z hz e => e (z7b z hz).1)).chg ch9 (fun z hz e => e (z7b z hz).1)).chg ch10 (fun z hz e => e (z7b z hz).1)).chg ch11 (fun z hz e => e (z7b z hz).1))
  have HS11 := hidd S11
  have R8 := hidd r8
  have R9 := hidd r9
  have RB := hidd rb
  have hqm : q ≤ maxLen := by unfold maxLen; omega
  have g8lt := r8.lt
  have g9lt := r9.lt
  have HE := hidd (eq_rows (row_rd r8 hqm) rb)
  clear A11 S11 r8 r9 rb HF11 y2 cb9 cb10 ch8 ch9 ch10 ch11 O7 HF7
  go_wp2_with (fail)
  refine HE.out.mono ?_
  rintro e w12 ⟨rfl, f12⟩
  have o8 := own_of_row (base := 0) ((Chg.of_below (fun _ => False) f12).row R8.out id) (Nat.zero_le _) (Nat.le_refl _) hqm (fun _ _ => rfl)
  have HV := hidd (over_any o8 (by omega) (mark := -3 - (i : Int)) (by omega) (by omega))
  clear HE o8
  go_wp2_with (fail)
  refine HV.out.mono ?_
  rintro e w13 ⟨rfl, rd13, c13⟩
  have HS13 := hidd ((HS11.out.fresh f12).off c13 (fun z e => by have e : some g8 = some z := e; injection e with e; subst e; exact ⟨hl8, by omega⟩))
  have CH13 := (Chg.of_below (fun z => z = g8) f12).trans c13 (fun z _ e => by have e : some g8 = some z := e; injection e with e; exact e.symm)
  have MK13 := hidd (HMK4.out.step HS13.out.chg (fun _ _ => rfl))
  have RD13 := hidd rd13
  have sz13 := CH13.size
  have OWN13 : Hid (Own (w13.alloc (.cells #[.slice (some ⟨g8, 0, none⟩) q q] 22)) 0 22 1 (.slice va m vk) m (fun j => if j = m then .slice (some ⟨g8, 0, none⟩) q q else E j)) := (MK13.out.own.kept (fresh_alloc _ _)).congr (fun j hj => by rw [if_neg (by omega)])
  clear HV rd13 c13
  go_wp2_with (at_builtin; refine wpList_app1 _ rfl _ _ 44 rfl 0 22 (.slice none 0 0) 24 Try.underlying44 infoM rfl _ m (fun j => if j = m then .slice (some ⟨g8, 0, none⟩) q q else E j) rfl OWN13.out _ 1 rfl (by simp) (by simp [Value.oneCell']) (by omega) (by omega) (by simp) ?_)
  intro v' w14 hown' happ
  have fA := fresh_alloc w13 (.cells #[.slice (some ⟨g8, 0, none⟩) q q] 22)
  have MK14 := hidd (MK13.out.push fA happ RD13.out (fun z hz => by have e : some g8 = some z := hz; injection e with e; subst e; exact ⟨hl8, by omega⟩) (fun z hz e => by have e : some g8 = some z := e; injection e with e; subst e; have := mlt g8 hz; omega) HS13.out.low hown')
  have C14 : Chg w13 w14 (fun z => (Value.slice va m vk).ownBlock = some z) := (Chg.of_below _ fA).trans (Chg.of_app happ) (fun _ _ e => e)
  have HS14 := hidd (HS13.out.un C14 (fun z hz => HMK4.out.lv z hz))
  have hv14 : ∀ z, v'.ownBlock = some z → w.heap.size ≤ z ∧ (z < wq.heap.size ∨ w13.heap.size ≤ z) := fun z hz => by
    rcases happ.blk z hz with e | e
    · exact ⟨hv z e, .inl (mlt z e)⟩
    · simp at e
      exact ⟨by omega, .inr (by omega)⟩
  obtain ⟨va9, vk9, ev9, hrd9⟩ := hown'.rd
  subst ev9
  have vle := hrd9.le
  have vtop := hrd9.top
  unfold maxLen at vtop
  have CH14 : Chg w11 w14 (fun z => z = g8 ∨ (Value.slice va m vk).ownBlock = some z) := (CH13.imp (fun _ _ e => .inl e)).trans C14 (fun _ _ e => .inr e)
  have R914 := hidd (CH14.row R9.out (fun e => by
    rcases e with e | e
    · exact hne e.symm
    · have := mlt g9 e; omega))
  have RB14 := hidd (RB.out.chg CH14 (fun b off e => by
    have zz := zb b (by rw [e]; rfl)
    intro e2
    rcases e2 with e2 | e2
    · exact zz.2.2.1 e2
    · have := mlt b e2; omega))
  have O14 := hidd (O11.out.chg CH14 (fun z hz e => by
    rcases e with e | e
    · have := q7lt z hz; omega
    · have := mlt z e; have := (z7b z hz).2; omega))
  have BX14 := hidd ((HBX.out.chg HS13.out.chg (fun e => e lbx4)).chg C14 (fun e => by have := mlt _ e; omega))
  have OT13 := HOT4.out.chg HS13.out.chg
  have OT14 : Hid (OpAt w14 lb tO T tc t) := ⟨OT13.rd.chg0 C14 (fun h0 b o e q => by have := hOw h0 b o e; have := hv _ q; omega), OT13.fit, OT13.off, OT13.le⟩
  have BL14 := C14.below (HS13.out.chg.below hfb (by omega) hlow4) (by have := HS13.out.chg.size; omega) hv
  have sz14 := CH14.size
  have mel : ∀ k, k < m → ∀ z, (E k).ownBlock = some z → z < wb.heap.size := fun k hk z hz => (HMK4.out.le k hk z hz).2
  have HE15 := hidd (eq_rows (row_rd R914.out hqm) RB14.out)
  clear hown' happ fA C14 CH14 OT13 R9 RB O11 HS13 HS11 MK13 RD13 OWN13 hrd9 CH13 HOT4 HBX hfb f12
  go_wp2_with (fail)
  refine HE15.out.mono ?_
  rintro e w15 ⟨rfl, f15⟩
  have o9 := own_of_row (base := 0) ((Chg.of_below (fun _ => False) f15).row R914.out id) (Nat.zero_le _) (Nat.le_refl _) hqm (fun _ _ => rfl)
  have HV9 := hidd (over_any o9 (by omega) (mark := -3 - (i : Int)) (by omega) (by omega))
  clear HE15 o9 R914
  go_wp2_with (fail)
  refine HV9.out.mono ?_
  rintro e w16 ⟨rfl, _, c16⟩
  have HS16 := hidd ((HS14.out.fresh f15).un c16 (fun z e => by have e : some g9 = some z := e; injection e with e; subst e; exact hl9))
  have CH16 : Chg w14 w16 (fun z => lb z ≠ 0 ∨ z = g9 ∨ (Value.slice u7 T k7).ownBlock = some z) := (Chg.of_below _ f15).trans c16 (fun z _ e => by have e : some g9 = some z := e; injection e with e; exact .inr (.inl e.symm))
  have O16 := hidd ((O14.out.kept f15).chg c16 (fun z hz e => by have e : some g9 = some z := e; injection e with e; subst e; have := q7lt g9 hz; omega))
  have sz16 := CH16.size
  clear HV9 c16 f15 HS14 O14
  by_cases hT0 : T = 0
  · have hd0 : decide (0 < T) = false := decide_eq_false (by omega)
    have HSL := hidd HS16.out.more
    have CHL := CH16
    have szL := sz16
    clear hT0
    obtain ⟨E9, l9, K9, MKL⟩ : ∃ E9 l9 K9, Hid (Mk w16 lb (.slice va9 (m + 1) vk9) (m + 1) E9 l9 K9) := ⟨_, _, _, MK14.out.chg CHL (fun z hz e => by
        rcases e with e | e | e
        · exact e (MK14.out.lv z hz)
        · have := (hv14 z hz).2; omega
        · have := (hv14 z hz).2; have := q7lt z e; have := (z7b z e).2; omega) (fun k hk z hz e => by
        by_cases ek : k = m
        · have hz : some g8 = some z := by rw [if_pos ek] at hz; exact hz
          injection hz with hz
          subst hz
          rcases e with e | e | e
          · exact e hl8
          · exact hne e
          · have := q7lt g8 e; omega
        · have hz9 : (E k).ownBlock = some z := by rw [if_neg ek] at hz; exact hz
          have h1 := mel k (by omega) z hz9
          rcases e with e | e | e
          · exact e (HMK4.out.le k (by omega) z hz9).1
          · omega
          · have := (z7b z e).2; omega)⟩
    have BXL := hidd (BX14.out.chg CHL (fun e => by
        rcases e with e | e | e
        · exact e lbx4
        · omega
        · have := (z7b _ e).2; omega))
    have OTL : Hid (OpAt w16 lb tO T tc t) := ⟨OT14.out.rd.chg0 CHL (fun h0 b o e q => by
        have h1 := hOw h0 b o e
        rcases q with q | q | q
        · have := hlow4 b q; omega
        · omega
        · have := (z7b b q).2; omega), OT14.out.fit, OT14.out.off, OT14.out.le⟩
    have RBL := hidd (RB14.out.chg CHL (fun b off e => by
        have zz := zb b (by rw [e]; rfl)
        intro q
        rcases q with q | q | q
        · exact q zz.1
        · exact zz.2.2.2 q
        · have := q7lt b q; omega))
    have BLL := CHL.below BL14 (by omega) (fun z e => by
        rcases e with e | e | e
        · exact hlow4 z e
        · omega
        · have := (z7b z e).2; omega)
    clear CHL MK14 BX14 OT14 RB14 BL14 HMK4
    go_wp2_with (fail)
    go_loopw [25] (fun vk wr => ∃ k : Nat, k ≤ m + 1 ∧ vk = .int .i64 (k : Int) ∧ Below w16.heap.size w16 wr) (fun vk _ => m + 1 - (intOf vk).toNat)
    case atStart => exact ⟨0, Nat.zero_le _, by simp, Below.refl _ _⟩
    case round =>
      obtain ⟨k, hk, rfl, hfk⟩ := hrel
      by_cases hlt : k < m + 1
      · obtain ⟨gv, cv, ev, _⟩ := MKL.out.cell hlt
        have HCE : Hid (∀ w', Below w16.heap.size w16 w' → w'.cell? ⟨gv, k, none⟩ = some (E9 k)) := fun w' f' => by
          obtain ⟨gv2, cv2, ev2, hce⟩ := (MKL.out.fresh f').cell hlt
          rw [ev] at ev2
          injection ev2 with ev3
          injection ev3 with ev3
          injection ev3 with ev3
          rw [ev3]
          exact hce
        obtain ⟨ae, ce, eE, hle, _⟩ := MKL.out.num hlt
        have HCK : Hid (0 < l9 k → ∃ b o, ae = some ⟨b, o, none⟩ ∧ ∀ w', Below w16.heap.size w16 w' → ∀ j, j < l9 k → w'.cell? ⟨b, o + j, none⟩ = some (.int .i64 (K9 k))) := fun h0 => by
          obtain ⟨ae1, ce1, eE1, _, hc1⟩ := MKL.out.num hlt
          rw [eE] at eE1
          injection eE1 with e1 _ e3
          subst e1 e3
          obtain ⟨b1, o1, e4, hc2⟩ := hc1 h0
          exact ⟨b1, o1, e4, fun w' f' j hj => fresh_cell f' (hc2 j hj)⟩
        have HEE := hidd eE
        have htopE : l9 k ≤ 9223372036854775807 := by
          obtain ⟨_, _, e1, hr1⟩ := MKL.out.rd k hlt
          have := hr1.le
          have := hr1.top
          unfold maxLen at this
          omega
        have ceb : ce ≤ 9223372036854775807 := by
          obtain ⟨_, _, e1, hr1⟩ := MKL.out.rd k hlt
          rw [eE] at e1
          injection e1 with _ _ e3
          have := hr1.top
          unfold maxLen at this
          omega
        injection ev with ev1 _ ev3
        rw [ev1]
        have cE0 := HCE.out _ hfk
        rw [HEE.out] at cE0
        obtain ⟨lk, hlk⟩ : ∃ lk, lk = l9 k := ⟨_, rfl⟩
        obtain ⟨kk, hkk⟩ : ∃ kk, kk = K9 k := ⟨_, rfl⟩
        rw [← hlk] at HCK hle htopE HEE cE0
        rw [← hkk] at HCK
        have k0 : (0 : Int) ≤ (k : Int) := by omega
        have k1 : (k : Int) < (m : Int) + 1 := by omega
        clear hlk hkk ev1 ev3 eE
        go_wp2_with (fail)
        go_loopw [26] (fun vj wr => ∃ j : Nat, j ≤ lk ∧ vj = .int .i64 (j : Int) ∧ Below w16.heap.size w16 wr) (fun vj _ => lk - (intOf vj).toNat)
        case atStart => exact ⟨0, Nat.zero_le _, by simp, hfk⟩
        case round =>
          clear cE0 hfk
          obtain ⟨j, hj, rfl, hfj⟩ := hrel
          have cE := HCE.out _ hfj
          rw [HEE.out] at cE
          by_cases hlj : j < lk
          · obtain ⟨b6, o6, ea, hc6⟩ := HCK.out (by omega)
            have cj := hc6 _ hfj j hlj
            have cz : wr.cell? ⟨b6, o6, none⟩ = some (.int .i64 kk) := by simpa using hc6 _ hfj 0 (by omega)
            rw [ea] at cE
            have j0 : (0 : Int) ≤ (j : Int) := by omega
            have j1 : (j : Int) < (lk : Int) := by omega
            have jz : (0 : Int) < (lk : Int) := by omega
            clear hc6
            go_wp2
            go_quiet (fail)
            go_wp2
            go_roundw
            case rel => exact ⟨j + 1, by omega, by go_num, below_drewN hfj _⟩
            case measure => simp [intOf]; omega
          · obtain rfl : lk = j := by omega
            go_wp2
            go_roundw
            case rel => exact ⟨k + 1, by omega, by go_num, hfj⟩
            case measure => simp [intOf]; omega
      · obtain rfl : k = m + 1 := by omega
        obtain ⟨_, _, x2, _, _⟩ := (BXL.out.fresh hfk).parts
        have OTk := hidd (OTL.out.fresh hfk)
        have szk := hfk.size
        go_wp2_with (fail)
        refine (copyI_own OTk.out.rd (by omega)).mono ?_
        rintro e w22 ⟨u22, k22, rfl, o22, f22⟩
        have HS22 := hidd ((HSL.out.fresh hfk).fresh f22).self
        have HF23 := hidd (find2 HS22.out hZ (by omega) o22.rda OTk.out.fit)
        clear x2
        go_wp2_with (fail)
        refine HF23.out.mono ?_
        rintro e w23 ⟨q3, g23, rfl, ch23, A23⟩
        obtain ⟨_, _, _, _, d23⟩ := A23.out
        have OT23 := (OTk.out.fresh f22).chg ch23
        have HD := hidd (d23 w23 (Below.refl _ _) tO tc OT23)
        obtain ⟨_, _, x2, _, _⟩ := (((BXL.out.fresh hfk).fresh f22).chg ch23 (fun e => e lbx4)).parts
        clear A23 d23 HF23
        go_wp2_with (fail)
        refine HD.out.mono ?_
        rintro e w24 ⟨vo3, vc3, rfl, ch24, A24⟩
        obtain ⟨f3, ra3, _, S24, hsame⟩ := A24.out
        obtain ⟨e3, hB3⟩ := hsame (by first | rfl | trivial)
        subst e3
        have RB24 := (((RBL.out.fresh hfk).fresh f22).chg ch23 (fun b off e q => q (zb b (by rw [e]; rfl)).1)).chg ch24 (fun b off e q => q (zb b (by rw [e]; rfl)).1)
        have HE25 := hidd (eq_rows (ra3.congr (fun j hj => by rw [hB3 j (by omega)])) RB24)
        have HS24 := hidd S24
        clear HD A24 S24 ra3 hsame x2
        go_wp2_with (fail)
        refine HE25.out.mono ?_
        rintro e w25 ⟨rfl, f25⟩
        have BL25 := (BLL.trans (hfk.mono BLL.size)).trans (f22.mono (by have := BLL.size; omega))
        have MK25 := hidd (((((MKL.out.fresh hfk).fresh f22).step ch23 (fun _ _ => rfl)).step ch24 (fun _ _ => rfl)).fresh f25)
        have sz22 := f22.size
        have BL26 := (ch24.below (ch23.below BL25 (by have := BLL.size; omega) hlow4) (by have := BLL.size; have := ch23.size; omega) hlow4)
        have BL27 := BL26.trans (f25.mono BL26.size)
        have HW : Hid (WoM X.Z w w25 X.wd (5 * (i + 1)) (.slice va9 (m + 1) vk9) (m + 1) l9) := by
          obtain ⟨L9, N9, F9, hi9, _⟩ := HS24.out.fresh f25
          have e5 : 5 * (i + 1) = 5 * i + 1 + 2 + 1 + 1 := by omega
          show WoM X.Z w w25 X.wd (5 * (i + 1)) _ (m + 1) l9
          rw [e5]
          exact F9.ends hi9 rfl BL27 hlow4 MK25.out
        clear HE25 RB24 MK25 HS24
        go_wp2
        exact hR _ _ _ (m + 1) l9 (LF.of rfl rfl rfl rfl (by first | rfl | simp)) (by omega) (fun z hz => (hv14 z hz).1) HW.out
  · have hd0 : decide (0 < T) = true := decide_eq_true (by omega)
    obtain ⟨g7, e7, hc7⟩ := O16.out.at0 (by omega)
    subst e7
    have c7 := hc7 (T - 1) (by omega)
    have fz7 : w16.frozen? ⟨g7, T - 1, none⟩ = false := by
      rcases O16.out.2 with ⟨e1, _⟩ | ⟨gg, cp, cur, e1, _, hgg, _⟩
      · cases e1
      · injection e1 with e1
        injection e1 with e1
        injection e1 with e1
        subst e1
        unfold World.frozen?
        simp [hgg]
    obtain ⟨tl, htl⟩ : ∃ tl, tl = t (T - 1) := ⟨_, rfl⟩
    have c7 : w16.cell? ⟨g7, T - 1, none⟩ = some (.int .i64 tl) := by rw [htl]; exact c7
    have HTL := hidd htl
    have eT : ((T - 1 : Nat) : Int) = (T : Int) - 1 := by omega
    clear hc7 htl
    go_wp2_with (fail)
    obtain ⟨x, hx⟩ : ∃ x, x = wrap64 (t (T - 1) + 1) := ⟨_, rfl⟩
    have hxf : fits x := by rw [hx]; exact wrap_fits _
    rw [← hx]
    have g7z := z7b g7 rfl
    have g7lt := q7lt g7 rfl
    have HT3 : Hid (∀ j, j < T → fits ((fun j => if j = T - 1 then x else t j) j)) := fun j hj => by
      show fits (if j = T - 1 then x else t j)
      split
      · exact hxf
      · exact OT14.out.fit j hj
    have O17 : Hid (Own (w16.setCell ⟨g7, T - 1, none⟩ (.int .i64 x)) 0 3 1 (.slice (some ⟨g7, 0, none⟩) T k7) T (fun j => .int .i64 ((fun j => if j = T - 1 then x else t j) j))) := (O16.out.put (T - 1) (.int .i64 x)).congr (fun j hj => by
      show (if j = T - 1 then Value.int .i64 x else .int .i64 (t j)) = .int .i64 (if j = T - 1 then x else t j)
      split <;> rfl)
    have C17 := Chg.of_set w16 g7 (T - 1) (.int .i64 x)
    have HS17 := hidd (HS16.out.un C17 (fun z e => by subst e; exact g7z.1))
    have CH17 : Chg w14 (w16.setCell ⟨g7, T - 1, none⟩ (.int .i64 x)) (fun z => lb z ≠ 0 ∨ z = g9 ∨ (Value.slice (some ⟨g7, 0, none⟩) T k7).ownBlock = some z) := CH16.trans C17 (fun z _ e => .inr (.inr (by rw [e]; rfl)))
    generalize w16.setCell ⟨g7, T - 1, none⟩ (.int .i64 x) = w17 at *
    generalize (fun j => if j = T - 1 then x else t j) = t3 at *
    clear hx hxf C17 HS16 CH16 O16 c7 fz7 HTL eT
    refine (find2 HS17.out hZ (by omega) O17.out.rda HT3.out).mono ?_
    rintro e w18 ⟨q2, g18, rfl, ch18, A18⟩
    obtain ⟨hg18, hl18, hz18, _, d18⟩ := A18.out
    have D18 := hidd d18
    have O18 := hidd (O17.out.chg ch18 (fun z hz e => e (z7b z hz).1))
    clear A18 d18
    go_wp2_with (fail)
    refine (copyI_own O18.out.rda (by omega)).mono ?_
    rintro e w19 ⟨u19, k19, rfl, o19, f19⟩
    have HD := hidd (D18.out w19 f19 u19 k19 ⟨o19.rda, HT3.out, fun _ b o e => hz18 b (o19.lt b (by rw [e]; rfl)).1, hTl⟩)
    clear D18
    go_wp2_with (fail)
    refine HD.out.mono ?_
    rintro e w20 ⟨vo2, vc2, rfl, ch20, A20⟩
    obtain ⟨f2, ra, rb2, S20, _⟩ := A20.out
    have HE21 := hidd (eq_rows ra rb2)
    clear HD A20
    go_wp2_with (fail)
    refine HE21.out.mono ?_
    rintro e w21 ⟨rfl, f21⟩
    have HSL := hidd (S20.fresh f21).self
    have CHL := (((CH17.trans ch18 (fun _ _ e => .inl e)).post f19).trans ch20 (fun _ _ e => .inl e)).post f21
    have szL := CHL.size
    clear HE21 ra rb2 S20 f21 ch20 f19 ch18 O17 O18 HS17 CH17 o19
    obtain ⟨E9, l9, K9, MKL⟩ : ∃ E9 l9 K9, Hid (Mk w21 lb (.slice va9 (m + 1) vk9) (m + 1) E9 l9 K9) := ⟨_, _, _, MK14.out.chg CHL (fun z hz e => by
        rcases e with e | e | e
        · exact e (MK14.out.lv z hz)
        · have := (hv14 z hz).2; omega
        · have := (hv14 z hz).2; have := q7lt z e; have := (z7b z e).2; omega) (fun k hk z hz e => by
        by_cases ek : k = m
        · have hz : some g8 = some z := by rw [if_pos ek] at hz; exact hz
          injection hz with hz
          subst hz
          rcases e with e | e | e
          · exact e hl8
          · exact hne e
          · have := q7lt g8 e; omega
        · have hz9 : (E k).ownBlock = some z := by rw [if_neg ek] at hz; exact hz
          have h1 := mel k (by omega) z hz9
          rcases e with e | e | e
          · exact e (HMK4.out.le k (by omega) z hz9).1
          · omega
          · have := (z7b z e).2; omega)⟩
    have BXL := hidd (BX14.out.chg CHL (fun e => by
        rcases e with e | e | e
        · exact e lbx4
        · omega
        · have := (z7b _ e).2; omega))
    have OTL : Hid (OpAt w21 lb tO T tc t) := ⟨OT14.out.rd.chg0 CHL (fun h0 b o e q => by
        have h1 := hOw h0 b o e
        rcases q with q | q | q
        · have := hlow4 b q; omega
        · omega
        · have := (z7b b q).2; omega), OT14.out.fit, OT14.out.off, OT14.out.le⟩
    have RBL := hidd (RB14.out.chg CHL (fun b off e => by
        have zz := zb b (by rw [e]; rfl)
        intro q
        rcases q with q | q | q
        · exact q zz.1
        · exact zz.2.2.2 q
        · have := q7lt b q; omega))
    have BLL := CHL.below BL14 (by omega) (fun z e => by
        rcases e with e | e | e
        · exact hlow4 z e
        · omega
        · have := (z7b z e).2; omega)
    clear CHL MK14 BX14 OT14 RB14 BL14 HMK4
    go_wp2_with (fail)
    go_loopw [25] (fun vk wr => ∃ k : Nat, k ≤ m + 1 ∧ vk = .int .i64 (k : Int) ∧ Below w21.heap.size w21 wr) (fun vk _ => m + 1 - (intOf vk).toNat)
    case atStart => exact ⟨0, Nat.zero_le _, by simp, Below.refl _ _⟩
    case round =>
      obtain ⟨k, hk, rfl, hfk⟩ := hrel
      by_cases hlt : k < m + 1
      · obtain ⟨gv, cv, ev, _⟩ := MKL.out.cell hlt
        have HCE : Hid (∀ w', Below w21.heap.size w21 w' → w'.cell? ⟨gv, k, none⟩ = some (E9 k)) := fun w' f' => by
          obtain ⟨gv2, cv2, ev2, hce⟩ := (MKL.out.fresh f').cell hlt
          rw [ev] at ev2
          injection ev2 with ev3
          injection ev3 with ev3
          injection ev3 with ev3
          rw [ev3]
          exact hce
        obtain ⟨ae, ce, eE, hle, _⟩ := MKL.out.num hlt
        have HCK : Hid (0 < l9 k → ∃ b o, ae = some ⟨b, o, none⟩ ∧ ∀ w', Below w21.heap.size w21 w' → ∀ j, j < l9 k → w'.cell? ⟨b, o + j, none⟩ = some (.int .i64 (K9 k))) := fun h0 => by
          obtain ⟨ae1, ce1, eE1, _, hc1⟩ := MKL.out.num hlt
          rw [eE] at eE1
          injection eE1 with e1 _ e3
          subst e1 e3
          obtain ⟨b1, o1, e4, hc2⟩ := hc1 h0
          exact ⟨b1, o1, e4, fun w' f' j hj => fresh_cell f' (hc2 j hj)⟩
        have HEE := hidd eE
        have htopE : l9 k ≤ 9223372036854775807 := by
          obtain ⟨_, _, e1, hr1⟩ := MKL.out.rd k hlt
          have := hr1.le
          have := hr1.top
          unfold maxLen at this
          omega
        have ceb : ce ≤ 9223372036854775807 := by
          obtain ⟨_, _, e1, hr1⟩ := MKL.out.rd k hlt
          rw [eE] at e1
          injection e1 with _ _ e3
          have := hr1.top
          unfold maxLen at this
          omega
        injection ev with ev1 _ ev3
        rw [ev1]
        have cE0 := HCE.out _ hfk
        rw [HEE.out] at cE0
        obtain ⟨lk, hlk⟩ : ∃ lk, lk = l9 k := ⟨_, rfl⟩
        obtain ⟨kk, hkk⟩ : ∃ kk, kk = K9 k := ⟨_, rfl⟩
        rw [← hlk] at HCK hle htopE HEE cE0
        rw [← hkk] at HCK
        have k0 : (0 : Int) ≤ (k : Int) := by omega
        have k1 : (k : Int) < (m : Int) + 1 := by omega
        clear hlk hkk ev1 ev3 eE
        go_wp2_with (fail)
        go_loopw [26] (fun vj wr => ∃ j : Nat, j ≤ lk ∧ vj = .int .i64 (j : Int) ∧ Below w21.heap.size w21 wr) (fun vj _ => lk - (intOf vj).toNat)
        case atStart => exact ⟨0, Nat.zero_le _, by simp, hfk⟩
        case round =>
          clear cE0 hfk
          obtain ⟨j, hj, rfl, hfj⟩ := hrel
          have cE := HCE.out _ hfj
          rw [HEE.out] at cE
          by_cases hlj : j < lk
          · obtain ⟨b6, o6, ea, hc6⟩ := HCK.out (by omega)
            have cj := hc6 _ hfj j hlj
            have cz : wr.cell? ⟨b6, o6, none⟩ = some (.int .i64 kk) := by simpa using hc6 _ hfj 0 (by omega)
            rw [ea] at cE
            have j0 : (0 : Int) ≤ (j : Int) := by omega
            have j1 : (j : Int) < (lk : Int) := by omega
            have jz : (0 : Int) < (lk : Int) := by omega
            clear hc6
            go_wp2
            go_quiet (fail)
            go_wp2
            go_roundw
            case rel => exact ⟨j + 1, by omega, by go_num, below_drewN hfj _⟩
            case measure => simp [intOf]; omega
          · obtain rfl : lk = j := by omega
            go_wp2
            go_roundw
            case rel => exact ⟨k + 1, by omega, by go_num, hfj⟩
            case measure => simp [intOf]; omega
      · obtain rfl : k = m + 1 := by omega
        obtain ⟨_, _, x2, _, _⟩ := (BXL.out.fresh hfk).parts
        have OTk := hidd (OTL.out.fresh hfk)
        have szk := hfk.size
        go_wp2_with (fail)
        refine (copyI_own OTk.out.rd (by omega)).mono ?_
        rintro e w22 ⟨u22, k22, rfl, o22, f22⟩
        have HS22 := hidd ((HSL.out.fresh hfk).fresh f22).self
        have HF23 := hidd (find2 HS22.out hZ (by omega) o22.rda OTk.out.fit)
        clear x2
        go_wp2_with (fail)
        refine HF23.out.mono ?_
        rintro e w23 ⟨q3, g23, rfl, ch23, A23⟩
        obtain ⟨_, _, _, _, d23⟩ := A23.out
        have OT23 := (OTk.out.fresh f22).chg ch23
        have HD := hidd (d23 w23 (Below.refl _ _) tO tc OT23)
        obtain ⟨_, _, x2, _, _⟩ := (((BXL.out.fresh hfk).fresh f22).chg ch23 (fun e => e lbx4)).parts
        clear A23 d23 HF23
        go_wp2_with (fail)
        refine HD.out.mono ?_
        rintro e w24 ⟨vo3, vc3, rfl, ch24, A24⟩
        obtain ⟨f3, ra3, _, S24, hsame⟩ := A24.out
        obtain ⟨e3, hB3⟩ := hsame (by first | rfl | trivial)
        subst e3
        have RB24 := (((RBL.out.fresh hfk).fresh f22).chg ch23 (fun b off e q => q (zb b (by rw [e]; rfl)).1)).chg ch24 (fun b off e q => q (zb b (by rw [e]; rfl)).1)
        have HE25 := hidd (eq_rows (ra3.congr (fun j hj => by rw [hB3 j (by omega)])) RB24)
        have HS24 := hidd S24
        clear HD A24 S24 ra3 hsame x2
        go_wp2_with (fail)
        refine HE25.out.mono ?_
        rintro e w25 ⟨rfl, f25⟩
        have BL25 := (BLL.trans (hfk.mono BLL.size)).trans (f22.mono (by have := BLL.size; omega))
        have MK25 := hidd (((((MKL.out.fresh hfk).fresh f22).step ch23 (fun _ _ => rfl)).step ch24 (fun _ _ => rfl)).fresh f25)
        have sz22 := f22.size
        have BL26 := (ch24.below (ch23.below BL25 (by have := BLL.size; omega) hlow4) (by have := BLL.size; have := ch23.size; omega) hlow4)
        have BL27 := BL26.trans (f25.mono BL26.size)
        have HW : Hid (WoM X.Z w w25 X.wd (5 * (i + 1)) (.slice va9 (m + 1) vk9) (m + 1) l9) := by
          obtain ⟨L9, N9, F9, hi9, _⟩ := HS24.out.fresh f25
          have e5 : 5 * (i + 1) = 5 * i + 1 + 2 + 1 + 1 := by omega
          show WoM X.Z w w25 X.wd (5 * (i + 1)) _ (m + 1) l9
          rw [e5]
          exact F9.ends hi9 rfl BL27 hlow4 MK25.out
        clear HE25 RB24 MK25 HS24
        go_wp2
        exact hR _ _ _ (m + 1) l9 (LF.of rfl rfl rfl rfl (by first | rfl | simp)) (by omega) (fun z hz => (hv14 z hz).1) HW.out
end Go.Proofs.Ytaalinlggjimcaa
