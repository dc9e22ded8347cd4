import Derived.Test.YtbpldnlafilbbabNgRe
namespace Go.Proofs.Ytbpldnlafilbbab
open Go.RowKit
/-! NgramAgain. -/
theorem rd_none (w : World) (cs : Nat → Value) : RdA w none 1 0 0 cs := ⟨by omega, by unfold maxLen; omega, fun h => absurd h (by omega)⟩
theorem Own.off_ {w w' : World} {T : Nat → Prop} (c : Chg w w' T) {base : Nat} {e : TypeId} {sz : Nat} {v : Value} {n : Nat} {cs : Nat → Value} (h : Own w base e sz v n cs) (hT : ∀ b, base ≤ b → b < w.heap.size → ¬ T b) : Own w' base e sz v n cs := Own.chg c h (fun b hb => hT b (h.lt b hb).1 (h.lt b hb).2)
set_option maxRecDepth 20000 in
set_option maxHeartbeats 4000000 in
theorem again_bad {w : World} (most : Int) (hbad : most < 1 ∨ 4 < most) (nc : Int) (ao bo : Option Addr) (na nb ca cb : Nat) :
    Calls Try.prog 3 #[.int .i64 most, .slice ao na ca, .slice bo nb cb, .int .i64 nc] w fun e w' => e = .returned (.bool true) ∧ Below w.heap.size w w' := by
  have HW := hidd (works_any w)
  have HN : Hid (∀ w : World, Calls Try.prog 6 #[.int .i64 most] w fun e w' => e = .returned (.tuple #[.pointer none, .int .i64 1]) ∧ w' = w) := fun w => new_bad most hbad w
  have HRN : Hid (∀ w : World, Calls Try.prog 7 #[.int .i64 most] w fun e w' => e = .returned (.tuple #[.pointer none, .int .i64 1]) ∧ w' = w) := fun w => rnew_bad most hbad w
  have HTH : Hid (∀ w : World, Calls Try.prog 10 #[.pointer none, .slice bo nb cb, .int .i64 nc] w fun e w' => ∃ u1 c1 u2 c2 u3 c3, e = .returned (.tuple #[.slice u1 0 c1, .slice u2 0 c2, .slice u3 0 c3]) ∧ RdA w' u1 1 0 c1 (qF []) ∧ RdA w' u2 1 0 c2 (qF []) ∧ RdA w' u3 1 0 c3 (qF []) ∧ Below w.heap.size w w') := fun w => by
    refine (through_any (w := w) none bo nb cb nc [] [] (fun _ => False) (fun _ h => h.elim) (by simp) (by simp) (fun w1 _ => ?_)).mono ?_
    · refine (append_nil w1 bo nb cb).mono ?_
      rintro e w2 ⟨rfl, rfl⟩
      refine ⟨rfl, Chg.refl _ _, _, _, nil_ps w2, fun _ h => h.elim, fun w3 _ => ?_⟩
      refine (cut_nil w3 nc).mono ?_
      rintro e w4 ⟨rfl, rfl⟩
      exact ⟨rfl, Chg.refl _ _, _, nil_ps w4⟩
    · rintro e w' ⟨u1, c1, u2, c2, u3, c3, rfl, o1, o2, o3, hc⟩
      exact ⟨u1, c1, u2, c2, u3, c3, rfl, own_rda o1, own_rda o2, own_rda o3, ⟨hc.low.os, hc.low.tape, hc.low.output, hc.low.size, fun k hk => hc.block k hk (fun h => h)⟩⟩
  have HAP : Hid (∀ (w : World) (ao : Option Addr) (m c : Nat), Calls Try.prog 8 #[.pointer none, .slice ao m c] w fun e w' => e = .returned (.tuple #[]) ∧ w' = w) := append_nil
  have HRA : Hid (∀ (w : World) (ao : Option Addr) (m c : Nat), Calls Try.prog 9 #[.pointer none, .slice ao m c] w fun e w' => e = .returned (.tuple #[]) ∧ w' = w) := rappend_nil
  have HRP := hidd rplaces_nil
  have HRC : Hid (∀ w : World, Calls Try.prog 12 #[.pointer none, .int .i64 nc] w fun e w' => e = .returned (.tuple #[]) ∧ w' = w) := fun w => rcut_nil w nc
  go_enter Try.func3, Try.ntmps3
  go_wp2_with (go_at_call 5; with_reducible refine HW.out.mono ?_; rintro e w1 ⟨rfl, hb1⟩; have HB1 := hidd hb1; clear hb1 HW)
  go_wp2_with (first
    | (go_at_call 6; with_reducible refine (HN.out _).mono ?_; rintro e w9 ⟨rfl, h9⟩; rw [h9]; clear h9 w9)
    | (go_at_call 7; with_reducible refine (HRN.out _).mono ?_; rintro e w9 ⟨rfl, h9⟩; rw [h9]; clear h9 w9)
    | (go_at_call 8; with_reducible refine (HAP.out _ _ _ _).mono ?_; rintro e w9 ⟨rfl, h9⟩; rw [h9]; clear h9 w9)
    | (go_at_call 9; with_reducible refine (HRA.out _ _ _ _).mono ?_; rintro e w9 ⟨rfl, h9⟩; rw [h9]; clear h9 w9))
  go_wp2_with (first
    | (go_at_call 10; with_reducible refine (HTH.out _).mono ?_; rintro e w2 ⟨u1, c1, u2, c2, u3, c3, rfl, r1, r2, r3, hb2⟩; have HR1 := hidd r1; have HR2 := hidd r2; have HR3 := hidd r3; have HB2 := hidd (HB1.out.trans (hb2.mono HB1.out.size)); clear r1 r2 r3 hb2)
    | (go_at_call 9; with_reducible refine (HRA.out _ _ _ _).mono ?_; rintro e w9 ⟨rfl, h9⟩; rw [h9]; clear h9 w9)
    | (go_at_call 11; with_reducible refine (HRP.out _).mono ?_; rintro e w9 ⟨rfl, h9⟩; rw [h9]; clear h9 w9)
    | (go_at_call 12; with_reducible refine (HRC.out _).mono ?_; rintro e w9 ⟨rfl, h9⟩; rw [h9]; clear h9 w9))
  have HE1 := hidd (eqInts_same (L := []) HR1.out (rd_none w2 _))
  go_wp2_with (go_at_call 13; with_reducible refine HE1.out.mono ?_; rintro e w3 ⟨rfl, hb3⟩; have HB3 := hidd (HB2.out.trans (hb3.mono HB2.out.size)); have HR2b := hidd (HR2.out.fresh hb3); have HR3b := hidd (HR3.out.fresh hb3); have HFI := hidd (first2_any (L := []) (rd_none w3 _)); clear hb3 HE1)
  go_wp2_with (go_at_call 14; refine HFI.out.mono ?_; rintro e w9 ⟨c', rfl, hr9, h9⟩; rw [h9]; clear h9 w9; have HE2 := hidd (eqInts_same (L := []) HR2b.out (show RdA w3 none 1 0 c' (qF []) from hr9)); clear hr9 HFI)
  go_wp2_with (go_at_call 13; refine HE2.out.mono ?_; rintro e w4 ⟨rfl, hb4⟩; have HB4 := hidd (HB3.out.trans (hb4.mono HB3.out.size)); have HE3 := hidd (eqInts_same (L := []) (HR3b.out.fresh hb4) (rd_none w4 _)); clear hb4 HE2)
  go_wp2_with (go_at_call 13; with_reducible refine HE3.out.mono ?_; rintro e w5 ⟨rfl, hb5⟩; have HB5 := hidd (HB4.out.trans (hb5.mono HB4.out.size)); clear hb5)
  go_ret
  exact ⟨rfl, HB5.out⟩
set_option maxRecDepth 20000 in
set_option maxHeartbeats 4000000 in
theorem again_ok {w : World} {k : Nat} (hk : 1 ≤ k ∧ k ≤ 4) (nc : Int) {ao bo : Option Addr} {na nb ca cb : Nat} {fa fb : Nat → Int} (ha : RdA w ao 1 na ca (fun i => .int .i64 (fa i))) (hb : RdA w bo 1 nb cb (fun i => .int .i64 (fb i))) (hfa : ∀ i, i < na → fits (fa i)) (hfb : ∀ i, i < nb → fits (fb i)) (hn : (na + nb) * 8 ≤ 140737488351232) :
    Calls Try.prog 3 #[.int .i64 k, .slice ao na ca, .slice bo nb cb, .int .i64 nc] w fun e w' => e = .returned (.bool true) ∧ Below w.heap.size w w' := by
  have HA := hidd ha
  have HB := hidd hb
  have HFA := hidd hfa
  have HFB := hidd hfb
  have HW := hidd (works_any w)
  have HN : Hid (∀ w : World, Calls Try.prog 6 #[.int .i64 k] w fun e w' => e = .returned (.tuple #[.pointer (some ⟨w.heap.size + 1, 0, none⟩), .int .i64 0]) ∧ Idx w' (w.heap.size + 1) (fun b => w.heap.size ≤ b ∧ b < w'.heap.size) k 0 fa (fun _ => 0) ∧ Below w.heap.size w w') := fun w => new_ok k hk w fa _
  have HRN : Hid (∀ w : World, Calls Try.prog 7 #[.int .i64 k] w fun e w' => e = .returned (.tuple #[.pointer (some ⟨w.heap.size, 0, none⟩), .int .i64 0]) ∧ Ri w' w.heap.size (fun b => b = w.heap.size) k 0 fa ∧ Below w.heap.size w w') := fun w => rnew_ok k hk w fa
  clear ha hb hfa hfb
  go_enter Try.func3, Try.ntmps3
  go_wp2_with (go_at_call 5; with_reducible refine HW.out.mono ?_; rintro e w1 ⟨rfl, hb1⟩; have HB1 := hidd hb1; clear hb1 HW)
  go_wp2_with (go_at_call 6; with_reducible refine (HN.out _).mono ?_; rintro e w2 ⟨rfl, hi2, hb2⟩)
  obtain ⟨X, HXE⟩ : ∃ X, Hid (X = w1.heap.size + 1) := ⟨_, rfl⟩
  rw [← HXE.out] at hi2 ⊢
  have HI2 := hidd hi2
  have HB2 := hidd (HB1.out.trans (hb2.mono HB1.out.size))
  have hs12 : w.heap.size ≤ w1.heap.size := HB1.out.size
  clear hi2 hb2 HN
  go_wp2_with (go_at_call 7; with_reducible refine (HRN.out _).mono ?_; rintro e w3 ⟨rfl, hr3, hb3⟩)
  obtain ⟨Y, HYE⟩ : ∃ Y, Hid (Y = w2.heap.size) := ⟨_, rfl⟩
  rw [← HYE.out] at hr3 ⊢
  have HI3 := hidd (HI2.out.fresh hb3)
  have HR3 := hidd hr3
  have HB3 := hidd (HB2.out.trans (hb3.mono HB2.out.size))
  have hY : w2.heap.size ≤ Y ∧ Y ≤ w2.heap.size := by have := HYE.out; omega
  have hs23 : w2.heap.size ≤ w3.heap.size := hb3.size
  have hYl : Y < w3.heap.size := hr3.low Y hr3.sY
  have HA1 := hidd (append_any HI3.out (HA.out.fresh HB3.out) (fun b o e h0 hs => by have := rda_low HA.out b o e h0; have := hs.1; omega) HFA.out (by omega))
  clear hr3 hb3 HRN HI2
  go_wp2_with (go_at_call 8; with_reducible refine HA1.out.mono ?_; rintro e w4 ⟨rfl, S4, A4, hi4, hc4, _, hs4, _⟩)
  have HI4 : Hid (Idx w4 X S4 k na fa A4) := by have := hi4.text (ty := fa) (fun j _ => apT_zero fa fa j); rw [Nat.zero_add] at this; exact this
  have HR4 := hidd (HR3.out.chg hc4 (fun b e h => by have := h.2; have := HYE.out; omega))
  have HB4 := hidd (hc4.below HB3.out HB3.out.size (fun b h => by have := h.1; omega))
  have HS4 : Hid (∀ b, S4 b → w.heap.size ≤ b ∧ b ≠ Y) := fun b h => by
    have := HYE.out
    have := HB3.out.size
    rcases hs4 b h with ⟨h1, h2⟩ | h
    · exact ⟨by omega, by omega⟩
    · exact ⟨by omega, by omega⟩
  have HA2 := hidd (rappend_any HR4.out (HA.out.fresh HB4.out) (fun b o e h0 hs => by have := rda_low HA.out b o e h0; have := HYE.out; have := HB2.out.size; omega) (by omega))
  clear hi4 hc4 hs4 HA1 HI3 HR3
  go_wp2_with (go_at_call 9; with_reducible refine HA2.out.mono ?_; rintro e w5 ⟨rfl, S5, hr5, hc5, _, hs5⟩)
  have HR5 : Hid (Ri w5 Y S5 k na fa) := by have := hr5.text (ty := fa) (fun j _ => apT_zero fa fa j); rw [Nat.zero_add] at this; exact this
  have HI5 := hidd (HI4.out.chg hc5 (fun b h e => (HS4.out b h).2 e))
  have HB5 := hidd (hc5.below HB4.out HB4.out.size (fun b e => by have := HYE.out; have := HB2.out.size; omega))
  have HS5 : Hid (∀ b, S5 b → w.heap.size ≤ b ∧ ¬ S4 b) := fun b h => by
    have := HYE.out
    have := HB2.out.size
    have := HB4.out.size
    rcases hs5 b h with e | h
    · exact ⟨by omega, fun h4 => (HS4.out b h4).2 e⟩
    · exact ⟨by omega, fun h4 => by have := HI4.out.low b h4; omega⟩
  have hs45 := hc5.size
  obtain ⟨ty, HTY⟩ : ∃ ty, Hid (ty = apT fa na fb) := ⟨_, rfl⟩
  obtain ⟨L1, HL1⟩ : ∃ L, Hid (L = plL ty k (na + nb)) := ⟨_, rfl⟩
  obtain ⟨L3, HL3⟩ : ∃ L, Hid (L = plL ty k (min (na + nb) nc.toNat)) := ⟨_, rfl⟩
  have HTH : Hid (Calls Try.prog 10 #[.pointer (some ⟨X, 0, none⟩), .slice bo nb cb, .int .i64 nc] w5 fun e w' => ∃ u1 c1 u2 c2 u3 c3, e = .returned (.tuple #[.slice u1 L1.length c1, .slice u2 (pkQ 2 L1).length c2, .slice u3 L3.length c3]) ∧ Own w' w5.heap.size 3 1 (.slice u1 L1.length c1) L1.length (qF L1) ∧ Own w' w5.heap.size 3 1 (.slice u2 (pkQ 2 L1).length c2) (pkQ 2 L1).length (qF (pkQ 2 L1)) ∧ Own w' w5.heap.size 3 1 (.slice u3 L3.length c3) L3.length (qF L3) ∧ Chg w5 w' S4) := by
    refine through_any (w := w5) (some ⟨X, 0, none⟩) bo nb cb nc L1 L3 S4 HI5.out.low (by rw [HL1.out]; have := plL_len ty k (na + nb); omega) (by rw [HL3.out]; have := plL_len ty k (min (na + nb) nc.toNat); omega) (fun w6 f6 => ?_)
    have f6w := HB5.out.trans (f6.mono HB5.out.size)
    refine (append_any (HI5.out.fresh f6) (HB.out.fresh f6w) (fun b o e h0 hs => by have := rda_low HB.out b o e h0; have := (HS4.out b hs).1; omega) HFB.out (by omega)).mono ?_
    rintro e w7 ⟨rfl, S7, A7, hi7, hc7, _, hs7, _⟩
    rw [← HTY.out] at hi7
    refine ⟨rfl, hc7, _, S7, by rw [HL1.out]; exact hi7.ps, hs7, fun w8 hc8 => ?_⟩
    refine (cut_any (hi7.chg hc8 (fun _ h hn => hn h)) nc).mono ?_
    rintro e w9 ⟨rfl, hi9, hc9⟩
    exact ⟨rfl, hc9, _, by rw [HL3.out]; exact hi9.ps⟩
  clear hr5 hc5 hs5 HA2 HI4 HR4
  go_wp2_with (go_at_call 10; with_reducible refine HTH.out.mono ?_; rintro e w6 ⟨u1, c1, u2, c2, u3, c3, rfl, o1, o2, o3, hc6⟩)
  have HR6 := hidd (HR5.out.chg hc6 (fun b h h4 => (HS5.out b h).2 h4))
  have HB6 := hidd (hc6.below HB5.out HB5.out.size (fun b h => (HS4.out b h).1))
  have hs56 := hc6.size
  have HK1 := hidd o1.lt
  have HK2 := hidd o2.lt
  have HK3 := hidd o3.lt
  have HO1 := hidd o1
  have HO2 := hidd o2
  have HO3 := hidd o3
  have HS5l : Hid (∀ b, S5 b → b < w5.heap.size) := HR5.out.low
  have HA3 := hidd (rappend_any HR6.out (HB.out.fresh HB6.out) (fun b o e h0 hs => by have := rda_low HB.out b o e h0; have := (HS5.out b hs).1; omega) (by omega))
  rw [← HTY.out] at HA3
  clear o1 o2 o3 hc6 HTH HI5 HR5
  go_wp2_with (go_at_call 9; with_reducible refine HA3.out.mono ?_; rintro e w7 ⟨rfl, S7, hr7, hc7, _, hs7⟩)
  have HR7 := hidd hr7
  have hs67 := hc7.size
  have HB7 := hidd (hc7.below HB6.out HB6.out.size (fun b h => (HS5.out b h).1))
  have HO1b := hidd (Own.off_ hc7 HO1.out (fun b h1 h2 hs => by have := HS5l.out b hs; omega))
  have HO2b := hidd (Own.off_ hc7 HO2.out (fun b h1 h2 hs => by have := HS5l.out b hs; omega))
  have HO3b := hidd (Own.off_ hc7 HO3.out (fun b h1 h2 hs => by have := HS5l.out b hs; omega))
  have HS7 : Hid (∀ b, S7 b → w.heap.size ≤ b ∧ (b < w5.heap.size ∨ w6.heap.size ≤ b) ∧ b < w7.heap.size) := fun b h => by
    have h9 := hr7.low b h
    have := HB6.out.size
    rcases hs7 b h with e | h
    · have := HS5l.out b e
      exact ⟨(HS5.out b e).1, .inl this, h9⟩
    · exact ⟨by omega, .inr h, h9⟩
  have HP1 := hidd (rplaces_any HR7.out hk (by omega))
  rw [← HL1.out] at HP1
  clear hr7 hc7 hs7 HA3 HR6 HO1 HO2 HO3
  go_wp2_with (go_at_call 11; with_reducible refine HP1.out.mono ?_; rintro e w8 ⟨u4, c4, rfl, o4, hb8⟩)
  have HR8 := hidd (HR7.out.fresh hb8)
  have HB8 := hidd (HB7.out.trans (hb8.mono HB7.out.size))
  have hs78 := hb8.size
  have HO1c := hidd (HO1b.out.kept hb8)
  have HO2c := hidd (HO2b.out.kept hb8)
  have HO3c := hidd (HO3b.out.kept hb8)
  have HO4 := hidd o4
  have HCT := hidd (rcut_any HR8.out nc (by omega))
  clear o4 hb8 HP1 HR7
  go_wp2_with (go_at_call 12; with_reducible refine HCT.out.mono ?_; rintro e w9 ⟨rfl, S9, hr9, hc9, _, hs9⟩)
  have HR9 := hidd hr9
  have hs89 := hc9.size
  have HB9 := hidd (hc9.below HB8.out HB8.out.size (fun b h => (HS7.out b h).1))
  have N1 := hidd (Own.chg hc9 HO1c.out (fun b hb hs => by have := HK1.out b hb; have := (HS7.out b hs).2.1; omega))
  have N2 := hidd (Own.chg hc9 HO2c.out (fun b hb hs => by have := HK2.out b hb; have := (HS7.out b hs).2.1; omega))
  have N3 := hidd (Own.chg hc9 HO3c.out (fun b hb hs => by have := HK3.out b hb; have := (HS7.out b hs).2.1; omega))
  have N4 := hidd (Own.chg hc9 HO4.out (fun b hb hs => by have := (HO4.out.lt b hb).1; have := (HS7.out b hs).2.2; omega))
  have HP2 := hidd (rplaces_any HR9.out hk (by omega))
  rw [← HL3.out] at HP2
  clear hr9 hc9 hs9 HCT HR8 HO1c HO2c HO3c HO4 HO1b HO2b HO3b HK1 HK2 HK3
  go_wp2_with (go_at_call 11; with_reducible refine HP2.out.mono ?_; rintro e w10 ⟨u5, c5, rfl, o5, hb10⟩)
  have HB10 := hidd (HB9.out.trans (hb10.mono HB9.out.size))
  have M1 := hidd (own_rda (N1.out.kept hb10))
  have M2 := hidd (own_rda (N2.out.kept hb10))
  have M3 := hidd (own_rda (N3.out.kept hb10))
  have M4 := hidd (own_rda (N4.out.kept hb10))
  have M5 := hidd (own_rda o5)
  have HE1 := hidd (eqInts_same M1.out M4.out)
  clear hb10 o5 HP2 HR9 N1 N2 N3 N4
  go_wp2_with (go_at_call 13; with_reducible refine HE1.out.mono ?_; rintro e w11 ⟨rfl, hb11⟩; have HB11 := hidd (HB10.out.trans (hb11.mono HB10.out.size)); have T2 := hidd (M2.out.fresh hb11); have T3 := hidd (M3.out.fresh hb11); have T5 := hidd (M5.out.fresh hb11); have HFI := hidd (first2_any (M4.out.fresh hb11)); clear hb11 HE1)
  go_wp2_with (go_at_call 14; with_reducible refine HFI.out.mono ?_; rintro e w99 ⟨c', rfl, hr9, h9⟩; rw [h9]; clear h9 w99; have HE2 := hidd (eqInts_same T2.out hr9); clear hr9 HFI)
  go_wp2_with (go_at_call 13; with_reducible refine HE2.out.mono ?_; rintro e w12 ⟨rfl, hb12⟩; have HB12 := hidd (HB11.out.trans (hb12.mono HB11.out.size)); have HE3 := hidd (eqInts_same (T3.out.fresh hb12) (T5.out.fresh hb12)); clear hb12 HE2)
  go_wp2_with (go_at_call 13; with_reducible refine HE3.out.mono ?_; rintro e w13 ⟨rfl, hb13⟩; have HB13 := hidd (HB12.out.trans (hb13.mono HB12.out.size)); clear hb13)
  go_ret
  exact ⟨rfl, HB13.out⟩
end Go.Proofs.Ytbpldnlafilbbab
