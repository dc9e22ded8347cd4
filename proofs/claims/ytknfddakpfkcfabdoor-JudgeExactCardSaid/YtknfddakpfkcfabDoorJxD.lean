import Derived.Test.YtknfddakpfkcfabDoorJxC
namespace Go.Proofs.YtknfddakpfkcfabDoor
open Go.RowKit
/-! The law JudgeExact. -/
noncomputable def stp (n : Nat) (P T C : Nat → Int) (i : Nat) : Bool := decide (0 < i ∧ C (wyF n P T C (i - 1)) = 0)
set_option maxRecDepth 20000 in
set_option maxHeartbeats 8000000 in
theorem exact_law {w : World} {bo co : Option Addr} {cb cc nr seed : Nat} {K : List Int} {R : List (Int × Int)} {size most : Int} (hK : RdA w bo 1 K.length cb (lF K)) (hk : K.length * 8 ≤ 140737488351232) (hR : RdA w co 2 nr cc (rwF R)) (hd : Dw.Holds w) (hs : seed < 18446744073709551616)
    (hwk : ∀ w1, Calls Tryd.prog 4 #[] w1 fun e w' => e = .returned (.bool true) ∧ Below w1.heap.size w1 w') :
    Calls Tryd.prog 3 #[.int .u64 (seed : Int), .int .i64 size, .slice bo K.length cb, .slice co nr cc, .int .i64 most] w fun e w' => e = .returned (.bool true) ∧ Below w.heap.size w w' := by
  have K1 := hidd (hwk w)
  have HFEW : Hid (∀ w1, Calls Tryd.prog 5 #[.int .i64 size] w1 fun e w' => (∃ v : Nat, 2 ≤ v ∧ v ≤ 9 ∧ e = .returned (.int .i64 (v : Int))) ∧ w' = w1) := fun w1 => few_any w1 size
  have HK := hidd hK
  have HR := hidd hR
  have HD := hidd hd
  obtain ⟨q, HQ⟩ : ∃ q, Hid (q = K.length) := ⟨_, rfl⟩
  rw [← HQ.out] at hk HK ⊢
  clear hK hR hd hwk
  by_cases hn : 96 < nr
  · go_enter Tryd.func3, Tryd.ntmps3
    go_wp2_with (first
      | (go_at_call 4; with_reducible refine K1.out.mono ?_; rintro e w1 ⟨rfl, hb⟩; have B1 := hidd hb; clear K1 hb)
      | (go_at_call 5; with_reducible refine (HFEW.out _).mono ?_; rintro e w9 ⟨⟨v, v2, v9, rfl⟩, hw⟩; rw [hw]; clear hw w9; have K2 := hidd (rclean_bad (root := 3) (v := (v : Int)) hn (HR.out.fresh B1.out)))
      | (go_at_call 6; with_reducible refine K2.out.mono ?_; rintro e w9 ⟨rfl, hw⟩; rw [hw]; clear hw w9 K2))
    go_ret
    exact ⟨rfl, B1.out⟩
  have KC : Hid (∀ (w1 : World) (v : Nat), Below w.heap.size w w1 → Calls Tryd.prog 6 #[.int .i64 3, .slice co nr cc, .int .i64 (v : Int)] w1 fun e w' => ∃ m u c P T D, okT m P T D ∧ e = .returned (.tuple #[.slice u m c, .int .i64 0]) ∧ Own w' w1.heap.size 42 3 (.slice u m c) m (nds P T D) ∧ Below w1.heap.size w1 w') := fun w1 v f1 => (rclean_ok (root := 3) (v := (v : Int)) (show nr ≤ 96 by omega) (HR.out.fresh f1)).mono (fun e w' q => by
    obtain ⟨u, c, e1, o, b⟩ := q
    exact ⟨_, u, c, _, _, _, rc_ok (wsD_ok _ _ _ nr nr) (by omega) (by omega) (by omega) (by omega), e1, o, b⟩)
  by_cases hmost : most < 1
  · have d1 : decide (most < 1) = true := decide_eq_true hmost
    go_enter Tryd.func3, Tryd.ntmps3
    go_wp2_with (first
      | (go_at_call 4; with_reducible refine K1.out.mono ?_; rintro e w1 ⟨rfl, hb⟩; have B1 := hidd hb; clear K1 hb)
      | (go_at_call 5; with_reducible refine (HFEW.out _).mono ?_; rintro e w9 ⟨⟨v, v2, v9, rfl⟩, hw⟩; rw [hw]; clear hw w9; have K2 := hidd (KC.out w1 v B1.out))
      | (go_at_call 6; with_reducible refine K2.out.mono ?_; rintro e w3 ⟨n, u, c, P, T, D, ht, rfl, ho, hb⟩; have B3 := hidd (B1.out.trans (hb.mono B1.out.size)); clear K2 hb ho ht))
    go_ret
    exact ⟨rfl, B3.out⟩
  have d1 : decide (most < 1) = false := decide_eq_false hmost
  go_enter Tryd.func3, Tryd.ntmps3
  go_upto_region 7 with (first
    | (go_at_call 4; with_reducible refine K1.out.mono ?_; rintro e w1 ⟨rfl, hb⟩; have B1 := hidd hb; clear K1 hb)
    | (go_at_call 5; with_reducible refine (HFEW.out _).mono ?_; rintro e w9 ⟨⟨v, v2, v9, rfl⟩, hw⟩; rw [hw]; clear hw w9; have K2 := hidd (KC.out w1 v B1.out))
    | (go_at_call 6; with_reducible refine K2.out.mono ?_; rintro e w3 ⟨n, u, c, P, T, D, ht, rfl, ho, hb⟩; have HT := hidd ht; have HRT := hidd (own_rda ho); have B3 := hidd (B1.out.trans (hb.mono B1.out.size)); clear K2 hb ho ht))
  have hn1 := HT.out.1
  have hn2 := HT.out.2.1
  obtain ⟨C, HC⟩ : ∃ C : Nat → Int, Hid (∀ i, C i = ((chL seed v (K ++ tkN P T i) : Nat) : Int)) := ⟨fun i => ((chL seed v (K ++ tkN P T i) : Nat) : Int), fun _ => rfl⟩
  have HK3 := hidd (HK.out.fresh B3.out)
  have HD3 := hidd (HD.out.low B3.out)
  clear KC HFEW HK HR HD
  go_wp2
  go_loopw [15, 16] (fun vl vi wr => ∃ k : Nat, k ≤ n ∧ vi = .int .i64 (k : Int) ∧ Hid (Own wr w3.heap.size 3 1 vl k (fun i => .int .i64 (C i))) ∧ Hid (Below w3.heap.size w3 wr)) (fun _ vi _ => n - (intOf vi).toNat)
  case atStart => exact ⟨0, by omega, rfl, own_nil _ _ _ _ _, Below.refl _ _⟩
  case round =>
    obtain ⟨k, hk1, rfl, HO, HF⟩ := hrel
    have hsz := HF.out.size
    by_cases hlt : k < n
    · obtain ⟨L, HL⟩ : ∃ L, Hid (L = K ++ tkN P T k) := ⟨_, rfl⟩
      have HBE : Hid (Calls Tryd.prog 8 #[.slice bo q cb, .slice u n c, .int .i64 (k : Int)] wr fun e w' => ∃ u c, e = .returned (.slice u L.length c) ∧ Own w' wr.heap.size 3 1 (.slice u L.length c) L.length (lF L) ∧ Below wr.heap.size wr w') := by
        rw [HL.out]
        have h1 := HK3.out.fresh HF.out
        rw [HQ.out] at h1 ⊢
        exact behind_any h1 (by rw [← HQ.out]; exact hk) (HRT.out.fresh HF.out) HT.out hlt
      have HCK : Hid (((chL seed v L : Nat) : Int) = C k) := by show _ = _; rw [HC.out k, HL.out]
      have HX : Hid (∀ (w0 : World) (t : TypeId), (w0.alloc (.cells #[.int .i64 (C k)] t)).cell? ⟨w0.heap.size, 0, none⟩ = some ((fun j => Value.int .i64 (C j)) k)) := fun w0 t => new_cell _ _ _
      go_wp2_with (first
        | (go_at_call 8; with_reducible refine HBE.out.mono ?_; rintro e w4 ⟨u4, c4, rfl, ho4, hb4⟩; have HCH := hidd (chooses_any (own_rda ho4) ((HD3.out.low HF.out).low hb4) hs v2 v9); rw [HCK.out] at HCH; have HF4 := hidd (HF.out.trans (hb4.mono HF.out.size)); have HO4 := hidd (HO.out.kept hb4); clear hb4 ho4 HBE)
        | (go_at_call 7; with_reducible refine HCH.out.mono ?_; rintro e w5 ⟨rfl, hb5⟩; have HF5 := hidd (HF4.out.trans (hb5.mono HF4.out.size)); have HO5 := hidd (HO4.out.kept hb5); have hsz5 := HF5.out.size; clear hb5 HCH)
        | (at_builtin; refine wpList_app1 _ rfl _ _ 23 rfl w3.heap.size 3 (.int .i64 0) 8 Tryd.underlying23 infoI rfl _ k (fun j => .int .i64 (C j)) rfl (HO5.out.kept (fresh_alloc _ _)) _ 1 rfl (HX.out _ _) rfl (by omega) (by omega) (by simp; omega) ?_))
      intro v' w6 hown' happ
      have HF6 := hidd (happ.below (HF5.out.alloc hsz5 _) (HO5.out.kept (fresh_alloc _ _)) (Nat.le_refl _) (by simp; omega))
      clear happ
      go_wp2
      go_roundw
      case rel => exact ⟨k + 1, by omega, by go_num, hown', HF6⟩
      case measure => simp [intOf]; omega
    · obtain rfl : k = n := by omega
      obtain ⟨ul, cl, rfl, hrl⟩ := own_sl HO.out
      have HWK := hidd (walk_any (HRT.out.fresh HF.out) hrl)
      rename World => wL
      have HFL := HF
      clear HF HO hrl hsz hlt hk1
      go_upto_region 16 with (first
        | (go_at_call 9; with_reducible refine HWK.out.mono ?_; rintro e w5 ⟨vw, m, x, er, rfl, hw⟩; obtain ⟨hwe, hx, rfl⟩ := hw.ok HT.out rfl; obtain ⟨uw, cw, rfl, hrw⟩ := own_sl hw.own; have HWE := hidd hwe; have HFW := hidd (HFL.out.trans (hw.low.mono HFL.out.size)); have HTK := hidd (take_any (most := most) (next := x) ((HRT.out.fresh HFL.out).fresh hw.low) hrw); have HX := hidd hx; clear hw hwe hx hrw HWK)
        | (go_at_call 10; with_reducible refine HTK.out.mono ?_; rintro e w6 k6; obtain ⟨vk, r, ov, er, rfl, hk6⟩ := k6.out2; clear k6; obtain ⟨htk, rfl⟩ := hk6.ok HT.out HWE.out.isW (by omega); obtain ⟨ut, ct, rfl, hrt⟩ := own_sl hk6.own; have HTE := hidd htk; have HRL := hidd hrt; have HF6 := hidd (HFW.out.trans (hk6.low.mono HFW.out.size)); have hr0 : ¬ (r : Int) = 0 := (by have := htk.pos; omega); clear htk hrt hk6 HTK))
      have hr1 := HTE.out.pos
      have hr2 := HTE.out.le
      have hm1 := HWE.out.pos
      have hm2 := HWE.out.p.len
      have HK6 := hidd (HK3.out.fresh HF6.out)
      have HD6 := hidd (HD3.out.low HF6.out)
      have HRT6 := hidd (HRT.out.fresh HF6.out)
      have HCP := hidd (copyI_any (f := fun j => K.getD j 0) HK6.out (by omega))
      have HUP : Hid (∀ i, i < m → ((chL seed v (K ++ upT k P T C i) : Nat) : Int) = C (wyF k P T C i)) := fun i hi => by rw [HC.out, tk_way HT.out HWE.out i hi]
      have HLC : Hid (∀ i, i < r → btC T (fun j => ((wyF k P T C j : Nat) : Int)) x m i = .int .i64 (C (wyF k P T C i))) := fun i hi => by
        unfold btC
        rw [HX.out, bt_way HWE.out (by omega)]
      have HNO : Hid (∀ i, i < r → stp k P T C i = false) := fun i hi => by
        unfold stp
        refine decide_eq_false (fun h => ?_)
        have h1 := (HTE.out.no (i - 1) (by omega)).1
        rw [HX.out, bt_way HWE.out (by omega)] at h1
        exact h1 h.2
      have HLAST : Hid (∀ y : Int, y = min (((min r (m - 1) : Nat) : Int) + 1) most → (r : Int) ≤ y ∧ ((r : Int) < y → stp k P T C r = true) ∧ (ov = true ↔ (stp k P T C r = true ∨ (r : Int) = most))) := fun y hy => by
        have h := last_of HTE.out (by omega) hy
        rw [HX.out, bt_way HWE.out (by omega)] at h
        have e : (stp k P T C r = true) ↔ C (wyF k P T C (r - 1)) = 0 := by
          unfold stp
          rw [decide_eq_true_iff]
          exact ⟨fun q => q.2, fun q => ⟨by omega, q⟩⟩
        rw [e]
        exact h
      go_upto_region 17 with (go_at_call 11; with_reducible refine HCP.out.mono ?_; rintro e w7 ⟨u7, c7, rfl, ho7, hb7⟩; have HO7 := hidd ho7; have HF7 := hidd hb7; clear ho7 hb7 HCP)
      clear HTE HX HFW HFL HRT HK3 HD3
      go_wp2
      go_loopw [24, 25, 26, 27, 28] (fun vt vr va vs vi wr => ∃ (i ρ α : Nat) (sb : Bool), i ≤ r ∧ vi = .int .i64 (i : Int) ∧ vr = .int .i64 (ρ : Int) ∧ va = .int .i64 (α : Int) ∧ vs = .bool sb ∧ Hid (ρ = min i (m - 1)) ∧ Hid (α = wyF k P T C ρ) ∧ Hid (sb = stp k P T C i) ∧ Hid (Own wr w6.heap.size 3 1 vt (q + i) (lF (K ++ upT k P T C i))) ∧ Hid (Below w6.heap.size w6 wr)) (fun _ _ _ _ vi _ => r - (intOf vi).toNat)
      case atStart => exact ⟨0, 0, 0, false, by omega, rfl, rfl, rfl, rfl, by show _ = _; omega, rfl, rfl, by rw [show upT k P T C 0 = [] from rfl, List.append_nil]; exact HO7, HF7⟩
      case round =>
        obtain ⟨i, ρ, α, sb, hi, rfl, rfl, rfl, rfl, HRH, HAL, HSB, HO, HF⟩ := hrel
        have hsz := HF.out.size
        by_cases hlt : i < r
        · obtain rfl : ρ = i := by have := HRH.out; omega
          obtain rfl : sb = false := by rw [HSB.out]; exact HNO.out ρ hlt
          obtain ⟨y, HY⟩ : ∃ y, Hid (y = C (wyF k P T C ρ)) := ⟨_, rfl⟩
          obtain ⟨L, HL⟩ : ∃ L, Hid (L = K ++ upT k P T C ρ) := ⟨_, rfl⟩
          have HLL : Hid (L.length = q + ρ) := by show _ = _; rw [HL.out, List.length_append, upT_len, HQ.out]
          rw [← HL.out] at HO
          have HNX : Hid (K ++ upT k P T C (ρ + 1) = L ++ [y]) := by show _ = _; rw [upT_succ, ← List.append_assoc, ← HL.out, ← HY.out]
          obtain ⟨ua, uc, rfl, hr⟩ := own_sl HO.out
          have HCH : Hid (Calls Tryd.prog 7 #[.int .u64 (seed : Int), .int .i64 (v : Int), .slice ua (q + ρ) uc] wr fun e w' => e = .returned (.int .i64 y) ∧ Below wr.heap.size wr w') := by
            rw [← HLL.out] at hr ⊢
            have h1 := chooses_any hr (HD6.out.low HF.out) hs v2 v9
            rw [show ((chL seed v L : Nat) : Int) = y by rw [HL.out, HY.out]; exact HUP.out ρ (by omega)] at h1
            exact h1
          obtain ⟨bl, ol, hu, hcl⟩ := (HRL.out.fresh HF.out).one (by omega)
          have cl9 := hcl ρ hlt
          rw [HLC.out ρ hlt, ← HY.out] at cl9
          subst hu
          have g1 : (ρ : Int) < (r : Int) := by omega
          have HO2 : Hid (Own wr w6.heap.size 3 1 (.slice ua (q + ρ) uc) (q + ρ) (lF (L ++ [y]))) := HO.out.congr (fun j hj => (lF_app L [y] (by rw [HLL.out]; omega)).symm)
          have HXN : Hid (∀ (w0 : World) (t : TypeId), (w0.alloc (.cells #[.int .i64 y] t)).cell? ⟨w0.heap.size, 0, none⟩ = some (lF (L ++ [y]) (q + ρ))) := fun w0 t => by rw [← HLL.out, lF_at]; exact new_cell _ _ _
          have HONE : Hid ((lF (L ++ [y]) (q + ρ)).oneCell' = true) := rfl
          have HKID : Hid (∀ w1, Below w6.heap.size w6 w1 → Calls Tryd.prog 12 #[.slice u k c, .int .i64 (α : Int), .int .i64 y] w1 fun e w' => (∃ z : Nat, e = .returned (.int .i64 (z : Int)) ∧ ((z = 0 ∧ ρ + 1 = m) ∨ (1 ≤ z ∧ ρ + 1 < m ∧ z = wyF k P T C (ρ + 1)))) ∧ Below w1.heap.size w1 w') := fun w1 h1 => (kid_any (HRT6.out.fresh h1) HT.out α y).mono (fun e w' hh => by
            obtain ⟨⟨z, e1, hz⟩, hb⟩ := hh
            rw [HAL.out, HY.out] at hz
            exact ⟨⟨z, e1, kid_way HT.out HWE.out (by omega) hz⟩, hb⟩)
          have HST : Hid (∀ b : Bool, (b = true ↔ y = 0) → b = stp k P T C (ρ + 1)) := fun b hb => by
            unfold stp
            rw [Nat.add_sub_cancel, ← HY.out]
            cases b with
            | true => exact (decide_eq_true ⟨by omega, hb.1 rfl⟩).symm
            | false => exact (decide_eq_false (fun q => absurd (hb.2 q.2) (by simp))).symm
          clear hr hcl
          go_wp2_with (first
            | (go_at_call 7; with_reducible refine HCH.out.mono ?_; rintro e w8 ⟨rfl, hb8⟩; have HF8 := hidd (HF.out.trans (hb8.mono HF.out.size)); have HO8 := hidd (HO2.out.kept hb8); have cl8 := fresh_cell hb8 cl9; have hsz8 := HF8.out.size; clear hb8 HCH cl9)
            | (at_builtin; refine wpList_app1 _ rfl _ _ 23 rfl w6.heap.size 3 (.int .i64 0) 8 Tryd.underlying23 infoI rfl _ (q + ρ) (lF (L ++ [y])) rfl (HO8.out.kept (fresh_alloc _ _)) _ 1 rfl (HXN.out _ _) HONE.out (by omega) (by omega) (by simp; omega) ?_))
          intro v' w10 hown' happ
          have HF10 := hidd (happ.below (HF8.out.alloc hsz8 _) (HO8.out.kept (fresh_alloc _ _)) (Nat.le_refl _) (by simp; omega))
          have HO10 := hidd hown'
          clear happ hown' cl8
          go_upto_region 29 with (go_at_call 12; with_reducible refine (HKID.out _ HF10.out).mono ?_; rintro e w11 ⟨⟨z, rfl, hz⟩, hb11⟩; have HF11 := hidd (HF10.out.trans (hb11.mono HF10.out.size)); have HO11 := hidd (HO10.out.kept hb11); clear hb11 HKID)
          rcases hz with ⟨rfl, hz⟩ | ⟨h1, h2, hz⟩
          · go_wp2
            go_roundw
            case rel => exact ⟨ρ + 1, ρ, α, _, by omega, by go_num, rfl, rfl, rfl, by show _ = _; omega, HAL, HST.out _ (by simp), by rw [HNX.out]; exact HO11, HF11⟩
            case measure => simp [intOf]; omega
          · have HZ := hidd hz
            clear hz
            have g2 : decide ((0 : Int) < (z : Int)) = true := decide_eq_true (by omega)
            have g3 : decide (0 < z) = true := decide_eq_true (by omega)
            go_wp2
            go_roundw
            case rel => exact ⟨ρ + 1, ρ + 1, z, _, by omega, by go_num, by go_num, rfl, rfl, by show _ = _; omega, HZ, HST.out _ (by simp), by rw [HNX.out]; exact HO11, HF11⟩
            case measure => simp [intOf]; omega
        · obtain rfl : i = r := by omega
          obtain ⟨x9, HX9⟩ : ∃ x, Hid (x = min ((ρ : Int) + 1) most) := ⟨_, rfl⟩
          obtain ⟨l1, l2, l3⟩ := HLAST.out x9 (by rw [HX9.out, HRH.out])
          rw [← HSB.out] at l2 l3
          have HLE := hidd (least_any wr ((ρ : Int) + 1) most HX9.out)
          have hρ : ρ ≤ 32 := by have := HRH.out; omega
          have q1 : IntKind.i64.wrap ((ρ : Int) + 1) = (ρ : Int) + 1 := by rw [IntKind.wrap_i64]; omega
          have HTOT : Hid (Below w.heap.size w wr) := (B3.out.trans (HF6.out.mono B3.out.size)).trans (HF.out.mono (Nat.le_trans B3.out.size HF6.out.size))
          have HL2 := hidd l2
          have HL3 := hidd l3
          clear l2 l3 HLAST HSB HO
          by_cases e1 : (i : Int) = x9
          · subst e1
            cases sb with
            | true =>
              obtain rfl : ov = true := HL3.out.2 (.inl rfl)
              go_wp2_with (go_at_call 13; with_reducible refine HLE.out.mono ?_; rintro e w9 ⟨rfl, hw⟩; rw [hw]; clear hw w9)
              go_ret
              exact ⟨rfl, HTOT.out⟩
            | false =>
              by_cases e3 : (i : Int) = most
              · obtain rfl : ov = true := HL3.out.2 (.inr e3)
                have d3 : decide ((i : Int) = most) = true := decide_eq_true e3
                go_wp2_with (go_at_call 13; with_reducible refine HLE.out.mono ?_; rintro e w9 ⟨rfl, hw⟩; rw [hw]; clear hw w9)
                go_ret
                exact ⟨rfl, HTOT.out⟩
              · obtain rfl : ov = false := by
                  cases ov with
                  | false => rfl
                  | true => exact absurd (HL3.out.1 rfl) (by rintro (h | h); exact absurd h (by simp); exact e3 h)
                have d3 : decide ((i : Int) = most) = false := decide_eq_false e3
                go_wp2_with (go_at_call 13; with_reducible refine HLE.out.mono ?_; rintro e w9 ⟨rfl, hw⟩; rw [hw]; clear hw w9)
                go_ret
                exact ⟨ret_bool (by simpa using e3), HTOT.out⟩
          · have e2 : (i : Int) < x9 := by omega
            obtain rfl : sb = true := HL2.out e2
            obtain rfl : ov = true := HL3.out.2 (.inl rfl)
            have d2 : decide ((i : Int) < x9) = true := decide_eq_true e2
            have d1 : decide ((i : Int) = x9) = false := decide_eq_false e1
            go_wp2_with (go_at_call 13; with_reducible refine HLE.out.mono ?_; rintro e w9 ⟨rfl, hw⟩; rw [hw]; clear hw w9)
            go_ret
            exact ⟨rfl, HTOT.out⟩
end Go.Proofs.YtknfddakpfkcfabDoor
