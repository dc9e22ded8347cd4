import Derived.Test.YtakekdbclmgeoabCqI
import Derived.Test.YtakekdbclmgeoabHeld
import Derived.Deep.RegionLaw
namespace Go.Proofs.Ytakekdbclmgeoab
open Go.RowKit
/-! TreeSound. -/
set_option maxRecDepth 20000 in
set_option maxHeartbeats 4000000 in
theorem sound_law {w : World} {ao : Option Addr} {cap : Nat} {R : List (Int × Int)} {root v : Int} (h : RdA w ao 2 R.length cap (rwF R)) (hn : R.length * 16 ≤ 140737488351232) (hv : fits v) :
    Calls Try.prog 4 #[.int .i64 root, .slice ao R.length cap, .int .i64 v] w fun e w' => e = .returned (.bool true) ∧ Below w.heap.size w w' := by
  have HH := hidd h
  have K1 := hidd (lives_any w)
  have KC : Hid (∀ w1, Below w.heap.size w w1 → Calls Try.prog 13 #[.slice ao R.length cap] w1 fun e w' => ∃ u uc, e = .returned (.slice u R.length uc) ∧ RdA w' u 2 R.length uc (rwF R) ∧ Below w1.heap.size w1 w') := fun w1 f1 => (copyR_big (HH.out.fresh f1) hn).mono (fun e w' q => by
    obtain ⟨u, uc, e1, o, b⟩ := q
    exact ⟨u, uc, e1, own_rda o, b⟩)
  clear h
  obtain ⟨n, HN⟩ : ∃ n, Hid (n = R.length) := ⟨_, rfl⟩
  have hn9 : R.length ≤ 17592186043904 := by omega
  by_cases hb : 96 < R.length
  · rw [← HN.out] at HH KC hb hn hn9 ⊢
    have d1 : decide ((96 : Int) < (n : Int)) = true := decide_eq_true (by omega)
    have d2 : decide (96 < n) = true := decide_eq_true hb
    go_enter Try.func4, Try.ntmps4
    go_wp2_with (first
      | (go_at_call 12; with_reducible refine K1.out.mono ?_; rintro e w1 ⟨rfl, hb1⟩; have B1 := hidd hb1; have K2 := hidd (KC.out w1 hb1); clear K1 hb1)
      | (go_at_call 13; with_reducible refine K2.out.mono ?_; rintro e w2 ⟨u, uc, rfl, hr, hb2⟩; have B2 := hidd (B1.out.trans (hb2.mono B1.out.size)); have K3 := hidd (clean_bad (w := w2) (ao := u) (cap := uc) root v hb); clear K2 hb2 hr)
      | (go_at_call 8; with_reducible refine K3.out.mono ?_; rintro e w3 ⟨rfl, hb3⟩; have B3 := hidd (B2.out.trans (hb3.mono B2.out.size)); clear K3 hb3))
    go_ret
    exact ⟨rfl, B3.out⟩
  have KL : Hid (∀ w1 u uc, RdA w1 u 2 R.length uc (rwF R) → ∀ WS, WS = wsOf R v → ∀ m, m = min 32 (WS.length + 1) → Calls Try.prog 8 #[.int .i64 root, .slice u R.length uc, .int .i64 v] w1 fun e w' => ∃ u c, e = .returned (.tuple #[.slice u m c, .int .i64 0]) ∧ Own w' w1.heap.size 35 3 (.slice u m c) m (nds (rcP WS) (rcT root WS) (rcD WS)) ∧ Below w1.heap.size w1 w') := fun w1 u uc hr WS hW m hm => clean_rc hr (by omega) hv hW hm
  have KW : Hid (∀ w1, Below w.heap.size w w1 → Calls Try.prog 17 #[.slice ao R.length cap, .int .i64 v] w1 (WtA (wsOf R v) w1)) := fun w1 f1 => (ways_any (v := v) (show R.length ≤ 96 by omega) (HH.out.fresh f1)).mono (fun e w' q => q)
  have HOKW := hidd (wsD_ok (rP R) (rT R) v R.length R.length)
  have hR96 : R.length ≤ 96 := by omega
  have hwl := wsD_le (rP R) (rT R) v R.length R.length
  have hwl2 : R.length * R.length ≤ 96 * 96 := Nat.mul_le_mul hR96 hR96
  obtain ⟨WS, HWS⟩ : ∃ x, Hid (x = wsOf R v) := ⟨_, rfl⟩
  have hwl3 : WS.length ≤ 9216 := by rw [HWS.out]; show (wsD _ _ _ _ _).length ≤ _; omega
  have HOKW : Hid (WsOk (rP R) (rT R) v R.length (R.length + 1) WS) := by rw [HWS.out]; exact HOKW.out
  rw [← HWS.out] at KW
  obtain ⟨m, HM⟩ : ∃ m, Hid (m = min 32 (WS.length + 1)) := ⟨_, rfl⟩
  have hm1 : 1 ≤ m := by have := HM.out; omega
  have hm2 : m ≤ 32 := by have := HM.out; omega
  have hm3 : m ≤ WS.length + 1 := by have := HM.out; omega
  have HOT := hidd (rc_ok (root := root) HOKW.out hR96 hm1 hm2 hm3)
  have HTKW : Hid (∀ L ∈ tkW (rcP WS) (rcT root WS) (m - 1), L ∈ WS) := fun L hL => by
    obtain ⟨i, hi, e⟩ := List.mem_map.1 hL
    have hi := List.mem_range.1 hi
    rw [← e]
    show tkL _ _ (i + 1) ∈ WS
    rw [tk_ws HOKW.out hR96 hm1 hm2 hm3 i (by omega), wAt_lt (by omega)]
    exact List.getElem_mem _
  have HAG : Hid (wsOf (agL root WS (m - 1)) v = wsT WS (m - 1)) := agL_ws HOKW.out (by omega)
  have HRC := hidd (again_rc (root := root) (k := m - 1) HOKW.out (by omega))
  have KL1 : Hid (∀ w1 u uc, RdA w1 u 2 R.length uc (rwF R) → Calls Try.prog 8 #[.int .i64 root, .slice u R.length uc, .int .i64 v] w1 fun e w' => ∃ u c, e = .returned (.tuple #[.slice u m c, .int .i64 0]) ∧ Own w' w1.heap.size 35 3 (.slice u m c) m (nds (rcP WS) (rcT root WS) (rcD WS)) ∧ Below w1.heap.size w1 w') := fun w1 u uc hr => KL.out w1 u uc hr WS HWS.out m HM.out
  have KL2 : Hid (∀ w1 u uc, RdA w1 u 2 (m - 1) uc (rwF (agL root WS (m - 1))) → Calls Try.prog 8 #[.int .i64 root, .slice u (m - 1) uc, .int .i64 v] w1 fun e w' => ∃ u c, e = .returned (.tuple #[.slice u m c, .int .i64 0]) ∧ RdA w' u 3 m c (nds (rcP WS) (rcT root WS) (rcD WS)) ∧ Below w1.heap.size w1 w') := fun w1 u uc hr => by
    have el := agL_len root WS (m - 1)
    have := clean_rc (root := root) (v := v) (w := w1) (ao := u) (cap := uc) (R := agL root WS (m - 1)) (by rw [el]; exact hr) (by rw [el]; omega) hv HAG.out.symm (m := m) (by rw [wsT_len]; omega)
    rw [el] at this
    refine this.mono (fun e w' q => ?_)
    obtain ⟨u2, c2, e1, o, b⟩ := q
    exact ⟨u2, c2, e1, (own_rda o).congr (fun j hj => nds_congr (n := m) (fun i hi => HRC.out i (by omega)) hj), b⟩
  clear KL hwl hwl2
  rw [← HN.out] at HH KC KL1 KW hb hn hn9 hR96 ⊢
  go_enter Try.func4, Try.ntmps4
  go_upto_region 3 with (first
    | (go_at_call 12; with_reducible refine K1.out.mono ?_; rintro e w1 ⟨rfl, hb1⟩; have B1 := hidd hb1; have K2 := hidd (KC.out w1 hb1); clear K1 hb1 KC)
    | (go_at_call 13; with_reducible refine K2.out.mono ?_; rintro e w2 ⟨u, uc, rfl, hr, hb2⟩; have B2 := hidd (B1.out.trans (hb2.mono B1.out.size)); have K3 := hidd (KL1.out w2 u uc hr); clear K2 hb2 hr KL1)
    | (go_at_call 8; with_reducible refine K3.out.mono ?_; rintro e w3 ⟨ut, ct, rfl, ho, hb3⟩; have B3 := hidd (B2.out.trans (hb3.mono B2.out.size)); have T3 := hidd (own_rda ho); clear K3 hb3 ho))
  have K4 := hidd (copyN_any T3.out (show m * 24 ≤ 140737488351232 by omega))
  obtain ⟨bT, oT, rfl, hcT⟩ := T3.out.node (by omega)
  have HCT := hidd hcT
  have HC0 : Hid (w3.cell? ⟨bT, oT + 1, none⟩ = some (.int .i64 root)) := by
    have := (hcT 0 (by omega)).2.1
    rw [Nat.zero_mul, Nat.add_zero] at this
    exact this
  clear hcT
  go_upto_region 5 with fail
  go_upto_region 7 with (first
    | (go_at_call 15; with_reducible refine K4.out.mono ?_; rintro e w4 ⟨u4, c4, rfl, ho, hb4⟩; have F4 := hidd hb4; have K5 := hidd (check_any (own_rda ho)); rw [erT_ok HOT.out] at K5; clear K4 hb4 ho)
    | (go_at_call 14; with_reducible refine K5.out.mono ?_; rintro e w5 ⟨rfl, hb5⟩; have F5 := hidd (F4.out.trans (hb5.mono F4.out.size)); have K6 := hidd (rcheck_any (T3.out.fresh F5.out)); rw [erT_ok HOT.out] at K6; clear K5 hb5)
    | (go_at_call 16; with_reducible refine K6.out.mono ?_; rintro e w6 ⟨rfl, hb6⟩; have F6 := hidd (F5.out.trans (hb6.mono F5.out.size)); have c1 := fresh_cell F6.out HC0.out; clear K6 hb6))
  have B6 := hidd (B3.out.trans (F6.out.mono B3.out.size))
  have T6 := hidd (T3.out.fresh F6.out)
  have K7 := hidd (KW.out w6 B6.out)
  clear c1 F4 F5 KW
  go_upto_region 8 with (go_at_call 17; with_reducible refine K7.out.mono ?_; rintro e w7 k7; obtain ⟨aW, cW, UW, KW, rfl, qW, hb7⟩ := k7.out; clear k7; have M7 := hidd qW; have F7 := hidd hb7; clear K7 qW hb7)
  have T7 := hidd (T6.out.fresh F7.out)
  have K8 := hidd (wayst_any HOT.out T7.out)
  obtain ⟨VS, HVS⟩ : ∃ x, Hid (x = tkW (rcP WS) (rcT root WS) (m - 1)) := ⟨_, rfl⟩
  have hvl : VS.length = m - 1 := by rw [HVS.out, tkW_len]
  have hvl2 : (VS.length : Int) = min (WS.length : Int) 31 := by have := HM.out; omega
  rw [← HVS.out] at K8 HTKW
  have HVL := hidd hvl
  have HVM := hidd hvl2
  clear hvl hvl2
  go_upto_region 9 with (go_at_call 18; with_reducible refine K8.out.mono ?_; rintro e w8 k8; obtain ⟨aV, cV, UV, KV, rfl, qV, hb8⟩ := k8.out; clear k8; have M8 := hidd qV; have F8 := hidd hb8; clear K8 qV hb8)
  have K9 := hidd (within_any M8.out (M7.out.kept F8.out) HTKW.out)
  have hmin := min2' (a := (WS.length : Int)) (b := 31) (m := (VS.length : Int)) HVM.out
  go_upto_region 11 with (go_at_call 19; with_reducible refine K9.out.mono ?_; rintro e w9 ⟨rfl, hb9⟩; have F9 := hidd hb9; clear K9 hb9)
  clear hmin
  have F39 := hidd (fresh_trans (fresh_trans (fresh_trans F6.out F7.out) F8.out) F9.out)
  have B9 := hidd (B3.out.trans (F39.out.mono B3.out.size))
  have HCT9 : Hid (∀ i, i < m → w9.cell? ⟨bT, oT + i * 3, none⟩ = some (.int .i64 (rcP WS i)) ∧ w9.cell? ⟨bT, oT + i * 3 + 1, none⟩ = some (.int .i64 (rcT root WS i))) := fun i hi => ⟨fresh_cell F39.out (HCT.out i hi).1, fresh_cell F39.out (HCT.out i hi).2.1⟩
  have T9 := hidd (T3.out.fresh F39.out)
  clear M7 M8 F6 F7 F8 F9 T3 T6 T7 HCT HVM B6 HTKW HC0 HWS HM F39
  go_wp2
  go_loopw [12, 13] (fun s12 s13 wr => ∃ k : Nat, k + 1 ≤ m ∧ s13 = .int .i64 ((k : Int) + 1) ∧ Hid (Own wr w9.heap.size 41 2 s12 k (rwF (agL root WS k))) ∧ Hid (Below w9.heap.size w9 wr)) (fun _ s13 _ => m - (intOf s13).toNat)
  case atStart => exact ⟨0, by omega, rfl, own_nil _ _ _ _ _, Below.refl _ _⟩
  case round =>
    obtain ⟨k, hk, rfl, HO, HF⟩ := hrel
    obtain ⟨u12, c12, rfl, _⟩ := own_sl HO.out
    by_cases hkm : k + 1 < m
    · have k0 : (0 : Int) ≤ (k : Int) + 1 := by omega
      have k1 : (k : Int) + 1 < (m : Int) := by omega
      have t1 := fresh_cell HF.out (HCT9.out (k + 1) hkm).1
      have t2 := fresh_cell HF.out (HCT9.out (k + 1) hkm).2
      obtain ⟨o1, o2, _⟩ := HOT.out.2.2.2.2 (k + 1) (by omega) hkm
      obtain ⟨pp, HPP⟩ : ∃ x, Hid (x = rcP WS (k + 1)) := ⟨_, rfl⟩
      obtain ⟨tt, HTT⟩ : ∃ x, Hid (x = rcT root WS (k + 1)) := ⟨_, rfl⟩
      rw [← HPP.out] at t1 o1 o2
      rw [← HTT.out] at t2
      obtain ⟨y, hy⟩ : ∃ y, pp - 1 = y := ⟨_, rfl⟩
      have y1 : -1 ≤ y := by omega
      have y2 : y ≤ 100 := by omega
      have hyw : IntKind.i64.wrap y = y := by rw [IntKind.wrap_i64]; omega
      obtain ⟨A, HA⟩ : ∃ x, Hid (x = agL root WS k) := ⟨_, rfl⟩
      have hAl : A.length = k := by rw [HA.out, agL_len]
      have HAN : Hid (agL root WS (k + 1) = A ++ [(y, tt)]) := by
        show _ = _
        rw [agL_succ, ← HA.out]
        show A ++ [(rcP WS (k + 1) - 1, rcT root WS (k + 1))] = _
        rw [← HPP.out, ← HTT.out, hy]
      rw [← HA.out] at HO
      have HO1 := hidd (HO.out.congr (cs' := rwF (A ++ [(y, tt)])) (fun j hj => rwF_app A (y, tt) j (by omega)))
      have hsz := HF.out.size
      have HOa : Hid (Own (wr.alloc (.cells #[.int .i64 y, .int .i64 tt] 41)).drew w9.heap.size 41 2 (.slice u12 k c12) k (rwF (A ++ [(y, tt)]))) := (HO1.out.kept (fresh_alloc _ _)).kept (Below.refl _ _).drew
      have HX : Hid ((wr.alloc (.cells #[.int .i64 y, .int .i64 tt] 41)).cell? ⟨wr.heap.size, 0, none⟩ = some (rwF (A ++ [(y, tt)]) (k * 2)) ∧ (wr.alloc (.cells #[.int .i64 y, .int .i64 tt] 41)).cell? ⟨wr.heap.size, 1, none⟩ = some (rwF (A ++ [(y, tt)]) (k * 2 + 1))) := by
        rw [← hAl, rwF_fst, rwF_snd]
        exact ⟨by simp, by simp⟩
      have HON : Hid ((rwF (A ++ [(y, tt)]) (k * 2)).oneCell' = true ∧ (rwF (A ++ [(y, tt)]) (k * 2 + 1)).oneCell' = true) := ⟨rwF_one _ _, rwF_one _ _⟩
      have HFN : Hid (∀ (w9' : World) (g' cap' : Nat), App (wr.alloc (.cells #[.int .i64 y, .int .i64 tt] 41)).drew w9' (.slice u12 k c12) (.slice (some ⟨g', 0, none⟩) (k + 1) cap') → Below w9.heap.size w9 w9') := fun w9' g' cap' ha9 => ha9.below ((HF.out.alloc HF.out.size _).drew) HOa.out (Nat.le_refl _) (by have := HF.out.size; simp; omega)
      clear hAl HO HO1 o1 o2
      go_wp2
      go_region_law ((refine step_app2 _ (by rfl) _ _ _ (by rfl) w9.heap.size 41 (.agg #[.int .i64 0, .int .i64 0]) 16 Try.underlying22 infoR rfl _ k (rwF (A ++ [(y, tt)])) (by rfl) HOa.out wr.heap.size 1 (by rfl) HX.out.1 HX.out.2 HON.out.1 HON.out.2 (by omega) (by omega) (by simp; omega) ?_; intro g' cap' w10 ho9 ha9; have HO9 := hidd ho9; have HA9 := hidd ha9; clear ho9 ha9))
      all_goals (
        go_wp2
        go_roundw
        case rel => exact ⟨k + 1, by omega, by go_num, by rw [HAN.out]; exact HO9, HFN.out _ _ _ HA9.out⟩
        case measure => simp [intOf]; omega)
    · have ekm : m - 1 = k := by omega
      rw [ekm] at KL2
      have K10 := hidd (KL2.out wr u12 c12 (own_rda HO.out))
      have k1 : ¬ (k : Int) + 1 < (m : Int) := by omega
      have T10 := hidd (T9.out.fresh HF.out)
      have B10 := hidd (B9.out.trans (HF.out.mono B9.out.size))
      clear ekm KL2
      go_wp2_with (first
        | (go_at_call 8; with_reducible refine K10.out.mono ?_; rintro e w10 ⟨u10, c10, rfl, hr, hb10⟩; have B11 := hidd (B10.out.trans (hb10.mono B10.out.size)); have K11 := hidd (eqNodes_same hr (T10.out.fresh hb10)); clear K10 hr hb10)
        | (go_at_call 10; with_reducible refine K11.out.mono ?_; rintro e w11 ⟨rfl, hb11⟩; have B12 := hidd (B11.out.trans (hb11.mono B11.out.size)); clear K11 hb11))
      go_ret
      exact ⟨rfl, B12.out⟩
end Go.Proofs.Ytakekdbclmgeoab
