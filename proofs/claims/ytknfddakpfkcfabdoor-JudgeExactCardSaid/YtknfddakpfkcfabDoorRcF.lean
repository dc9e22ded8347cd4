import Derived.Test.YtknfddakpfkcfabDoorRcE
namespace Go.Proofs.YtknfddakpfkcfabDoor
open Go.RowKit
/-! The reference's Clean. -/
def RcA (root : Int) (R : List (Int × Int)) (v : Int) (n : Nat) (w : World) (e : Ending) (w' : World) : Prop := ∃ u c, e = .returned (.tuple #[.slice u (min 32 ((wsD (rP R) (rT R) v n n).length + 1)) c, .int .i64 0]) ∧ Own w' w.heap.size 42 3 (.slice u (min 32 ((wsD (rP R) (rT R) v n n).length + 1)) c) (min 32 ((wsD (rP R) (rT R) v n n).length + 1)) (nds (rcP (wsD (rP R) (rT R) v n n)) (rcT root (wsD (rP R) (rT R) v n n)) (rcD (wsD (rP R) (rT R) v n n))) ∧ Below w.heap.size w w'
set_option maxRecDepth 20000 in
set_option maxHeartbeats 1600000 in
theorem rclean_bad {R : List (Int × Int)} {root v : Int} {n : Nat} (hn : 96 < n) {w : World} {ao : Option Addr} {cap : Nat} (_ : RdA w ao 2 n cap (rwF R)) :
    Calls Tryd.prog 6 #[.int .i64 root, .slice ao n cap, .int .i64 v] w fun e w' => e = .returned (.tuple #[.slice none 0 0, .int .i64 140]) ∧ w' = w := by
  have d1 : decide ((96 : Int) < (n : Int)) = true := decide_eq_true (by omega)
  have d2 : decide (96 < n) = true := decide_eq_true hn
  go_enter Tryd.func6, Tryd.ntmps6
  go_wp2
  go_ret2
  exact ⟨rfl, rfl⟩
theorem WsM.keep {w w' : World} {base : Nat} {v x x' : Value} {WS : List (List Int)} {U : Nat → Option Addr} {K : Nat → Nat} {b n : Nat} {cs : Nat → Value} (h : WsM w base v WS U K) (ha : App w w' x x') (hx : Own w b 42 3 x n cs) : WsM w' base v WS U K := ⟨ha.own h.own (hx.offT h.own (by decide)), fun i hi => ha.own (h.at_ i hi) (hx.offT (h.at_ i hi) (by decide))⟩
theorem own_node1 {w : World} (x y z : Int) (f : Nat → Value) (h0 : f 0 = .int .i64 x) (h1 : f 1 = .int .i64 y) (h2 : f 2 = .int .i64 z) : Own (w.alloc (.cells #[.int .i64 x, .int .i64 y, .int .i64 z] 42)) w.heap.size 42 3 (.slice (some ⟨w.heap.size, 0, none⟩) 1 1) 1 f := by
  refine ⟨by simp, .inr ⟨w.heap.size, 1, #[.int .i64 x, .int .i64 y, .int .i64 z], rfl, Nat.le_refl _, ?_, Nat.le_refl _, by simp [maxLen], by simp, ?_⟩⟩
  · exact Go.Deep.blk_alloc_new _ _
  · show [Value.int .i64 x, .int .i64 y, .int .i64 z] = [f 0, f 1, f 2]
    rw [h0, h1, h2]
set_option maxRecDepth 20000 in
set_option maxHeartbeats 4000000 in
theorem rclean_ok {R : List (Int × Int)} {root v : Int} {n : Nat} (hn : n ≤ 96) {w : World} {ao : Option Addr} {cap : Nat} (h : RdA w ao 2 n cap (rwF R)) :
    Calls Tryd.prog 6 #[.int .i64 root, .slice ao n cap, .int .i64 v] w (RcA root R v n w) := by
  have d1 : decide ((96 : Int) < (n : Int)) = false := decide_eq_false (by omega)
  have d2 : decide (96 < n) = false := decide_eq_false (by omega)
  have K1 := hidd (ways_any (v := v) hn h)
  have HOKW := hidd (wsD_ok (rP R) (rT R) v n n)
  have hwl := wsD_le (rP R) (rT R) v n n
  have hwl2 : n * n ≤ 96 * 96 := Nat.mul_le_mul hn hn
  unfold RcA
  obtain ⟨WS, HWS⟩ : ∃ x, Hid (x = wsD (rP R) (rT R) v n n) := ⟨_, rfl⟩
  have K1 : Hid (Calls Tryd.prog 15 #[.slice ao n cap, .int .i64 v] w fun e w' => ∃ a c U K, e = .returned (.slice a WS.length c) ∧ WsM w' w.heap.size (.slice a WS.length c) WS U K ∧ Below w.heap.size w w') := by rw [HWS.out]; exact K1.out
  rw [← HWS.out] at HOKW hwl ⊢
  obtain ⟨m, HM⟩ : ∃ m, Hid (m = min 32 (WS.length + 1)) := ⟨_, rfl⟩
  have hm1 : 1 ≤ m := by have := HM.out; omega
  have hm2 : m ≤ 32 := by have := HM.out; omega
  have hm3 : m ≤ WS.length + 1 := by have := HM.out; omega
  rw [← HM.out]
  clear HWS h
  go_enter Tryd.func6, Tryd.ntmps6
  go_upto_region 4 with (go_at_call 15; with_reducible refine K1.out.mono ?_; rintro e w1 ⟨a, c, U, K, rfl, q, hb⟩; have M1 := hidd q; have B1 := hidd hb; clear K1 q hb)
  have hsz := B1.out.size
  have HO1 := hidd ((own_node1 (w := w1) (-1) root 0 (nds (rcP WS) (rcT root WS) (rcD WS)) (by rw [show (0 : Nat) = 0 * 3 from rfl, nds_0]; rfl) (by rw [show (1 : Nat) = 0 * 3 + 1 from rfl, nds_1]; rfl) (by rw [show (2 : Nat) = 0 * 3 + 2 from rfl, nds_2]; rfl)).weaken hsz)
  have HF1 : Hid (Below w.heap.size w (w1.alloc (.cells #[.int .i64 (-1), .int .i64 root, .int .i64 0] 42))) := B1.out.alloc hsz _
  have HM1 := hidd (M1.out.kept (fresh_alloc w1 (.cells #[.int .i64 (-1), .int .i64 root, .int .i64 0] 42)))
  go_wp2
  clear d1 d2
  go_loopw [9, 10] (fun s9 s10 wr => ∃ k : Nat, k + 1 ≤ m ∧ s10 = .int .i64 (k : Int) ∧ Hid (Own wr w.heap.size 42 3 s9 (k + 1) (nds (rcP WS) (rcT root WS) (rcD WS))) ∧ Hid (WsM wr w.heap.size (.slice a WS.length c) WS U K) ∧ Hid (Below w.heap.size w wr)) (fun _ s10 _ => m - (intOf s10).toNat)
  case atStart => exact ⟨0, by omega, rfl, HO1, HM1, HF1⟩
  case round =>
    clear HO1 HF1 HM1 M1 B1
    obtain ⟨k, hk, rfl, HO, HMw, HF⟩ := hrel
    obtain ⟨u9, c9, rfl, _⟩ := own_sl HO.out
    obtain ⟨tb, HTB⟩ : ∃ b, Hid (b = decide (k + 1 < m)) := ⟨_, rfl⟩
    go_upto_region 6 with fail
    go_cut [22, 23, 24, 25, 26, 27, 28, 29, 30] (fun _ _ _ _ _ _ _ _ vt wx => wx = wr ∧ vt = .bool tb)
    case first =>
      by_cases c1 : k < WS.length
      · have dc1 : decide ((k : Int) < (WS.length : Int)) = true := decide_eq_true (by omega)
        have dc1b : decide (k < WS.length) = true := decide_eq_true c1
        by_cases c2 : k + 1 < 32
        · have dc2 : decide ((k : Int) + 1 < 32) = true := decide_eq_true (by omega)
          have dc2b : decide (k + 1 < 32) = true := decide_eq_true c2
          have ht : tb = true := by rw [HTB.out]; exact decide_eq_true (by have := HM.out; omega)
          clear HTB; subst ht
          go_wp2_with fail
          go_meet
          case rel => exact ⟨rfl, rfl⟩
        · have dc2 : decide ((k : Int) + 1 < 32) = false := decide_eq_false (by omega)
          have dc2b : decide (k + 1 < 32) = false := decide_eq_false c2
          have ht : tb = false := by rw [HTB.out]; exact decide_eq_false (by omega)
          clear HTB; subst ht
          go_wp2_with fail
          go_meet
          case rel => exact ⟨rfl, rfl⟩
      · have dc1 : decide ((k : Int) < (WS.length : Int)) = false := decide_eq_false (by omega)
        have dc1b : decide (k < WS.length) = false := decide_eq_false c1
        have ht : tb = false := by rw [HTB.out]; exact decide_eq_false (by omega)
        clear HTB; subst ht
        go_wp2_with fail
        go_meet
        case rel => exact ⟨rfl, rfl⟩
    case rest =>
      obtain ⟨hw, hs⟩ := hcut
      subst hs
      rw [hw]
      clear hw wc
      by_cases hlt : k + 1 < m
      · have ht : tb = true := by rw [HTB.out]; exact decide_eq_true hlt
        clear HTB; subst ht
        have hkl : k < WS.length := by omega
        obtain ⟨o1, o2, _⟩ := HOKW.out.one hkl
        obtain ⟨L, HL⟩ : ∃ L, Hid (L = wAt WS k) := ⟨_, rfl⟩
        obtain ⟨bW, oW, rfl, hcw⟩ := (own_rda HMw.out.own).one (by omega)
        have x1 := hcw k hkl
        unfold wsC at x1
        have HLO := hidd (HMw.out.at_ k hkl)
        rw [← HL.out] at x1 HLO o1 o2
        clear hcw
        have k0 : (0 : Int) ≤ (k : Int) := by omega
        have k1 : (k : Int) < (WS.length : Int) := by omega
        have HPU : Hid (1 < L.length → rcP WS (k + 1) = 1 + (rpk WS L.dropLast : Int)) := by rw [HL.out]; exact rcP_up
        have HPO : Hid (¬ 1 < L.length → rcP WS (k + 1) = 0) := by rw [HL.out]; exact rcP_one
        have HPR : Hid (1 < L.length → rpk WS L.dropLast < k ∧ wAt WS (rpk WS L.dropLast) = L.dropLast) := by rw [HL.out]; exact HOKW.out.par hkl
        have HTK : Hid (rcT root WS (k + 1) = L.getD (L.length - 1) 0) := by show _ = _; rw [HL.out]; exact rcT_at root WS k
        have HDK : Hid (rcD WS (k + 1) = (L.length : Int)) := by show _ = _; rw [HL.out]; exact rcD_at WS k
        obtain ⟨par, HPAR⟩ : ∃ x, Hid (x = rcP WS (k + 1)) := ⟨_, rfl⟩
        go_upto_if 39 with fail
        have hUK := (own_rda HLO.out).le
        have hUT := (own_rda HLO.out).top
        unfold maxLen at hUT
        go_cut [12, 40, 41, 42, 43, 44, 45, 46, 47, 48, 49] (fun v12 _ _ _ _ _ _ _ _ _ _ wx => v12 = .int .i64 par ∧ Hid (Below wr.heap.size wr wx))
        case first =>
          by_cases hl : 1 < L.length
          · have dl : decide ((1 : Int) < (L.length : Int)) = true := decide_eq_true (by omega)
            have dlb : decide (1 < L.length) = true := decide_eq_true hl
            obtain ⟨p1, p2⟩ := HPR.out hl
            obtain ⟨z, HZ⟩ : ∃ z, Hid (z = rpk WS L.dropLast) := ⟨_, rfl⟩
            have HPE : Hid (par = 1 + (z : Int)) := by show _ = _; rw [HPAR.out, HPU.out hl, HZ.out]
            obtain ⟨q, HQ⟩ : ∃ q, Hid (q = L.length - 1) := ⟨_, rfl⟩
            have eq1 : L.dropLast.length = q := by rw [HQ.out]; simp
            have e3 : (L.length : Int) - 1 = (q : Int) := by have := HQ.out; omega
            have hql : q < L.length := by have := HQ.out; omega
            have HRD : RdA wr (U k) 1 L.dropLast.length (K k) (lF L.dropLast) := ((own_rda HLO.out).firsts (m := L.dropLast.length) (by omega)).congr (fun j hj => by
              unfold lF
              rw [List.getD_eq_getElem?_getD, List.getD_eq_getElem?_getD]
              have : j < L.dropLast.length := by omega
              rw [List.getElem?_eq_getElem this, List.getElem?_eq_getElem (by omega), List.getElem_dropLast])
            have K2 := place_any HMw.out HRD
            have K3 : Hid (Calls Tryd.prog 16 #[.slice (some ⟨bW, oW, none⟩) WS.length c, .slice (U k) q (K k)] wr fun e w' => e = .returned (.int .i64 (z : Int)) ∧ Below wr.heap.size wr w') := by
              rw [← eq1]
              refine K2.mono (fun e w' r => ?_)
              obtain ⟨⟨r, e1, e2⟩, q2⟩ := r
              have hmem : L.dropLast ∈ WS := by
                rw [← p2, wAt_lt (by omega)]
                exact List.getElem_mem _
              rcases e2 with ⟨hn, _⟩ | ⟨y, hy, hw, rfl⟩
              · exact absurd hmem hn
              · refine ⟨?_, q2⟩
                rw [e1, HZ.out, rpk_of HOKW.out.nodup hy hw]
            have zb : z ≤ 100000 := by rw [HZ.out]; omega
            have q0 : (0 : Int) ≤ (q : Int) := by omega
            have q1 : (q : Int) ≤ (K k : Int) := by omega
            clear K2 HRD eq1 p1 p2
            go_wp2_with (go_at_call 16; with_reducible refine K3.out.mono ?_; rintro e w2 ⟨rfl, hb⟩; have F2 := hidd hb; clear K3 hb)
            go_meet
            case rel => exact ⟨by rw [HPE.out], F2⟩
          · have dl : decide ((1 : Int) < (L.length : Int)) = false := decide_eq_false (by omega)
            have dlb : decide (1 < L.length) = false := decide_eq_false hl
            have HPE : Hid (par = 0) := by show _ = _; rw [HPAR.out, HPO.out hl]
            go_wp2_with fail
            go_meet
            case rel => exact ⟨by rw [HPE.out], Below.refl _ _⟩
        case rest =>
          obtain ⟨hs, F2⟩ := hcut
          subst hs
          have HF2 := hidd (HF.out.trans (F2.out.mono HF.out.size))
          have M2 := hidd (HMw.out.kept F2.out)
          have O2 := hidd (HO.out.kept F2.out)
          have hsz2 := HF2.out.size
          have y1 := fresh_cell F2.out x1
          obtain ⟨bL, oL, hUk, hcl⟩ := ((own_rda HLO.out).fresh F2.out).one (by omega)
          rw [hUk] at y1
          obtain ⟨q, HQ⟩ : ∃ q, Hid (q = L.length - 1) := ⟨_, rfl⟩
          have e3 : (L.length : Int) - 1 = (q : Int) := by have := HQ.out; omega
          have q0 : (0 : Int) ≤ (q : Int) := by omega
          have q1 : (q : Int) < (L.length : Int) := by have := HQ.out; omega
          have y2 := hcl q (by have := HQ.out; omega)
          unfold lF at y2
          obtain ⟨tk, HTK2⟩ : ∃ x, Hid (x = rcT root WS (k + 1)) := ⟨_, rfl⟩
          rw [show L.getD q 0 = tk by rw [HTK2.out, HTK.out, HQ.out]] at y2
          have HX : Hid (∀ (w0 : World), ∀ j, j < 1 * 3 → (w0.alloc (.cells #[.int .i64 par, .int .i64 tk, .int .i64 (L.length : Int)] 42)).cell? ⟨w0.heap.size, j, none⟩ = some (nds (rcP WS) (rcT root WS) (rcD WS) ((k + 1) * 3 + j))) := fun w0 j hj => by
            unfold World.cell?
            rw [World.alloc_heap_new]
            match j, hj with
            | 0, _ => rw [Nat.add_zero, nds_0, ← HPAR.out]; rfl
            | 1, _ => rw [nds_1, ← HTK2.out]; rfl
            | 2, _ => rw [nds_2, HDK.out]; rfl
          clear hcl x1
          go_wp2_with (at_builtin; refine wpList_app _ rfl _ _ 27 rfl w.heap.size 42 (.agg #[.int .i64 0, .int .i64 0, .int .i64 0]) 3 24 Tryd.underlying27 infoN rfl (by decide) _ (k + 1) (nds (rcP WS) (rcT root WS) (rcD WS)) rfl (O2.out.kept (fresh_alloc _ _)) _ 1 1 rfl (HX.out _) (fun j _ => nds_one _ _ _ _) (by decide) (by unfold maxLen; omega) (by omega) (by simp; omega) ?_)
          intro v' w4 hown' happ
          have HF4 := hidd (happ.below (HF2.out.alloc hsz2 _) (O2.out.kept (fresh_alloc _ _)) (Nat.le_refl _) (by simp; omega))
          have M4 := hidd ((M2.out.kept (fresh_alloc _ _)).keep happ (O2.out.kept (fresh_alloc _ _)))
          have HO4 := hidd hown'
          clear happ hown' HX
          go_wp2
          go_roundw
          case rel => exact ⟨k + 1, by omega, by go_num, HO4, M4, HF4⟩
          case measure => simp [intOf]; omega
      · have ht : tb = false := by rw [HTB.out]; exact decide_eq_false hlt
        clear HTB; subst ht
        obtain rfl : m = k + 1 := by omega
        go_wp2
        go_ret2
        exact ⟨_, _, rfl, HO.out, HF.out⟩
end Go.Proofs.YtknfddakpfkcfabDoor
