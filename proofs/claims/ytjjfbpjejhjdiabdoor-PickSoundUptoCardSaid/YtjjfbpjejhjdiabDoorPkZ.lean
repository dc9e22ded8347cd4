import Derived.Test.YtjjfbpjejhjdiabDoorPkY
namespace Go.Proofs.YtjjfbpjejhjdiabDoor
open Go.RowKit
/-! PickSound: the law. -/
set_option maxRecDepth 20000 in
set_option maxHeartbeats 3200000 in
theorem soundl_bad (p : Prm) (bad : ¬ p.Ok) {w : World} (v1 v2 v3 : Value) (hF : Holds w) (hD : Dw.Holds w) (pos : Int) :
    Calls Tryd.prog 3 #[.agg #[.int .i64 p.temp, .int .i64 p.topk, .int .i64 p.topp, .int .i64 p.pen, .int .u64 (p.seed : Int)], v1, v2, .int .i64 pos, v3] w fun e w' => e = .returned (.bool true) ∧ Below w.heap.size w w' := by
  have f1 := fresh_alloc w (.cells #[.int .i64 p.temp, .int .i64 p.topk, .int .i64 p.topp, .int .i64 p.pen, .int .u64 (p.seed : Int)] 24)
  have HWK := hidd (works_any (hF.fresh f1) (hD.fresh f1))
  have HP0 := hidd (PrmAt.new w p 24)
  have HC := hidd (fun w1 => chances_bad p bad w1 v1 v2 v3)
  have HO := hidd (fun w1 => choose_bad p bad w1 v1 v2 v3 pos)
  clear hF hD
  go_enter Tryd.func3, Tryd.ntmps3
  go_wp2_with fail
  refine HWK.out.mono ?_
  rintro e w1 ⟨rfl, f2⟩
  have hp1 := HP0.out.fresh f2
  have F1 := hidd (fresh_trans f1 f2)
  have r0 := hp1.c0
  have r1 := hp1.c1
  have r2 := hp1.c2
  have r3 := hp1.c3
  have r4 := hp1.c4
  clear hp1 f1 f2 HWK HP0
  go_wp2_with fail
  refine (HC.out _).mono ?_
  rintro e w2 ⟨rfl, f3⟩
  replace r0 := fresh_cell f3 r0
  replace r1 := fresh_cell f3 r1
  replace r2 := fresh_cell f3 r2
  replace r3 := fresh_cell f3 r3
  replace r4 := fresh_cell f3 r4
  have F2 := hidd (fresh_trans F1.out f3)
  clear f3
  go_wp2_with fail
  refine (HO.out _).mono ?_
  rintro e w3 ⟨rfl, f4⟩
  go_wp2
  go_ret
  exact ⟨rfl, fresh_trans F2.out f4⟩
set_option maxRecDepth 20000 in
set_option maxHeartbeats 3200000 in
theorem soundl_ok (p : Prm) (ok : p.Ok) {w : World} {ao so bo : Option Addr} {n ca m cb l cl : Nat} {f s : Nat → Int} {b : Nat → Bool} (h : In3 w ao so bo n ca m cb l cl f s b) (hD : Dw.Holds w) (pos : Int) :
    Calls Tryd.prog 3 #[.agg #[.int .i64 p.temp, .int .i64 p.topk, .int .i64 p.topp, .int .i64 p.pen, .int .u64 (p.seed : Int)], .slice ao n ca, .slice so m cb, .int .i64 pos, .slice bo l cl] w fun e w' => e = .returned (.bool true) ∧ Below w.heap.size w w' := by
  have f1 := fresh_alloc w (.cells #[.int .i64 p.temp, .int .i64 p.topk, .int .i64 p.topp, .int .i64 p.pen, .int .u64 (p.seed : Int)] 24)
  have HWK := hidd (works_any (h.ta.fresh f1) (hD.fresh f1))
  have HP0 := hidd (PrmAt.new w p 24)
  have HC : Hid (∀ w1, Below w.heap.size w w1 → Calls Tryd.prog 8 #[.agg #[.int .i64 p.temp, .int .i64 p.topk, .int .i64 p.topp, .int .i64 p.pen, .int .u64 (p.seed : Int)], .slice ao n ca, .slice so m cb, .slice bo l cl] w1 fun e w' => ∃ u c, e = .returned (.tuple #[.slice u (chOf p n m l f s b).length c, .int .i64 0]) ∧ PL w' w1.heap.size u c (chOf p n m l f s b) ∧ Below w1.heap.size w1 w') := fun w1 k => chances_ok p ok (h.fresh k)
  have HO : Hid (∀ w1, Below w.heap.size w w1 → Calls Tryd.prog 9 #[.agg #[.int .i64 p.temp, .int .i64 p.topk, .int .i64 p.topp, .int .i64 p.pen, .int .u64 (p.seed : Int)], .slice ao n ca, .slice so m cb, .int .i64 pos, .slice bo l cl] w1 fun e w' => e = .returned (.tuple #[.int .i64 (choi p pos (chOf p n m l f s b)), .int .i64 0]) ∧ Below w1.heap.size w1 w') := fun w1 k => choose_ok p ok (h.fresh k) (hD.fresh k) pos
  have hbd : ∀ x ∈ chOf p n m l f s b, 0 ≤ x.2 ∧ x.2 ≤ 65536 := chL_bd _ _ _ _
  have hlen : (chOf p n m l f s b).length ≤ 1048576 := by have := chL_len p (scF p.pen f (seenB s m)) n (mayB l b); have := h.hn; unfold chOf; omega
  have hsd : SoundL (chOf p n m l f s b) n (mayB l b) := chL_sound ok _ _ _
  have hsm : 0 < (chOf p n m l f s b).length ↔ ∃ i, i < n ∧ mayB l b i = true := chL_some ok _ _ _
  have htk : p.topk ≠ 0 → ((chOf p n m l f s b).length : Int) ≤ p.topk := fun hk => chL_topk ok hk _ _ _
  have HAL := hidd h.al
  have hn := h.hn
  have hle := h.lo.le
  have htop := h.lo.top
  unfold maxLen at htop
  clear h hD
  generalize chOf p n m l f s b = L at *
  have hT : (L.length = 0 → choi p pos L = 0) ∧ (0 < L.length → ∃ k, k < L.length ∧ choi p pos L = (L.getD k (0, 0)).1) := by
    constructor
    · intro h0
      have : L = [] := List.length_eq_zero_iff.1 h0
      rw [this]; rfl
    · intro h0
      have hS := (pre_bd hbd (k := L.length) (Nat.le_refl _)).1
      have h1 := pre_mono hbd (j := 1) (k := L.length) (by omega) (Nat.le_refl _)
      rw [pre_succ L 0 h0, pre_zero, hsd.one h0] at h1
      have h2 := drw_lt p pos (S := (pre L L.length).toNat) (by omega)
      exact pkL_mem L _ (by omega) h0 (by omega)
  have HT := hidd hT
  have HSD := hidd hsd
  have HSM := hidd hsm
  have HTK := hidd htk
  clear hbd hT hsd hsm htk
  generalize choi p pos L = T at *
  go_enter Tryd.func3, Tryd.ntmps3
  go_wp2_with fail
  refine HWK.out.mono ?_
  rintro e w1 ⟨rfl, f2⟩
  have hp1 := HP0.out.fresh f2
  have F1 := hidd (fresh_trans f1 f2)
  have r0 := hp1.c0
  have r1 := hp1.c1
  have r2 := hp1.c2
  have r3 := hp1.c3
  have r4 := hp1.c4
  clear hp1 f1 f2 HWK HP0
  go_wp2_with fail
  refine (HC.out _ F1.out).mono ?_
  rintro e w2 ⟨u, c, rfl, hpl, f3⟩
  replace r0 := fresh_cell f3 r0
  replace r1 := fresh_cell f3 r1
  replace r2 := fresh_cell f3 r2
  replace r3 := fresh_cell f3 r3
  replace r4 := fresh_cell f3 r4
  have F2 := hidd (fresh_trans F1.out f3)
  have HL2 := hidd hpl
  have hls := Own.les hpl
  clear f3 hpl
  go_wp2_with fail
  refine (HO.out _ F2.out).mono ?_
  rintro e w3 ⟨rfl, f4⟩
  replace r1 := fresh_cell f4 r1
  have F3 := hidd (fresh_trans F2.out f4)
  have HL := hidd (HL2.out.kept f4)
  clear f4 HL2 r0 r2 r3 r4
  have HSA : Hid (∀ (r : Bool), (r = true ↔ 0 < L.length) → ∀ wz, Below w3.heap.size w3 wz → Calls Tryd.prog 11 #[.int .i64 (n : Int), .slice bo l cl] wz fun e w' => e = .returned (.bool r) ∧ Below wz.heap.size wz w') := fun r hr wz hz => some_any ((HAL.out.fresh F3.out).fresh hz) n hn r (hr.trans HSM.out)
  have HSO : Hid (∀ wz, Below w3.heap.size w3 wz → Calls Tryd.prog 10 #[.slice u L.length c, .int .i64 (n : Int), .slice bo l cl] wz fun e w' => e = .returned (.bool true) ∧ Below wz.heap.size wz w') := fun wz hz => sound_any ((HAL.out.fresh F3.out).fresh hz) (HL.out.kept hz) HSD.out hlen
  clear HSD HSM HC HO
  by_cases h0 : L.length = 0
  · have hT0 : T = 0 := HT.out.1 h0
    have hL : L = [] := List.length_eq_zero_iff.1 h0
    have HSA0 := hidd (HSA.out false ⟨fun q => absurd q (by simp), fun q => absurd q (by omega)⟩)
    clear HT h0 HSA HL
    subst hL
    subst hT0
    simp only [List.length_nil] at *
    go_wp2
    refine wp_loop_rounds 1 ?_
    rw [rounds_succ]
    go_wp2_with fail
    refine (HSO.out _ (Below.refl _ _)).mono ?_
    rintro e w4 ⟨rfl, f5⟩
    replace r1 := fresh_cell f5 r1
    go_wp2_with fail
    refine (HSA0.out _ f5).mono ?_
    rintro e w5 ⟨rfl, f6⟩
    replace r1 := fresh_cell f6 r1
    have F5 := hidd (fresh_trans (fresh_trans F3.out f5) f6)
    clear f5 f6
    by_cases hk : p.topk = 0
    · rw [hk] at r1
      clear hk HTK
      go_wp2
      go_ret
      exact ⟨rfl, F5.out⟩
    · have k1 : (0 : Int) ≤ p.topk := by have := HTK.out hk; omega
      have k2 : (p.topk == 0) = false := by simpa using hk
      have k3 : decide (p.topk = 0) = false := decide_eq_false hk
      go_wp2
      go_ret
      exact ⟨by first | rfl | simp [k1], F5.out⟩
  · obtain ⟨kt, hkt, eT⟩ := HT.out.2 (by omega)
    have l1 : ((L.length : Int) == 0) = false := by simpa using h0
    have l2 : ¬ L = [] := fun q => h0 (by rw [q]; rfl)
    have l3 : decide (0 < (L.length : Int)) = true := decide_eq_true (by omega)
    have l4 : 0 < L.length := by omega
    have HSA1 := hidd (HSA.out true ⟨fun _ => l4, fun _ => rfl⟩)
    have HKT := hidd (And.intro hkt eT)
    clear HT HSA hkt eT
    go_wp2
    go_loopw [16, 17] (fun v i wz => ∃ (k : Nat) (x : Bool), k ≤ L.length ∧ i = .int .i64 (k : Int) ∧ v = .bool x ∧ Hid (kt < k → x = true) ∧ wz = w3) (fun _ i _ => L.length - (intOf i).toNat)
    case atStart => exact ⟨0, false, Nat.zero_le _, by simp, by first | rfl | simp, fun q => absurd q (by omega), rfl⟩
    case round =>
      obtain ⟨k, x, hk, rfl, rfl, HX, rfl⟩ := hrel
      by_cases hlt : k < L.length
      · cases x with
        | true =>
          go_wp2
          go_roundw
          case rel => exact ⟨k + 1, true, by omega, by go_num, by first | rfl | simp, fun _ => rfl, by first | rfl | trivial⟩
          case measure => simp [intOf]; omega
        | false =>
          obtain ⟨g, rfl, g1, g2, g3, g4⟩ := PL.cells HL.out (by omega)
          obtain ⟨d0, d1⟩ := g3 k hlt
          clear g3 g4
          have i0 : (0 : Int) ≤ (k : Int) := by omega
          have i1 : (k : Int) < (L.length : Int) := by omega
          by_cases q : (L.getD k (0, 0)).1 = T
          · rw [q] at d0
            clear q
            go_wp2
            go_roundw
            case rel => exact ⟨k + 1, true, by omega, by go_num, by first | rfl | simp, fun _ => rfl, by first | rfl | trivial⟩
            case measure => simp [intOf]; omega
          · have HQ : Hid (kt < k + 1 → false = true) := fun q2 => by
              by_cases e : kt = k
              · exact absurd (by rw [HKT.out.2, e]) q
              · exact HX.out (by omega)
            generalize (L.getD k (0, 0)).1 = tk at *
            have q3 : (tk == T) = false := by simpa using q
            have q4 : decide (tk = T) = false := decide_eq_false q
            clear HX
            go_wp2
            go_roundw
            case rel => exact ⟨k + 1, false, by omega, by go_num, by first | rfl | simp, HQ.out, by first | rfl | trivial⟩
            case measure => simp [intOf]; omega
      · obtain rfl : k = L.length := by omega
        have hx : x = true := HX.out HKT.out.1
        subst hx
        go_wp2_with fail
        refine (HSO.out _ (Below.refl _ _)).mono ?_
        rintro e w4 ⟨rfl, f5⟩
        replace r1 := fresh_cell f5 r1
        go_wp2_with fail
        refine (HSA1.out _ f5).mono ?_
        rintro e w5 ⟨rfl, f6⟩
        replace r1 := fresh_cell f6 r1
        have F5 := hidd (fresh_trans (fresh_trans F3.out f5) f6)
        clear f5 f6
        by_cases hk : p.topk = 0
        · rw [hk] at r1
          clear hk HTK
          go_wp2
          go_ret
          exact ⟨by first | rfl | simp, F5.out⟩
        · have k1 := HTK.out hk
          have k2 : (p.topk == 0) = false := by simpa using hk
          have k3 : decide (p.topk = 0) = false := decide_eq_false hk
          go_wp2
          go_ret
          exact ⟨by first | rfl | simp, F5.out⟩
theorem sound_law (p : Prm) {w : World} {ao so bo : Option Addr} {n ca m cb l cl : Nat} {f s : Nat → Int} {b : Nat → Bool} (h : In3 w ao so bo n ca m cb l cl f s b) (hD : Dw.Holds w) (pos : Int) :
    Calls Tryd.prog 3 #[.agg #[.int .i64 p.temp, .int .i64 p.topk, .int .i64 p.topp, .int .i64 p.pen, .int .u64 (p.seed : Int)], .slice ao n ca, .slice so m cb, .int .i64 pos, .slice bo l cl] w fun e w' => e = .returned (.bool true) ∧ Below w.heap.size w w' := by
  by_cases ok : p.Ok
  · exact soundl_ok p ok h hD pos
  · exact soundl_bad p ok _ _ _ h.ta hD pos
end Go.Proofs.YtjjfbpjejhjdiabDoor
