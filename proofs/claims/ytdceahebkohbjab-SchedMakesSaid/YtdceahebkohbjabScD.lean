import Derived.Test.YtdceahebkohbjabScC
namespace Go.Proofs.Ytdceahebkohbjab
open Go.RowKit
/-! maySit. -/
def okD (c : Me) (n : Nat) (L : Nat → Se) : Prop := (∀ i, i < n → okS c (L i)) ∧ ∀ i, i + 1 < n → ¬ (L (i + 1)).id = (L i).id
set_option maxRecDepth 20000 in
set_option maxHeartbeats 1600000 in
theorem maySit_any {w : World} {ao : Option Addr} {n cap : Nat} {L : Nat → Se} (h : SeA w ao n cap L) (c : Me) (hc : okM c 1) (r : Bool) (hr : r = true ↔ okD c n L) :
    Calls Try.prog 26 #[mV c, .slice ao n cap] w fun e w' => e = .returned (.bool r) ∧ Below w.heap.size w w' := by
  have hn : n ≤ 9223372036854775807 := by have := h.rd.le; have := h.rd.top; unfold maxLen at this; omega
  have HH := hidd h
  have HR := hidd hr
  have HC := hidd hc
  clear h hr hc
  obtain ⟨w0, HW0⟩ : ∃ w0, Hid (w0 = w.alloc (.cells #[.int .i64 c.bs, .int .i64 c.bl, .int .i64 c.bu, .int .i64 c.ch, .int .i64 c.tr] 23)) := ⟨_, rfl⟩
  have HB0 : Hid (Below w.heap.size w w0) := by rw [HW0.out]; exact fresh_alloc _ _
  have hbx := box5 w (.int .i64 c.bs) (.int .i64 c.bl) (.int .i64 c.bu) (.int .i64 c.ch) (.int .i64 c.tr) 23
  simp only at hbx
  rw [← HW0.out] at hbx
  have HBX := hidd hbx
  clear hbx
  unfold mV
  go_enter Try.func26, Try.ntmps26
  go_upto_region 1 with fail
  rw [← HW0.out]
  go_wp2
  go_loopw [9] (fun i wr => ∃ k : Nat, k ≤ n ∧ i = .int .i64 k ∧ Hid (okD c k L) ∧ Hid (Below w0.heap.size w0 wr)) (fun i _ => n - (intOf i).toNat)
  case atStart => exact ⟨0, by omega, rfl, ⟨fun i hi => absurd hi (by omega), fun i hi => absurd hi (by omega)⟩, Below.refl _ _⟩
  case round =>
    obtain ⟨k, hk, rfl, HK, HF⟩ := hrel
    have HFW := hidd (HB0.out.trans (HF.out.mono HB0.out.size))
    by_cases hlt : k < n
    · obtain ⟨b1, o1, rfl, hcell⟩ := (HH.out.fresh HFW.out).rd.seat (by omega)
      have HCE := hidd hcell
      obtain ⟨x1, x2, x3, x4, x5⟩ := hcell k hlt
      have HHD : Hid (RdA w (L k).ho 1 (L k).hn (L k).hc (fun j => .int .i64 ((L k).H j))) := HH.out.hd k hlt
      have k1 : (k : Int) < (n : Int) := by omega
      clear hcell
      obtain ⟨y0, HY0⟩ : ∃ y, Hid (y = (L k).id) := ⟨_, rfl⟩
      obtain ⟨y1, HY1⟩ : ∃ y, Hid (y = (L k).kn) := ⟨_, rfl⟩
      obtain ⟨y2, HY2⟩ : ∃ y, Hid (y = (L k).ca) := ⟨_, rfl⟩
      obtain ⟨y3, HY3⟩ : ∃ y, Hid (y = (L k).wa) := ⟨_, rfl⟩
      obtain ⟨hn0, HHN⟩ : ∃ y, Hid (y = (L k).hn) := ⟨_, rfl⟩
      obtain ⟨hc0, HHC⟩ : ∃ y, Hid (y = (L k).hc) := ⟨_, rfl⟩
      obtain ⟨ho, HHO⟩ : ∃ y, Hid (y = (L k).ho) := ⟨_, rfl⟩
      obtain ⟨nd, HNE⟩ : ∃ y, Hid (y = need c y2) := ⟨_, rfl⟩
      rw [← HHN.out, ← HHC.out, ← HHO.out] at x5 HHD
      rw [← HY0.out] at x1
      rw [← HY1.out] at x2
      rw [← HY2.out] at x3
      rw [← HY3.out] at x4
      have hnb : hn0 ≤ 9223372036854775807 := by have := HHD.out.le; have := HHD.out.top; unfold maxLen at this; omega
      go_upto_region 4 with fail
      have HF1 := hidd (box5 wr (.int .i64 y0) (.int .i64 y1) (.int .i64 y2) (.int .i64 y3) (.slice ho hn0 hc0) 32)
      have HBA : Hid (Below wr.heap.size wr (wr.alloc (.cells #[.int .i64 y0, .int .i64 y1, .int .i64 y2, .int .i64 y3, .slice ho hn0 hc0] 32))) := fresh_alloc _ _
      simp only at HF1
      generalize (wr.alloc (.cells #[.int .i64 y0, .int .i64 y1, .int .i64 y2, .int .i64 y3, .slice ho hn0 hc0] 32)) = w1 at *
      have HX1 : Hid (∀ z, Below w1.heap.size w1 z → z.cell? ⟨w.heap.size, 0, none⟩ = some (.int .i64 c.bs) ∧ z.cell? ⟨w.heap.size, 1, none⟩ = some (.int .i64 c.bl)) := fun z hz => ⟨fresh_cell hz (fresh_cell HBA.out (fresh_cell HF.out HBX.out.1)), fresh_cell hz (fresh_cell HBA.out (fresh_cell HF.out HBX.out.2.1))⟩
      have j1 := HF1.out.1
      clear x1 x2 x3 x4 x5
      by_cases hk0 : k = 0
      · have HNE2 : Hid (∀ i, i + 1 < k + 1 → ¬ (L (i + 1)).id = (L i).id) := fun i hi => absurd hi (by omega)
        have d0 : decide (0 < k) = false := decide_eq_false (by omega)
        clear hk0
        go_quiet (fail)
        clear d0
        have HD2 := hidd (fresh_drewN w1 nq)
        have HBD := hidd (HBA.out.trans (HD2.out.mono HBA.out.size))
        have HZ2 := hidd (HFW.out.trans (HBD.out.mono HFW.out.size))
        obtain ⟨f1, f2, f3, f4, f5⟩ := HF1.out
        replace f1 := fresh_cell HD2.out f1
        replace f2 := fresh_cell HD2.out f2
        replace f3 := fresh_cell HD2.out f3
        replace f4 := fresh_cell HD2.out f4
        replace f5 := fresh_cell HD2.out f5
        have HX2 := hidd (fun z (hz : Below (w1.drewN nq).heap.size (w1.drewN nq) z) => HX1.out z (fresh_trans HD2.out hz))
        clear HF1 HX1 HD2 HBA j1
        generalize w1.drewN nq = w2 at *
        by_cases hkn : 1 ≤ y1 ∧ y1 ≤ 64
        · have HW1 := hidd (fun w => within_any y1 1 64 true ⟨fun _ => hkn, fun _ => rfl⟩ w)
          have q1 := hkn.1
          have q2 := hkn.2
          by_cases hca : 0 ≤ y2 ∧ y2 ≤ y1 - 1
          · have HW2 := hidd (fun w => within_any y2 0 (y1 - 1) true ⟨fun _ => hca, fun _ => rfl⟩ w)
            go_wp2_with (first
              | (go_at_call 33; with_reducible refine (HW1.out _).mono ?_; rintro e w3 ⟨rfl, hw⟩; rw [hw]; clear hw)
              | (go_at_call 33; with_reducible refine (HW2.out _).mono ?_; rintro e w3 ⟨rfl, hw⟩; rw [hw]; clear hw))
            have ne := later_some (w2)
            have HBX1 := hidd (fun x : Later (w2) => HX2.out x.val x.fresh)
            have g1 := fun x : Later (w2) => (HBX1.out x).1
            have g2 := fun x : Later (w2) => (HBX1.out x).2
            have l3 : ∀ x : Later (w2), x.val.cell? ⟨wr.heap.size, 2, none⟩ = some (.int .i64 y2) := later_cell (w := w2) f3
            have l5 : ∀ x : Later (w2), x.val.cell? ⟨wr.heap.size, 4, none⟩ = some (.slice ho hn0 hc0) := later_cell (w := w2) f5
            have HAB : Hid (∀ (b : Bool) (x : Later (w2)), (b = true ↔ okB c hn0 (L k).H) → Calls Try.prog 38 #[.slice ho hn0 hc0, .int .i64 c.bs] x.val fun e w' => e = .returned (.bool b) ∧ Below x.val.heap.size x.val w') := fun b x hb => areBl_any ((HHD.out.fresh HZ2.out).fresh x.fresh) c HC.out.2.2.1 HC.out.2.2.2.1 b hb
            have HND : Hid (∀ (x : Later (w2)), Calls Try.prog 39 #[.int .i64 y2, .int .i64 c.bl] x.val fun e w' => e = .returned (.int .i64 nd) ∧ w' = x.val) := fun x => by rw [HNE.out]; exact needed_any c y2 HC.out.2.2.2.2.1 HC.out.2.2.2.2.2.1 hca.1 (by omega) x.val
            by_cases hB : okB c hn0 (L k).H
            · have HAB1 := hidd (fun x => HAB.out true x ⟨fun _ => hB, fun _ => rfl⟩)
              by_cases hnd : (hn0 : Int) < nd
              · have dd : decide ((hn0 : Int) < nd) = true := decide_eq_true hnd
                obtain rfl : r = false := by
                  rw [Bool.eq_false_iff]
                  intro q
                  have hq := ((HR.out.1 q).1 k hlt).2.2.2.2.1
                  rw [← HY2.out, ← HNE.out, ← HHN.out] at hq
                  omega
                clear hnd hB hca hkn HAB
                refine wp_region_later (by kernel_rfl) (by kernel_rfl) ?_
                repeat (go_big_quiet_step (fail))
                go_big_quiet_step (exact later_of (HAB1.out _))
                repeat (go_big_quiet_step (fail))
                go_big_quiet_step (exact later_same (HND.out _))
                repeat (go_big_quiet_step (fail))
                refine wpQuiet_nil ?_
                rintro _ ⟨z, rfl⟩
                have HZ3 := hidd (HZ2.out.trans (z.fresh.mono HZ2.out.size))
                go_wp2
                go_ret
                exact ⟨rfl, HZ3.out⟩
              · have dd : decide ((hn0 : Int) < nd) = false := decide_eq_false hnd
                have HNX : Hid (okD c (k + 1) L) := ⟨fun i hi => (by
                  by_cases e : i = k
                  · rw [e]
                    refine ⟨?_, ?_, ?_, ?_, ?_, ?_⟩
                    · rw [← HY1.out]; exact hkn.1
                    · rw [← HY1.out]; exact hkn.2
                    · rw [← HY2.out]; exact hca.1
                    · rw [← HY1.out, ← HY2.out]; omega
                    · rw [← HY2.out, ← HNE.out, ← HHN.out]; omega
                    · rw [← HHN.out]; exact hB
                  · exact HK.out.1 i (by omega)), HNE2.out⟩
                clear hnd hB hca hkn HAB
                refine wp_region_later (by kernel_rfl) (by kernel_rfl) ?_
                repeat (go_big_quiet_step (fail))
                go_big_quiet_step (exact later_of (HAB1.out _))
                repeat (go_big_quiet_step (fail))
                go_big_quiet_step (exact later_same (HND.out _))
                repeat (go_big_quiet_step (fail))
                refine wpQuiet_nil ?_
                rintro _ ⟨z, rfl⟩
                have HZ4 := hidd (HF.out.trans ((HBD.out.trans (z.fresh.mono HBD.out.size)).mono HF.out.size))
                clear l3 l5 g1 g2 dd
                go_wp2
                go_roundw
                case rel => exact ⟨k + 1, by omega, by go_num, HNX, HZ4⟩
                case measure => simp [intOf]; omega
            · have HAB1 := hidd (fun x => HAB.out false x ⟨fun q => (by cases q), fun q => absurd q hB⟩)
              obtain rfl : r = false := by
                rw [Bool.eq_false_iff]
                intro q
                have hq := ((HR.out.1 q).1 k hlt).2.2.2.2.2
                rw [← HHN.out] at hq
                exact hB hq
              clear hB hca hkn HAB
              refine wp_region_later (by kernel_rfl) (by kernel_rfl) ?_
              repeat (go_big_quiet_step (fail))
              go_big_quiet_step (exact later_of (HAB1.out _))
              repeat (go_big_quiet_step (fail))
              refine wpQuiet_nil ?_
              rintro _ ⟨z, rfl⟩
              have HZ3 := hidd (HZ2.out.trans (z.fresh.mono HZ2.out.size))
              go_wp2
              go_ret
              exact ⟨rfl, HZ3.out⟩
          · have HW2 := hidd (fun w => within_any y2 0 (y1 - 1) false ⟨fun q => (by cases q), fun q => absurd q hca⟩ w)
            obtain rfl : r = false := by
              rw [Bool.eq_false_iff]
              intro q
              have hq := (HR.out.1 q).1 k hlt
              have hq1 := hq.2.2.1
              have hq2 := hq.2.2.2.1
              rw [← HY2.out] at hq1 hq2
              rw [← HY1.out] at hq2
              omega
            clear hca
            go_wp2_with (first
              | (go_at_call 33; with_reducible refine (HW1.out _).mono ?_; rintro e w3 ⟨rfl, hw⟩; rw [hw]; clear hw)
              | (go_at_call 33; with_reducible refine (HW2.out _).mono ?_; rintro e w3 ⟨rfl, hw⟩; rw [hw]; clear hw))
            go_ret
            exact ⟨rfl, HZ2.out⟩
        · have HW1 := hidd (fun w => within_any y1 1 64 false ⟨fun q => (by cases q), fun q => absurd q hkn⟩ w)
          obtain rfl : r = false := by
            rw [Bool.eq_false_iff]
            intro q
            have hq := (HR.out.1 q).1 k hlt
            have hq1 := hq.1
            have hq2 := hq.2.1
            rw [← HY1.out] at hq1 hq2
            exact hkn ⟨hq1, hq2⟩
          clear hkn
          go_wp2_with (go_at_call 33; with_reducible refine (HW1.out _).mono ?_; rintro e w3 ⟨rfl, hw⟩; rw [hw]; clear hw)
          go_ret
          exact ⟨rfl, HZ2.out⟩
      · obtain ⟨q, HQ⟩ : ∃ q, Hid (k = q + 1) := ⟨k - 1, by show k = _; omega⟩
        have d0 : decide (0 < k) = true := decide_eq_true (by omega)
        have e1 : (k : Int) - 1 = (q : Int) := by have := HQ.out; omega
        have p0 : (0 : Int) ≤ (q : Int) := by omega
        have p1 : (q : Int) < (n : Int) := by have := HQ.out; omega
        have z1 := fresh_cell HBA.out (HCE.out q (by have := HQ.out; omega)).1
        obtain ⟨y9, HY9⟩ : ∃ y, Hid (y = (L q).id) := ⟨_, rfl⟩
        rw [← HY9.out] at z1
        by_cases he : y0 = y9
        · have dd : (y0 == y9) = true := by simp; exact he
          obtain rfl : r = false := by
            rw [Bool.eq_false_iff]
            intro p
            refine (HR.out.1 p).2 q (by have := HQ.out; omega) ?_
            rw [← HQ.out, ← HY0.out, ← HY9.out]
            exact he
          have HZ3 := hidd (HFW.out.trans (HBA.out.mono HFW.out.size))
          clear he
          go_quiet (fail)
          go_wp2
          go_ret
          exact ⟨rfl, below_drewN HZ3.out _⟩
        · have dd : (y0 == y9) = false := by simp; exact he
          have HNE2 : Hid (∀ i, i + 1 < k + 1 → ¬ (L (i + 1)).id = (L i).id) := fun i hi => by
            by_cases e : i = q
            · rw [e, ← HQ.out, ← HY0.out, ← HY9.out]; exact he
            · exact HK.out.2 i (by have := HQ.out; omega)
          clear he
          go_quiet (fail)
          clear dd d0 e1 p0 p1 z1
          have HD2 := hidd (fresh_drewN w1 nq)
          have HBD := hidd (HBA.out.trans (HD2.out.mono HBA.out.size))
          have HZ2 := hidd (HFW.out.trans (HBD.out.mono HFW.out.size))
          obtain ⟨f1, f2, f3, f4, f5⟩ := HF1.out
          replace f1 := fresh_cell HD2.out f1
          replace f2 := fresh_cell HD2.out f2
          replace f3 := fresh_cell HD2.out f3
          replace f4 := fresh_cell HD2.out f4
          replace f5 := fresh_cell HD2.out f5
          have HX2 := hidd (fun z (hz : Below (w1.drewN nq).heap.size (w1.drewN nq) z) => HX1.out z (fresh_trans HD2.out hz))
          clear HF1 HX1 HD2 HBA j1
          generalize w1.drewN nq = w2 at *
          by_cases hkn : 1 ≤ y1 ∧ y1 ≤ 64
          · have HW1 := hidd (fun w => within_any y1 1 64 true ⟨fun _ => hkn, fun _ => rfl⟩ w)
            have q1 := hkn.1
            have q2 := hkn.2
            by_cases hca : 0 ≤ y2 ∧ y2 ≤ y1 - 1
            · have HW2 := hidd (fun w => within_any y2 0 (y1 - 1) true ⟨fun _ => hca, fun _ => rfl⟩ w)
              go_wp2_with (first
                | (go_at_call 33; with_reducible refine (HW1.out _).mono ?_; rintro e w3 ⟨rfl, hw⟩; rw [hw]; clear hw)
                | (go_at_call 33; with_reducible refine (HW2.out _).mono ?_; rintro e w3 ⟨rfl, hw⟩; rw [hw]; clear hw))
              have ne := later_some (w2)
              have HBX1 := hidd (fun x : Later (w2) => HX2.out x.val x.fresh)
              have g1 := fun x : Later (w2) => (HBX1.out x).1
              have g2 := fun x : Later (w2) => (HBX1.out x).2
              have l3 : ∀ x : Later (w2), x.val.cell? ⟨wr.heap.size, 2, none⟩ = some (.int .i64 y2) := later_cell (w := w2) f3
              have l5 : ∀ x : Later (w2), x.val.cell? ⟨wr.heap.size, 4, none⟩ = some (.slice ho hn0 hc0) := later_cell (w := w2) f5
              have HAB : Hid (∀ (b : Bool) (x : Later (w2)), (b = true ↔ okB c hn0 (L k).H) → Calls Try.prog 38 #[.slice ho hn0 hc0, .int .i64 c.bs] x.val fun e w' => e = .returned (.bool b) ∧ Below x.val.heap.size x.val w') := fun b x hb => areBl_any ((HHD.out.fresh HZ2.out).fresh x.fresh) c HC.out.2.2.1 HC.out.2.2.2.1 b hb
              have HND : Hid (∀ (x : Later (w2)), Calls Try.prog 39 #[.int .i64 y2, .int .i64 c.bl] x.val fun e w' => e = .returned (.int .i64 nd) ∧ w' = x.val) := fun x => by rw [HNE.out]; exact needed_any c y2 HC.out.2.2.2.2.1 HC.out.2.2.2.2.2.1 hca.1 (by omega) x.val
              by_cases hB : okB c hn0 (L k).H
              · have HAB1 := hidd (fun x => HAB.out true x ⟨fun _ => hB, fun _ => rfl⟩)
                by_cases hnd : (hn0 : Int) < nd
                · have dd : decide ((hn0 : Int) < nd) = true := decide_eq_true hnd
                  obtain rfl : r = false := by
                    rw [Bool.eq_false_iff]
                    intro q
                    have hq := ((HR.out.1 q).1 k hlt).2.2.2.2.1
                    rw [← HY2.out, ← HNE.out, ← HHN.out] at hq
                    omega
                  clear hnd hB hca hkn HAB
                  refine wp_region_later (by kernel_rfl) (by kernel_rfl) ?_
                  repeat (go_big_quiet_step (fail))
                  go_big_quiet_step (exact later_of (HAB1.out _))
                  repeat (go_big_quiet_step (fail))
                  go_big_quiet_step (exact later_same (HND.out _))
                  repeat (go_big_quiet_step (fail))
                  refine wpQuiet_nil ?_
                  rintro _ ⟨z, rfl⟩
                  have HZ3 := hidd (HZ2.out.trans (z.fresh.mono HZ2.out.size))
                  go_wp2
                  go_ret
                  exact ⟨rfl, HZ3.out⟩
                · have dd : decide ((hn0 : Int) < nd) = false := decide_eq_false hnd
                  have HNX : Hid (okD c (k + 1) L) := ⟨fun i hi => (by
                    by_cases e : i = k
                    · rw [e]
                      refine ⟨?_, ?_, ?_, ?_, ?_, ?_⟩
                      · rw [← HY1.out]; exact hkn.1
                      · rw [← HY1.out]; exact hkn.2
                      · rw [← HY2.out]; exact hca.1
                      · rw [← HY1.out, ← HY2.out]; omega
                      · rw [← HY2.out, ← HNE.out, ← HHN.out]; omega
                      · rw [← HHN.out]; exact hB
                    · exact HK.out.1 i (by omega)), HNE2.out⟩
                  clear hnd hB hca hkn HAB
                  refine wp_region_later (by kernel_rfl) (by kernel_rfl) ?_
                  repeat (go_big_quiet_step (fail))
                  go_big_quiet_step (exact later_of (HAB1.out _))
                  repeat (go_big_quiet_step (fail))
                  go_big_quiet_step (exact later_same (HND.out _))
                  repeat (go_big_quiet_step (fail))
                  refine wpQuiet_nil ?_
                  rintro _ ⟨z, rfl⟩
                  have HZ4 := hidd (HF.out.trans ((HBD.out.trans (z.fresh.mono HBD.out.size)).mono HF.out.size))
                  clear l3 l5 g1 g2 dd
                  go_wp2
                  go_roundw
                  case rel => exact ⟨k + 1, by omega, by go_num, HNX, HZ4⟩
                  case measure => simp [intOf]; omega
              · have HAB1 := hidd (fun x => HAB.out false x ⟨fun q => (by cases q), fun q => absurd q hB⟩)
                obtain rfl : r = false := by
                  rw [Bool.eq_false_iff]
                  intro q
                  have hq := ((HR.out.1 q).1 k hlt).2.2.2.2.2
                  rw [← HHN.out] at hq
                  exact hB hq
                clear hB hca hkn HAB
                refine wp_region_later (by kernel_rfl) (by kernel_rfl) ?_
                repeat (go_big_quiet_step (fail))
                go_big_quiet_step (exact later_of (HAB1.out _))
                repeat (go_big_quiet_step (fail))
                refine wpQuiet_nil ?_
                rintro _ ⟨z, rfl⟩
                have HZ3 := hidd (HZ2.out.trans (z.fresh.mono HZ2.out.size))
                go_wp2
                go_ret
                exact ⟨rfl, HZ3.out⟩
            · have HW2 := hidd (fun w => within_any y2 0 (y1 - 1) false ⟨fun q => (by cases q), fun q => absurd q hca⟩ w)
              obtain rfl : r = false := by
                rw [Bool.eq_false_iff]
                intro q
                have hq := (HR.out.1 q).1 k hlt
                have hq1 := hq.2.2.1
                have hq2 := hq.2.2.2.1
                rw [← HY2.out] at hq1 hq2
                rw [← HY1.out] at hq2
                omega
              clear hca
              go_wp2_with (first
                | (go_at_call 33; with_reducible refine (HW1.out _).mono ?_; rintro e w3 ⟨rfl, hw⟩; rw [hw]; clear hw)
                | (go_at_call 33; with_reducible refine (HW2.out _).mono ?_; rintro e w3 ⟨rfl, hw⟩; rw [hw]; clear hw))
              go_ret
              exact ⟨rfl, HZ2.out⟩
          · have HW1 := hidd (fun w => within_any y1 1 64 false ⟨fun q => (by cases q), fun q => absurd q hkn⟩ w)
            obtain rfl : r = false := by
              rw [Bool.eq_false_iff]
              intro q
              have hq := (HR.out.1 q).1 k hlt
              have hq1 := hq.1
              have hq2 := hq.2.1
              rw [← HY1.out] at hq1 hq2
              exact hkn ⟨hq1, hq2⟩
            clear hkn
            go_wp2_with (go_at_call 33; with_reducible refine (HW1.out _).mono ?_; rintro e w3 ⟨rfl, hw⟩; rw [hw]; clear hw)
            go_ret
            exact ⟨rfl, HZ2.out⟩
    · obtain rfl : k = n := by omega
      obtain rfl : r = true := HR.out.2 HK.out
      go_wp2
      go_ret
      exact ⟨rfl, HFW.out⟩
end Go.Proofs.Ytdceahebkohbjab
