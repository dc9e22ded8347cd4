import Derived.Test.YtppcgfdogacmkaaLPMw
namespace Go.Proofs.Ytppcgfdogacmkaa
open Go.RowKit
/-! PoolKeeps: the walk. -/
/-- the cells of a list of writes -/
def wcs (M : Nat → Bool) (A B C : Nat → Int) : Nat → Value := fun j => if j % 4 = 0 then .bool (M (j / 4)) else if j % 4 = 1 then .int .i64 (A (j / 4)) else if j % 4 = 2 then .int .i64 (B (j / 4)) else .int .i64 (C (j / 4))
theorem RdA.writes {w : World} {ao : Option Addr} {n cap : Nat} {M : Nat → Bool} {A B C : Nat → Int} (h : RdA w ao 4 n cap (wcs M A B C)) (hn : 0 < n) : ∃ b off, ao = some ⟨b, off, none⟩ ∧ ∀ i, i < n → w.cell? ⟨b, off + i * 4, none⟩ = some (.bool (M i)) ∧ w.cell? ⟨b, off + i * 4 + 1, none⟩ = some (.int .i64 (A i)) ∧ w.cell? ⟨b, off + i * 4 + 2, none⟩ = some (.int .i64 (B i)) ∧ w.cell? ⟨b, off + i * 4 + 3, none⟩ = some (.int .i64 (C i)) := by
  obtain ⟨b, off, rfl, hc⟩ := h.at_ hn
  refine ⟨b, off, rfl, fun i hi => ⟨?_, ?_, ?_, ?_⟩⟩
  · rw [hc (i * 4) (by omega)]; unfold wcs; rw [if_pos (by omega), show i * 4 / 4 = i by omega]
  · rw [show off + i * 4 + 1 = off + (i * 4 + 1) by omega, hc (i * 4 + 1) (by omega)]; unfold wcs; rw [if_neg (by omega), if_pos (by omega), show (i * 4 + 1) / 4 = i by omega]
  · rw [show off + i * 4 + 2 = off + (i * 4 + 2) by omega, hc (i * 4 + 2) (by omega)]; unfold wcs; rw [if_neg (by omega), if_neg (by omega), if_pos (by omega), show (i * 4 + 2) / 4 = i by omega]
  · rw [show off + i * 4 + 3 = off + (i * 4 + 3) by omega, hc (i * 4 + 3) (by omega)]; unfold wcs; rw [if_neg (by omega), if_neg (by omega), if_neg (by omega), show (i * 4 + 3) / 4 = i by omega]
set_option maxRecDepth 100000 in
set_option maxHeartbeats 8000000 in
theorem keeps_law {w : World} {bo : Option Addr} {m cap : Nat} {M : Nat → Bool} {SL TO XX : Nat → Int} (a0 a1 : Int) (hr : RdA w bo 4 m cap (wcs M SL TO XX)) :
    Calls Try.prog 3 #[.int .i64 a0, .int .i64 a1, .slice bo m cap] w fun e w' => e = .returned (.bool true) ∧ Below w.heap.size w w' := by
  have hcap : cap ≤ 9223372036854775807 := by have := hr.top; unfold maxLen at this; omega
  have hnc := hr.le
  by_cases hlong : 2147483647 < m
  · have HL := hidd (long_yes w hlong (by omega))
    go_enter Try.func3, Try.ntmps3
    go_wp2_with (go_at_call 9; with_reducible refine HL.out.mono ?_; rintro e w9 ⟨rfl, h9⟩; rw [h9]; clear h9)
    go_ret
    exact ⟨rfl, Below.refl _ _⟩
  · have HL := hidd (long_no (n := m) w (by omega))
    have HM := hidd (made_pool w a0 a1)
    go_enter Try.func3, Try.ntmps3
    go_upto_region 4 with (first
      | (go_at_call 9; with_reducible refine HL.out.mono ?_; rintro e w9 ⟨rfl, h9⟩; rw [h9]; clear h9)
      | (go_at_call 10; with_reducible refine HM.out.mono ?_; rintro e w1 ⟨g, cb, nb, B, S, ao, ac, rfl, hP, hnew, hB, hS, hlow⟩))
    clear HM HL
    obtain ⟨hB1, hB2⟩ := hB
    obtain ⟨hS1, hS2⟩ := hS
    obtain ⟨R, hR⟩ : ∃ R, R = B * S := ⟨_, rfl⟩
    have hRb : 1 ≤ R ∧ R ≤ 102 := by
      rw [hR]
      have h1 := Nat.mul_le_mul hB1 hS1
      have h2 := Nat.mul_le_mul hB2 hS2
      omega
    obtain ⟨hR1, hR2⟩ := hRb
    have eR : (B : Int) * (S : Int) = (R : Int) := by rw [hR]; push_cast; rfl
    have HR := hidd hR
    have HRD := hidd hr
    have HP0 := hidd hP
    have HNW := hidd hnew
    clear hR hr hP hnew
    go_wp2
    go_loopw [12] (fun i wr => ∃ (k : Nat) (num : Nat → Int), k ≤ B ∧ i = .int .i64 k ∧ PoolAt wr g cb nb 2 3 B S (takesC B (fun _ => 0) k) num ∧ Below w.heap.size w wr) (fun i _ => B - (intOf i).toNat)
    case atStart => exact ⟨0, _, by omega, rfl, HP0.out, hlow⟩
    case round =>
      clear HP0 hlow
      obtain ⟨k, num, hk, rfl, hP, hlow⟩ := hrel
      by_cases hlt : k < B
      · have HK : Hid (Calls Try.prog 11 #[.pointer (some ⟨g, 0, none⟩)] wr fun e w' => ∃ b num', e = .returned (.tuple #[.int .i64 b, .int .i64 0]) ∧ Hid (PoolAt w' g cb nb 2 3 B S (takesC B (fun _ => 0) (k + 1)) num' ∧ Below w.heap.size w w')) := by
          obtain ⟨q, n, T, G⟩ := hP.geo
          have h1 := takes_free (B := B) (c := fun _ => 0) k (by rw [freeN_zero]; omega)
          rw [freeN_zero] at h1
          refine (take_low hP G (by omega)).mono ?_
          rintro e w' ⟨rfl, q1, q2⟩
          exact ⟨_, _, rfl, q1, q2.below hlow hlow.size (fun x e => by have := HNW.out; rcases e with e | e <;> omega)⟩
        clear hP hlow
        go_wp2_with (go_at_call 11; with_reducible refine HK.out.mono ?_; rintro e w9 ⟨b9, num9, rfl, H9⟩)
        clear HK
        go_roundw
        case rel => exact ⟨k + 1, num9, by omega, by go_num, H9.out.1, H9.out.2⟩
        case measure => simp [intOf]; omega
      · obtain rfl : k = B := by omega
        have HK0 := hidd (kp_start hP hlow HNW.out takes_all)
        generalize takesC k (fun _ => 0) k = cnt at *
        generalize hbase : wr.heap.size = base at *
        clear hbase hP hlow
        go_wp2
        go_loopw [11, 15] (fun v i wx => ∃ (s : Nat) (num : Nat → Int) (bk : Nat → Nat), s ≤ R ∧ i = .int .i64 s ∧ Kp w wx g cb nb k S base cnt num v s bk) (fun _ i _ => R - (intOf i).toNat)
        case atStart => exact ⟨0, _, _, by omega, rfl, HK0.out⟩
        case round =>
          clear HK0
          obtain ⟨s, num, bk, hs, rfl, hK⟩ := hrel
          have HK := hidd hK
          by_cases hlt : s < R
          · have HF : Hid (∀ x, Calls Try.prog 12 #[.pointer (some ⟨g, 0, none⟩), .int .i64 s, .int .i64 x] wr fun e w' => ∃ b nv, e = .returned (.tuple #[.agg #[.slice (some ⟨b 0, 0, none⟩) 3 3, .slice (some ⟨b 1, 0, none⟩) 3 3, .slice (some ⟨b 2, 0, none⟩) 3 3, .slice (some ⟨b 3, 0, none⟩) 3 3], .bool true]) ∧ Hid (NoteAt w' b nv ∧ (∀ k, k < 4 → wr.heap.size ≤ b k) ∧ PoolAt w' g cb nb 2 3 k S cnt (setS num (s * 12) nv) ∧ Chg wr w' (fun b => b = nb))) := fun x => by
              refine (fill_ok hK.P hK.geo (HR.out ▸ hlt) (hK.cn _ (slot_in (HR.out ▸ hlt) hS1).1) x).mono ?_
              rintro e w' ⟨b, nv, rfl, q1, q2, q3, q4⟩
              exact ⟨b, nv, rfl, q1, q2, q3, q4⟩
            have hbs := hK.bs
            obtain ⟨vo, vc, rfl, _⟩ := hK.own.rd
            clear hK
            go_upto_region 17 with (go_at_call 12; with_reducible refine (HF.out _).mono ?_; rintro e w2 ⟨b, nv, rfl, H2⟩)
            clear HF
            have fN := fresh_alloc w2 (.cells #[.slice (some ⟨b 0, 0, none⟩) 3 3, .slice (some ⟨b 1, 0, none⟩) 3 3, .slice (some ⟨b 2, 0, none⟩) 3 3, .slice (some ⟨b 3, 0, none⟩) 3 3] 34)
            obtain ⟨y0, y1, y2, y3⟩ := row4 (row4_new w2 34 (.slice (some ⟨b 0, 0, none⟩) 3 3) (.slice (some ⟨b 1, 0, none⟩) 3 3) (.slice (some ⟨b 2, 0, none⟩) 3 3) (.slice (some ⟨b 3, 0, none⟩) 3 3))
            have hsz2 := H2.out.2.2.2.size
            have HO2 : Hid (Own w2 base 34 4 (.slice vo s vc) s (nt (pushB bk s b))) := (Own.chg H2.out.2.2.2 HK.out.own (fun q hq e => by subst e; exact HK.out.own.apart HK.out.P.nums (by decide) hq)).congr (fun j hj => by unfold nt; rw [pushB_lt (by omega)])
            generalize hw3 : w2.alloc (.cells #[.slice (some ⟨b 0, 0, none⟩) 3 3, .slice (some ⟨b 1, 0, none⟩) 3 3, .slice (some ⟨b 2, 0, none⟩) 3 3, .slice (some ⟨b 3, 0, none⟩) 3 3] 34) = w3 at *
            have hsz3 := fN.size
            clear hw3
            go_wp2_with (at_builtin; refine wpList_app _ rfl _ _ 28 rfl base 34 (.agg #[.slice none 0 0, .slice none 0 0, .slice none 0 0, .slice none 0 0]) 4 96 Try.underlying28 infoNote rfl (by decide) _ s (nt (pushB bk s b)) rfl ((HO2.out.kept fN).kept (fresh_alloc _ _)) _ 1 1 rfl (note_cells _ _) (fun _ _ => rfl) (by decide) (by unfold maxLen; omega) (by omega) (by simp; omega) ?_)
            intro v' w4 hown' happ
            have HK4 := hidd (HK.out.push H2.out.1 H2.out.2.1 H2.out.2.2.1 H2.out.2.2.2 (fresh_trans fN (fresh_alloc _ _)) hown' happ)
            obtain ⟨v4, c4, rfl, _⟩ := hown'.rd
            clear happ hown' HO2 H2 HK y0 y1 y2 y3 fN
            go_wp2
            go_roundw
            case rel => exact ⟨s + 1, _, _, by omega, by go_num, HK4.out⟩
            case measure => simp [intOf]; omega
          · obtain rfl : s = R := by omega
            obtain ⟨gN, cN, rfl, hKr⟩ := hK.kr hR1
            have HKr := hidd hKr
            clear hK HK hKr
            go_wp2
            go_loopw [18] (fun i wx => ∃ (i' : Nat) (num : Nat → Int) (bk : Nat → Nat), i' ≤ m ∧ i = .int .i64 i' ∧ Kr w wx g cb nb k S cnt num gN cN s bk) (fun i _ => m - (intOf i).toNat)
            case atStart => exact ⟨0, _, _, by omega, rfl, HKr.out⟩
            case round =>
              clear HKr
              obtain ⟨i, num, bk, hi, rfl, hKr⟩ := hrel
              have HKr := hidd hKr
              have hcN := hKr.nc
              by_cases hlm : i < m
              · obtain ⟨b1, o1, rfl, hc⟩ := (HRD.out.fresh hKr.low).writes (by omega)
                obtain ⟨d0, d1, d2, d3⟩ := hc i hlm
                have hsi := md_lt (SL i) (show 0 < s by omega)
                have hti := md_lt (TO i) (show 0 < s by omega)
                have HMS := hidd (mod_any (SL i) s wr (by omega) (by omega))
                have HMT := hidd (mod_any (TO i) s wr (by omega) (by omega))
                generalize md (SL i) s = si at *
                generalize md (TO i) s = ti at *
                generalize SL i = sv at *
                generalize TO i = tv at *
                generalize XX i = xv at *
                clear hc hKr
                cases hM : M i with
                | true =>
                  rw [hM] at d0
                  clear hM
                  have fA := fresh_alloc wr (.cells #[.int .i64 (si : Int), .int .i64 (ti : Int)] 42)
                  have hA := HKr.out.fresh fA
                  have hrdA : RdA (wr.alloc (.cells #[.int .i64 (si : Int), .int .i64 (ti : Int)] 42)) (some ⟨wr.heap.size, 0, none⟩) 2 1 1 (mcs (fun _ => si) (fun _ => ti)) := ⟨Nat.le_refl _, by decide, fun _ => ⟨_, 0, rfl, fun j hj => by rw [Nat.zero_add]; have := move_cells wr 42 (F := fun _ => si) (T := fun _ => ti) (n := 0) (x := si) (y := ti) rfl rfl j hj; simpa using this⟩⟩
                  have hnlt := HKr.out.P.nums.lt
                  have hmv := move_ok (q := 12) hA.P hA.geo hrdA (fun _ _ => ⟨HR.out ▸ hsi, hA.cn _ (slot_in (HR.out ▸ hsi) hS1).1⟩) (fun _ _ => ⟨HR.out ▸ hti, hA.cn _ (slot_in (HR.out ▸ hti) hS1).1⟩) (fun i j h1 h2 => by omega) (fun b off e => by cases e; omega)
                  have HMV := hidd hmv
                  have HA := hidd hA
                  clear hmv hrdA hA
                  go_upto_region 27 with (first
                    | (go_at_call 13; with_reducible refine HMS.out.mono ?_; rintro e w9 ⟨rfl, h9⟩; rw [h9]; clear h9 HMS)
                    | (go_at_call 13; with_reducible refine HMT.out.mono ?_; rintro e w9 ⟨rfl, h9⟩; rw [h9]; clear h9 HMT)
                    | (go_at_call 14; with_reducible refine HMV.out.mono ?_; rintro e w5 ⟨rfl, hP5, hC5⟩))
                  clear HMV
                  have hN5 : NoteAt w5 (fun q => bk (4 * si + q)) (fun j => num (si * 12 + j)) := (HA.out.note hsi).chg hC5 (fun q hq => HA.out.ne _ (by omega))
                  have HK9 := hidd (HA.out.put hti hN5 (fun q hq => HA.out.ne _ (by omega)) hP5 hC5 (fun j hj => moved_at (F := fun _ => si) (T := fun _ => ti) (n := 1) (m := 1) (i := 0) (fun i j h1 h2 => by omega) (Nat.le_refl _) (by decide) hj) (fun j hj => if_neg hj))
                  obtain ⟨FN, hrN, hFN⟩ := HA.out.N
                  have hr5 := hC5.row hrN (rowIs_apart hrN HA.out.P.nums (by decide))
                  have fz := hr5.frozen
                  have hca : ∀ q, q < 4 → w5.cell? ⟨gN, si * 4 + q, none⟩ = some (.slice (some ⟨bk (4 * si + q), 0, none⟩) 3 3) := fun q hq => by
                    rw [hr5.cell (i := si * 4 + q) (by omega), hFN _ (by omega), show si * 4 + q = 4 * si + q by omega]; rfl
                  have hcb : ∀ q, q < 4 → w5.cell? ⟨gN, ti * 4 + q, none⟩ = some (.slice (some ⟨bk (4 * ti + q), 0, none⟩) 3 3) := fun q hq => by
                    rw [hr5.cell (i := ti * 4 + q) (by omega), hFN _ (by omega), show ti * 4 + q = 4 * ti + q by omega]; rfl
                  have y0 := hca 0 (by decide)
                  have y1 := hca 1 (by decide)
                  have y2 := hca 2 (by decide)
                  have y3 := hca 3 (by decide)
                  have x0 := hcb 0 (by decide)
                  have x1 := hcb 1 (by decide)
                  have x2 := hcb 2 (by decide)
                  have x3 := hcb 3 (by decide)
                  simp only [Nat.add_zero] at y0 x0
                  clear hca hcb hr5 hrN hFN hN5 HA
                  have hz0 : 4 * si + 0 = 4 * si := rfl
                  simp only [Nat.add_zero] at HK9
                  obtain ⟨w9, hw9⟩ : ∃ w9, w9 = (((w5.setCell ⟨gN, ti * 4, none⟩ (.slice (some ⟨bk (4 * si), 0, none⟩) 3 3)).setCell ⟨gN, ti * 4 + 1, none⟩ (.slice (some ⟨bk (4 * si + 1), 0, none⟩) 3 3)).setCell ⟨gN, ti * 4 + 2, none⟩ (.slice (some ⟨bk (4 * si + 2), 0, none⟩) 3 3)).setCell ⟨gN, ti * 4 + 3, none⟩ (.slice (some ⟨bk (4 * si + 3), 0, none⟩) 3 3) := ⟨_, rfl⟩
                  rw [← hw9] at HK9
                  go_upto_region 34 with fail
                  rw [← hw9]
                  clear hw9
                  go_wp2
                  go_loopw [24] (fun i wx => ∃ (t : Nat), t ≤ s ∧ i = .int .i64 t ∧ Below w9.heap.size w9 wx) (fun i _ => s - (intOf i).toNat)
                  case atStart => exact ⟨0, by omega, rfl, Below.refl _ _⟩
                  case round =>
                    obtain ⟨t, ht, rfl, hb⟩ := hrel
                    by_cases hlt : t < s
                    · have hkm := HK9.out.fresh hb
                      obtain ⟨y0, y1, y2, y3⟩ := hkm.cells hlt
                      have HTE := hidd (hkm.tells HR.out hlt)
                      clear hkm
                      generalize (setB bk ti (fun q => bk (4 * si + q))) (4 * t + 0) = z0 at *
                      generalize (setB bk ti (fun q => bk (4 * si + q))) (4 * t + 1) = z1 at *
                      generalize (setB bk ti (fun q => bk (4 * si + q))) (4 * t + 2) = z2 at *
                      generalize (setB bk ti (fun q => bk (4 * si + q))) (4 * t + 3) = z3 at *
                      go_wp2_with (go_at_call 15; with_reducible refine HTE.out.mono ?_; rintro e w10 ⟨rfl, f10⟩)
                      go_roundw
                      case rel => exact ⟨t + 1, by omega, by go_num, fresh_trans hb f10⟩
                      case measure => simp [intOf]; omega
                    · go_wp2
                      go_roundw
                      case rel => exact ⟨i + 1, _, (setB bk ti (fun q => bk (4 * si + q))), by omega, by go_num, HK9.out.fresh hb⟩
                      case measure => simp [intOf]; omega
                | false =>
                  rw [hM] at d0
                  clear hM HMT
                  have HF : Hid (∀ x, Calls Try.prog 12 #[.pointer (some ⟨g, 0, none⟩), .int .i64 si, .int .i64 x] wr fun e w' => ∃ b nv, e = .returned (.tuple #[.agg #[.slice (some ⟨b 0, 0, none⟩) 3 3, .slice (some ⟨b 1, 0, none⟩) 3 3, .slice (some ⟨b 2, 0, none⟩) 3 3, .slice (some ⟨b 3, 0, none⟩) 3 3], .bool true]) ∧ Hid (NoteAt w' b nv ∧ (∀ k, k < 4 → wr.heap.size ≤ b k) ∧ PoolAt w' g cb nb 2 3 k S cnt (setS num (si * 12) nv) ∧ Chg wr w' (fun b => b = nb))) := fun x => by
                    refine (fill_ok HKr.out.P HKr.out.geo (HR.out ▸ hsi) (HKr.out.cn _ (slot_in (HR.out ▸ hsi) hS1).1) x).mono ?_
                    rintro e w' ⟨b, nv, rfl, q1, q2, q3, q4⟩
                    exact ⟨b, nv, rfl, q1, q2, q3, q4⟩
                  go_upto_region 31 with (first
                    | (go_at_call 13; with_reducible refine HMS.out.mono ?_; rintro e w9 ⟨rfl, h9⟩; rw [h9]; clear h9 HMS)
                    | (go_at_call 12; with_reducible refine (HF.out _).mono ?_; rintro e w5 ⟨b, nv, rfl, H5⟩))
                  clear HF
                  obtain ⟨n5, m5, p5, c5⟩ := H5.out
                  have f6 := fresh_alloc w5 (.cells #[.slice (some ⟨b 0, 0, none⟩) 3 3, .slice (some ⟨b 1, 0, none⟩) 3 3, .slice (some ⟨b 2, 0, none⟩) 3 3, .slice (some ⟨b 3, 0, none⟩) 3 3] 34)
                  have hnlt := HKr.out.P.nums.lt
                  have HK9 := hidd (HKr.out.put hsi (n5.fresh f6) (fun q hq => by have := m5 q hq; omega) (p5.fresh f6) (c5.post f6) (fun j hj => setS_in hj) (fun j hj => setS_out hj))
                  obtain ⟨y0, y1, y2, y3⟩ := row4 (row4_new w5 34 (.slice (some ⟨b 0, 0, none⟩) 3 3) (.slice (some ⟨b 1, 0, none⟩) 3 3) (.slice (some ⟨b 2, 0, none⟩) 3 3) (.slice (some ⟨b 3, 0, none⟩) 3 3))
                  obtain ⟨FN, hrN, hFN⟩ := HKr.out.N
                  have hr6 := (c5.post f6).row hrN (rowIs_apart hrN HKr.out.P.nums (by decide))
                  have fz := hr6.frozen
                  have hca : ∀ q, q < 4 → (w5.alloc (.cells #[.slice (some ⟨b 0, 0, none⟩) 3 3, .slice (some ⟨b 1, 0, none⟩) 3 3, .slice (some ⟨b 2, 0, none⟩) 3 3, .slice (some ⟨b 3, 0, none⟩) 3 3] 34)).cell? ⟨gN, si * 4 + q, none⟩ = some (.slice (some ⟨bk (4 * si + q), 0, none⟩) 3 3) := fun q hq => by
                    rw [hr6.cell (i := si * 4 + q) (by omega), hFN _ (by omega), show si * 4 + q = 4 * si + q by omega]; rfl
                  have x0 := hca 0 (by decide)
                  have x1 := hca 1 (by decide)
                  have x2 := hca 2 (by decide)
                  have x3 := hca 3 (by decide)
                  simp only [Nat.add_zero] at x0
                  clear hca hr6 hrN hFN n5 m5 p5 c5 H5
                  generalize hw6 : w5.alloc (.cells #[.slice (some ⟨b 0, 0, none⟩) 3 3, .slice (some ⟨b 1, 0, none⟩) 3 3, .slice (some ⟨b 2, 0, none⟩) 3 3, .slice (some ⟨b 3, 0, none⟩) 3 3] 34) = w6 at *
                  clear hw6
                  obtain ⟨w9, hw9⟩ : ∃ w9, w9 = (((w6.setCell ⟨gN, si * 4, none⟩ (.slice (some ⟨b 0, 0, none⟩) 3 3)).setCell ⟨gN, si * 4 + 1, none⟩ (.slice (some ⟨b 1, 0, none⟩) 3 3)).setCell ⟨gN, si * 4 + 2, none⟩ (.slice (some ⟨b 2, 0, none⟩) 3 3)).setCell ⟨gN, si * 4 + 3, none⟩ (.slice (some ⟨b 3, 0, none⟩) 3 3) := ⟨_, rfl⟩
                  rw [← hw9] at HK9
                  go_upto_region 34 with fail
                  rw [← hw9]
                  clear hw9
                  go_wp2
                  go_loopw [24] (fun i wx => ∃ (t : Nat), t ≤ s ∧ i = .int .i64 t ∧ Below w9.heap.size w9 wx) (fun i _ => s - (intOf i).toNat)
                  case atStart => exact ⟨0, by omega, rfl, Below.refl _ _⟩
                  case round =>
                    obtain ⟨t, ht, rfl, hb⟩ := hrel
                    by_cases hlt : t < s
                    · have hkm := HK9.out.fresh hb
                      obtain ⟨y0, y1, y2, y3⟩ := hkm.cells hlt
                      have HTE := hidd (hkm.tells HR.out hlt)
                      clear hkm
                      generalize (setB bk si b) (4 * t + 0) = z0 at *
                      generalize (setB bk si b) (4 * t + 1) = z1 at *
                      generalize (setB bk si b) (4 * t + 2) = z2 at *
                      generalize (setB bk si b) (4 * t + 3) = z3 at *
                      go_wp2_with (go_at_call 15; with_reducible refine HTE.out.mono ?_; rintro e w10 ⟨rfl, f10⟩)
                      go_roundw
                      case rel => exact ⟨t + 1, by omega, by go_num, fresh_trans hb f10⟩
                      case measure => simp [intOf]; omega
                    · go_wp2
                      go_roundw
                      case rel => exact ⟨i + 1, _, (setB bk si b), by omega, by go_num, HK9.out.fresh hb⟩
                      case measure => simp [intOf]; omega
              · go_wp2
                go_ret
                exact ⟨rfl, hKr.low⟩
end Go.Proofs.Ytppcgfdogacmkaa
