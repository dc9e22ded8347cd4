import Derived.Test.YtppcgfdogacmkaaLPMv
namespace Go.Proofs.Ytppcgfdogacmkaa
open Go.RowKit
/-! PoolMoves: the walk. -/
theorem rowIs_cell {w : World} {b n o : Nat} {t : TypeId} {f : Nat → Value} {v : Value} (h : w.rowIs b t n f) (hc : w.cell? ⟨b, o, none⟩ = some v) : ∃ i, i < n ∧ v = f i := by
  by_cases ho : o < n
  · rw [h.cell ho] at hc
    cases hc
    exact ⟨o, ho, rfl⟩
  · obtain ⟨c, hb, hs, _⟩ := h
    simp [World.cell?, hb] at hc
    have := (Array.getElem?_eq_some_iff.1 hc).1
    omega
theorem mcs_one (F T : Nat → Nat) (j : Nat) : (mcs F T j).oneCell' = true := by unfold mcs; split <;> rfl
theorem note_cells (w0 : World) (t : TypeId) {bk b : Nat → Nat} {n : Nat} : ∀ j, j < 1 * 4 → (w0.alloc (.cells #[.slice (some ⟨b 0, 0, none⟩) 3 3, .slice (some ⟨b 1, 0, none⟩) 3 3, .slice (some ⟨b 2, 0, none⟩) 3 3, .slice (some ⟨b 3, 0, none⟩) 3 3] t)).cell? ⟨w0.heap.size, j, none⟩ = some (nt (pushB bk n b) (n * 4 + j)) := fun j hj => by
  have r := row4_new w0 t (.slice (some ⟨b 0, 0, none⟩) 3 3) (.slice (some ⟨b 1, 0, none⟩) 3 3) (.slice (some ⟨b 2, 0, none⟩) 3 3) (.slice (some ⟨b 3, 0, none⟩) 3 3)
  rw [r.cell (i := j) (by omega)]
  unfold nt
  rw [show n * 4 + j = 4 * n + j by omega, pushB_at]
  match j, hj with
  | 0, _ => rfl
  | 1, _ => rfl
  | 2, _ => rfl
  | 3, _ => rfl
theorem move_cells (w0 : World) (t : TypeId) {F T : Nat → Nat} {n x y : Nat} (hx : F n = x) (hy : T n = y) : ∀ j, j < 1 * 2 → (w0.alloc (.cells #[.int .i64 (x : Int), .int .i64 (y : Int)] t)).cell? ⟨w0.heap.size, j, none⟩ = some (mcs F T (n * 2 + j)) := fun j hj => by
  obtain ⟨x1, x2⟩ := row2m w0 t (.int .i64 (x : Int)) (.int .i64 (y : Int))
  match j, hj with
  | 0, _ => rw [x1, ← hx]; exact congrArg some (mcs0 F T n).symm
  | 1, _ => rw [x2, ← hy]; exact congrArg some (mcs1 F T n).symm
set_option maxRecDepth 100000 in
set_option maxHeartbeats 8000000 in
theorem moves_law {w : World} {bo : Option Addr} {m cap : Nat} {f : Nat → Int} (a0 a1 : Int) (hr : RdA w bo 1 m cap (fun i => .int .i64 (f i))) :
    Calls Try.prog 4 #[.int .i64 a0, .int .i64 a1, .slice bo m cap] w fun e w' => e = .returned (.bool true) ∧ Below w.heap.size w w' := by
  have hcap : cap ≤ 9223372036854775807 := by have := hr.top; unfold maxLen at this; omega
  have hnc := hr.le
  by_cases hlong : 2147483647 < m
  · have HL := hidd (long_yes w hlong (by omega))
    go_enter Try.func4, Try.ntmps4
    go_wp2_with (go_at_call 9; with_reducible refine HL.out.mono ?_; rintro e w9 ⟨rfl, h9⟩; rw [h9]; clear h9)
    go_ret
    exact ⟨rfl, Below.refl _ _⟩
  · have HL := hidd (long_no (n := m) w (by omega))
    have HM := hidd (made_pool w a0 a1)
    go_enter Try.func4, Try.ntmps4
    go_upto_region 4 with (first
      | (go_at_call 9; with_reducible refine HL.out.mono ?_; rintro e w9 ⟨rfl, h9⟩; rw [h9]; clear h9)
      | (go_at_call 10; with_reducible refine HM.out.mono ?_; rintro e w1 ⟨g, cb, nb, B, S, ao, ac, rfl, hP, hnew, hB, hS, hlow⟩))
    clear HM HL
    obtain ⟨hB1, hB2⟩ := hB
    obtain ⟨hS1, hS2⟩ := hS
    obtain ⟨R, hR⟩ : ∃ R, R = B * S := ⟨_, rfl⟩
    have hRb : 1 ≤ R ∧ R ≤ 102 := by
      rw [hR]
      have h1 := Nat.mul_le_mul hB1 hS1
      have h2 := Nat.mul_le_mul hB2 hS2
      omega
    obtain ⟨hR1, hR2⟩ := hRb
    have eR : (B : Int) * (S : Int) = (R : Int) := by rw [hR]; push_cast; rfl
    have HR := hidd hR
    have HRD := hidd hr
    have HP0 := hidd hP
    have HNW := hidd hnew
    clear hR hr hP hnew
    go_wp2
    go_loopw [12] (fun i wr => ∃ (k : Nat) (num : Nat → Int), k ≤ B ∧ i = .int .i64 k ∧ PoolAt wr g cb nb 2 3 B S (takesC B (fun _ => 0) k) num ∧ Below w.heap.size w wr) (fun i _ => B - (intOf i).toNat)
    case atStart => exact ⟨0, _, by omega, rfl, HP0.out, hlow⟩
    case round =>
      clear HP0 hlow
      obtain ⟨k, num, hk, rfl, hP, hlow⟩ := hrel
      by_cases hlt : k < B
      · have HK : Hid (Calls Try.prog 11 #[.pointer (some ⟨g, 0, none⟩)] wr fun e w' => ∃ b num', e = .returned (.tuple #[.int .i64 b, .int .i64 0]) ∧ Hid (PoolAt w' g cb nb 2 3 B S (takesC B (fun _ => 0) (k + 1)) num' ∧ Below w.heap.size w w')) := by
          obtain ⟨q, n, T, G⟩ := hP.geo
          have h1 := takes_free (B := B) (c := fun _ => 0) k (by rw [freeN_zero]; omega)
          rw [freeN_zero] at h1
          refine (take_low hP G (by omega)).mono ?_
          rintro e w' ⟨rfl, q1, q2⟩
          exact ⟨_, _, rfl, q1, q2.below hlow hlow.size (fun x e => by have := HNW.out; rcases e with e | e <;> omega)⟩
        clear hP hlow
        go_wp2_with (go_at_call 11; with_reducible refine HK.out.mono ?_; rintro e w9 ⟨b9, num9, rfl, H9⟩)
        clear HK
        go_roundw
        case rel => exact ⟨k + 1, num9, by omega, by go_num, H9.out.1, H9.out.2⟩
        case measure => simp [intOf]; omega
      · obtain rfl : k = B := by omega
        have HK0 := hidd (kp_start hP hlow HNW.out takes_all)
        generalize takesC k (fun _ => 0) k = cnt at *
        generalize hbase : wr.heap.size = base at *
        clear hbase hP hlow
        go_wp2
        go_loopw [11, 13] (fun v i wx => ∃ (s : Nat) (num : Nat → Int) (bk : Nat → Nat), s ≤ R ∧ i = .int .i64 s ∧ Kp w wx g cb nb k S base cnt num v s bk) (fun _ i _ => R - (intOf i).toNat)
        case atStart => exact ⟨0, _, _, by omega, rfl, HK0.out⟩
        case round =>
          clear HK0
          obtain ⟨s, num, bk, hs, rfl, hK⟩ := hrel
          have HK := hidd hK
          by_cases hlt : s < R
          · have HF : Hid (∀ x, Calls Try.prog 12 #[.pointer (some ⟨g, 0, none⟩), .int .i64 s, .int .i64 x] wr fun e w' => ∃ b nv, e = .returned (.tuple #[.agg #[.slice (some ⟨b 0, 0, none⟩) 3 3, .slice (some ⟨b 1, 0, none⟩) 3 3, .slice (some ⟨b 2, 0, none⟩) 3 3, .slice (some ⟨b 3, 0, none⟩) 3 3], .bool true]) ∧ Hid (NoteAt w' b nv ∧ (∀ k, k < 4 → wr.heap.size ≤ b k) ∧ PoolAt w' g cb nb 2 3 k S cnt (setS num (s * 12) nv) ∧ Chg wr w' (fun b => b = nb))) := fun x => by
              refine (fill_ok hK.P hK.geo (HR.out ▸ hlt) (hK.cn _ (slot_in (HR.out ▸ hlt) hS1).1) x).mono ?_
              rintro e w' ⟨b, nv, rfl, q1, q2, q3, q4⟩
              exact ⟨b, nv, rfl, q1, q2, q3, q4⟩
            have hbs := hK.bs
            obtain ⟨vo, vc, rfl, _⟩ := hK.own.rd
            clear hK
            go_upto_region 15 with (go_at_call 12; with_reducible refine (HF.out _).mono ?_; rintro e w2 ⟨b, nv, rfl, H2⟩)
            clear HF
            have fN := fresh_alloc w2 (.cells #[.slice (some ⟨b 0, 0, none⟩) 3 3, .slice (some ⟨b 1, 0, none⟩) 3 3, .slice (some ⟨b 2, 0, none⟩) 3 3, .slice (some ⟨b 3, 0, none⟩) 3 3] 34)
            obtain ⟨y0, y1, y2, y3⟩ := row4 (row4_new w2 34 (.slice (some ⟨b 0, 0, none⟩) 3 3) (.slice (some ⟨b 1, 0, none⟩) 3 3) (.slice (some ⟨b 2, 0, none⟩) 3 3) (.slice (some ⟨b 3, 0, none⟩) 3 3))
            have hsz2 := H2.out.2.2.2.size
            have HO2 : Hid (Own w2 base 34 4 (.slice vo s vc) s (nt (pushB bk s b))) := (Own.chg H2.out.2.2.2 HK.out.own (fun q hq e => by subst e; exact HK.out.own.apart HK.out.P.nums (by decide) hq)).congr (fun j hj => by unfold nt; rw [pushB_lt (by omega)])
            generalize hw3 : w2.alloc (.cells #[.slice (some ⟨b 0, 0, none⟩) 3 3, .slice (some ⟨b 1, 0, none⟩) 3 3, .slice (some ⟨b 2, 0, none⟩) 3 3, .slice (some ⟨b 3, 0, none⟩) 3 3] 34) = w3 at *
            have hsz3 := fN.size
            clear hw3
            go_wp2_with (at_builtin; refine wpList_app _ rfl _ _ 28 rfl base 34 (.agg #[.slice none 0 0, .slice none 0 0, .slice none 0 0, .slice none 0 0]) 4 96 Try.underlying28 infoNote rfl (by decide) _ s (nt (pushB bk s b)) rfl ((HO2.out.kept fN).kept (fresh_alloc _ _)) _ 1 1 rfl (note_cells _ _) (fun _ _ => rfl) (by decide) (by unfold maxLen; omega) (by omega) (by simp; omega) ?_)
            intro v' w4 hown' happ
            have HK4 := hidd (HK.out.push H2.out.1 H2.out.2.1 H2.out.2.2.1 H2.out.2.2.2 (fresh_trans fN (fresh_alloc _ _)) hown' happ)
            obtain ⟨v4, c4, rfl, _⟩ := hown'.rd
            clear happ hown' HO2 H2 HK y0 y1 y2 y3 fN
            go_wp2
            go_roundw
            case rel => exact ⟨s + 1, _, _, by omega, by go_num, HK4.out⟩
            case measure => simp [intOf]; omega
          · obtain rfl : s = R := by omega
            obtain ⟨gN, cN, rfl, hKr⟩ := hK.kr hR1
            have HKr := hidd hKr
            have HOR := hidd (order_any (n := s) (HRD.out.fresh hKr.low) (by omega))
            clear hK HK hKr
            go_upto_region 19 with (go_at_call 16; with_reducible refine HOR.out.mono ?_; rintro e w5 ⟨vp, p, rfl, hpm, hrp, f5⟩)
            clear HOR
            have HKr5 := hidd (HKr.out.fresh f5)
            have HPM := hidd hpm
            obtain ⟨po, pc, rfl, hrp⟩ := hrp
            have HRP := hidd hrp
            clear HKr hpm hrp f5
            generalize hb5 : w5.heap.size = b5 at *
            have HB5 := hidd hb5
            have hnb5 : nb < b5 := by rw [← hb5]; exact HKr5.out.P.nums.lt
            clear hb5
            go_wp2
            go_loopw [17, 18, 19] (fun v u i wx => ∃ (q : Nat), q ≤ s ∧ i = .int .i64 q ∧ Own wx b5 42 2 v q (mcs (fun i => i) p) ∧ Own wx b5 42 2 u q (mcs p (fun i => i)) ∧ Off v u ∧ Below b5 w5 wx) (fun _ _ i _ => s - (intOf i).toNat)
            case atStart => exact ⟨0, by omega, rfl, own_nil _ _ _ _ _, own_nil _ _ _ _ _, off_nil _, Below.refl _ _⟩
            case round =>
              obtain ⟨q, hq, rfl, hv, hu, hoff, hb⟩ := hrel
              have hbs : b5 ≤ wr.heap.size := by have := hb.size; rw [HB5.out] at this; exact this
              by_cases hlq : q < s
              · obtain ⟨p1, p2, rfl, hpc⟩ := (HRP.out.fresh (by rw [HB5.out]; exact hb)).one (by omega)
                have d1 := hpc q hlq
                have hpl := HRP.out.le
                have HV := hidd hv
                have HU := hidd hu
                have HOFF := hidd hoff
                have HPC : Hid (∀ z, Below b5 w5 z → z.cell? ⟨p1, p2 + q, none⟩ = some (.int .i64 (p q : Nat))) := fun z f => by
                  obtain ⟨p3, p4, e3, hpc3⟩ := (HRP.out.fresh (by rw [HB5.out]; exact f)).one (by omega)
                  simp only [Option.some.injEq, Addr.mk.injEq] at e3
                  obtain ⟨rfl, rfl, _⟩ := e3
                  exact hpc3 q hlq
                obtain ⟨v1, v2, rfl, _⟩ := hv.rd
                obtain ⟨u1, u2, rfl, _⟩ := hu.rd
                have HX1 := hidd (fun (w0 : World) (t : TypeId) => move_cells w0 t (F := fun i => i) (T := p) (n := q) (x := q) (y := p q) rfl rfl)
                have HX2 := hidd (fun (w0 : World) (t : TypeId) => move_cells w0 t (F := p) (T := fun i => i) (n := q) (x := p q) (y := q) rfl rfl)
                clear hv hu hoff hpc
                generalize p q = y at *
                go_wp2_with (first
                  | (at_builtin; refine wpList_app _ rfl _ _ 47 rfl b5 42 (.agg #[.int .i64 0, .int .i64 0]) 2 16 Try.underlying47 infoMove rfl (by decide) _ q (mcs (fun i => i) p) rfl (HV.out.kept (fresh_alloc _ _)) _ 1 1 rfl (HX1.out _ _) (fun _ _ => mcs_one _ _ _) (by decide) (by unfold maxLen; omega) (by omega) (by simp; omega) ?_; intro v' w6 hown' happ; have HV6 := hidd hown'; have HU6 := hidd (happ.own (HU.out.kept (fresh_alloc _ _)) HOFF.out); have HF6 := hidd (happ.off (HU.out.kept (fresh_alloc _ _)) HOFF.out); have hb6 := happ.below (hb.alloc hbs _) (HV.out.kept (fresh_alloc _ _)) (Nat.le_refl _) (by simp; omega); have d6 := HPC.out _ hb6; have hbs6 : b5 ≤ w6.heap.size := (by have := hb6.size; rw [HB5.out] at this; exact this); obtain ⟨v3, v4, rfl, _⟩ := hown'.rd; clear hown' happ HX1 HV d1)
                  | (at_builtin; refine wpList_app _ rfl _ _ 47 rfl b5 42 (.agg #[.int .i64 0, .int .i64 0]) 2 16 Try.underlying47 infoMove rfl (by decide) _ q (mcs p (fun i => i)) rfl (HU6.out.kept (fresh_alloc _ _)) _ 1 1 rfl (HX2.out _ _) (fun _ _ => mcs_one _ _ _) (by decide) (by unfold maxLen; omega) (by omega) (by simp; omega) ?_; intro u' w7 hown' happ; have HU7 := hidd hown'; have HV7 := hidd (happ.own (HV6.out.kept (fresh_alloc _ _)) HF6.out.symm); have HF7 := hidd (happ.off (HV6.out.kept (fresh_alloc _ _)) HF6.out.symm); have hb7 := happ.below (hb6.alloc hbs6 _) (HU6.out.kept (fresh_alloc _ _)) (Nat.le_refl _) (by simp; omega); obtain ⟨u3, u4, rfl, _⟩ := hown'.rd; clear hown' happ HX2 d6))
                go_roundw
                case rel => exact ⟨q + 1, by omega, by go_num, HV7.out, HU7.out, HF7.out.symm, hb7⟩
                case measure => simp [intOf]; omega
              · obtain rfl : q = s := by omega
                obtain ⟨tb, tc, rfl, ht1, htb⟩ := mcs_cells hv hR1
                obtain ⟨ub, uc, rfl, hu1, hub⟩ := mcs_cells hu hR1
                have hf5 : Below w5.heap.size w5 wr := by rw [HB5.out]; exact hb
                have HKm := hidd (HKr5.out.fresh hf5).km
                have HMV := hidd (move_ok (q := 12) HKm.out.P HKm.out.geo ht1 (fun i hi => ⟨HR.out ▸ hi, HKm.out.cn _ (slot_in (HR.out ▸ hi) hS1).1⟩) (fun i hi => ⟨HR.out ▸ HPM.out.lt i hi, HKm.out.cn _ (slot_in (HR.out ▸ HPM.out.lt i hi) hS1).1⟩) (fun i j hi hj => HPM.out.inj hi hj) (fun b off e => by cases e; omega))
                have HU1 := hidd hu1
                have HRP1 := hidd (HRP.out.fresh hf5)
                clear hv hu hoff ht1 hu1 HRP HKr5 hf5 hb
                go_upto_region 26 with (go_at_call 14; with_reducible refine HMV.out.mono ?_; rintro e w8 ⟨rfl, hP8, hC8⟩)
                have HKm8 := hidd (HKm.out.chg hP8 hC8)
                have HU8 := hidd (HU1.out.chg hC8 (fun b off e => by cases e; omega))
                have hp8 := HRP1.out.chg hC8 (fun b off e k => by
                  subst k
                  obtain ⟨b9, o9, e9, hc9⟩ := HRP1.out.one (by omega)
                  rw [e] at e9
                  cases e9
                  obtain ⟨i, _, hi⟩ := rowIs_cell HKm.out.P.nums (hc9 0 (by omega))
                  cases hi)
                have HRP8 := hidd hp8
                have HNU : Hid (∀ t, t < q → ∀ j, j < 12 → num (t * 12 + j) = movedN num 12 (fun i => i) p q (p t * 12 + j)) := fun t ht j hj => (moved_at (F := fun i => i) (T := p) (n := q) (fun i j hi hj => HPM.out.inj hi hj) (Nat.le_refl _) ht hj).symm
                have hcN := HKm.out.nc
                clear hp8 HKm HMV HU1 HRP1 hP8 hC8
                go_wp2
                go_loopw [21] (fun i wx => ∃ (t : Nat), t ≤ q ∧ i = .int .i64 t ∧ Below w8.heap.size w8 wx) (fun i _ => q - (intOf i).toNat)
                case atStart => exact ⟨0, by omega, rfl, Below.refl _ _⟩
                case round =>
                  obtain ⟨t, ht, rfl, hb⟩ := hrel
                  by_cases hlt : t < q
                  · obtain ⟨p1, p2, rfl, hpc⟩ := (HRP8.out.fresh hb).one (by omega)
                    have d1 := hpc t hlt
                    have hpl := HRP8.out.le
                    have hkm := HKm8.out.fresh hb
                    obtain ⟨y0, y1, y2, y3⟩ := hkm.cells hlt
                    have HTE : Hid (∀ z : Later wr, Calls Try.prog 15 #[.pointer (some ⟨g, 0, none⟩), .int .i64 (p t : Nat), .agg #[.slice (some ⟨bk (4 * t + 0), 0, none⟩) 3 3, .slice (some ⟨bk (4 * t + 1), 0, none⟩) 3 3, .slice (some ⟨bk (4 * t + 2), 0, none⟩) 3 3, .slice (some ⟨bk (4 * t + 3), 0, none⟩) 3 3]] z.val fun e w' => e = .returned (.bool true) ∧ Below z.val.heap.size z.val w') := fun z => (hkm.fresh z.fresh).tells hlt (HR.out ▸ HPM.out.lt t hlt) (HNU.out t hlt)
                    have kd := later_cell d1
                    have ky0 := later_cell y0
                    have ky1 := later_cell y1
                    have ky2 := later_cell y2
                    have ky3 := later_cell y3
                    have hne := later_some wr
                    clear hpc hkm y0 y1 y2 y3 d1
                    generalize p t = y at *
                    generalize bk (4 * t + 0) = z0 at *
                    generalize bk (4 * t + 1) = z1 at *
                    generalize bk (4 * t + 2) = z2 at *
                    generalize bk (4 * t + 3) = z3 at *
                    go_upto_region 29 with fail
                    refine wp_region_later (by kernel_rfl) (by kernel_rfl) ?_
                    repeat (go_big_quiet_step (fail))
                    go_big_quiet_step (exact later_of (HTE.out _))
                    repeat (go_big_quiet_step (fail))
                    refine wpQuiet_nil ?_
                    rintro _ ⟨z, rfl⟩
                    have hz := z.fresh
                    clear kd ky0 ky1 ky2 ky3 HTE hne
                    generalize z.val = w9 at *
                    go_wp2
                    go_roundw
                    case rel => exact ⟨t + 1, by omega, by go_num, fresh_trans hb hz⟩
                    case measure => simp [intOf]; omega
                  · have HKm9 := hidd (HKm8.out.fresh hb)
                    have HMV := hidd (move_ok (q := 12) HKm9.out.P HKm9.out.geo (HU8.out.fresh hb) (fun i hi => ⟨HR.out ▸ HPM.out.lt i hi, HKm9.out.cn _ (slot_in (HR.out ▸ HPM.out.lt i hi) hS1).1⟩) (fun i hi => ⟨HR.out ▸ hi, HKm9.out.cn _ (slot_in (HR.out ▸ hi) hS1).1⟩) (fun i j hi hj => by show i ≠ j; omega) (fun b off e => by cases e; omega))
                    have HNU2 : Hid (∀ t, t < q → ∀ j, j < 12 → num (t * 12 + j) = movedN (movedN num 12 (fun i => i) p q) 12 p (fun i => i) q (t * 12 + j)) := fun t ht j hj => by
                      rw [moved_at (num := movedN num 12 (fun i => i) p q) (F := p) (T := fun i => i) (n := q) (m := q) (i := t) (q := 12) (fun i j hi hj => by show i ≠ j; omega) (Nat.le_refl _) ht hj]
                      exact HNU.out t ht j hj
                    clear HNU HU8 HKm8 HRP8 hb
                    go_upto_region 33 with (go_at_call 14; with_reducible refine HMV.out.mono ?_; rintro e w9 ⟨rfl, hP9, hC9⟩)
                    have HKm10 := hidd (HKm9.out.chg hP9 hC9)
                    clear HMV HKm9 hP9 hC9
                    go_wp2
                    go_loopw [24] (fun i wx => ∃ (t : Nat), t ≤ q ∧ i = .int .i64 t ∧ Below w9.heap.size w9 wx) (fun i _ => q - (intOf i).toNat)
                    case atStart => exact ⟨0, by omega, rfl, Below.refl _ _⟩
                    case round =>
                      obtain ⟨t, ht, rfl, hb⟩ := hrel
                      by_cases hlt : t < q
                      · have hkm := HKm10.out.fresh hb
                        obtain ⟨y0, y1, y2, y3⟩ := hkm.cells hlt
                        have HTE := hidd (hkm.tells hlt (HR.out ▸ hlt) (HNU2.out t hlt))
                        clear hkm
                        generalize bk (4 * t + 0) = z0 at *
                        generalize bk (4 * t + 1) = z1 at *
                        generalize bk (4 * t + 2) = z2 at *
                        generalize bk (4 * t + 3) = z3 at *
                        go_wp2_with (go_at_call 15; with_reducible refine HTE.out.mono ?_; rintro e w10 ⟨rfl, f10⟩)
                        go_roundw
                        case rel => exact ⟨t + 1, by omega, by go_num, fresh_trans hb f10⟩
                        case measure => simp [intOf]; omega
                      · go_wp2
                        go_ret
                        exact ⟨rfl, (HKm10.out.fresh hb).low⟩
end Go.Proofs.Ytppcgfdogacmkaa
