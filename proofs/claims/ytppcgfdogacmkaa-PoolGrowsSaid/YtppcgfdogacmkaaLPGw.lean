import Derived.Test.YtppcgfdogacmkaaLPGr
namespace Go.Proofs.Ytppcgfdogacmkaa
open Go.RowKit
/-! PoolGrows: the walk. -/
set_option maxRecDepth 100000 in
set_option maxHeartbeats 4000000 in
theorem grows_law (w : World) (a0 a1 a2 n m : Int) (hn1 : -9223372036854775808 ≤ n) (hn2 : n ≤ 9223372036854775807) :
    Calls Try.prog 5 #[.int .i64 a0, .int .i64 a1, .int .i64 a2, .int .i64 n, .int .i64 m] w fun e w' => e = .returned (.bool true) ∧ Below w.heap.size w w' := by
  have HM : Hid (Calls Try.prog 10 #[.int .i64 a0, .int .i64 a1, .int .i64 1] w fun e w' => ∃ x : Fx, e = .returned (.tuple #[.pointer (some ⟨x.g, 0, none⟩), .slice (some ⟨x.lb, 0, none⟩) 1 x.lc, .int .i64 x.B, .int .i64 x.S]) ∧ x.w0 = w ∧ x.tn = 1 ∧ (2 ≤ x.B ∧ x.B ≤ 17) ∧ (1 ≤ x.S ∧ x.S ≤ 6) ∧ St x w' Dy.zero) := made_st w a0 a1 1 (by decide) (by decide)
  go_enter Try.func5, Try.ntmps5
  go_upto_region 2 with (go_at_call 10; with_reducible refine HM.out.mono ?_; rintro e w1 ⟨x, rfl, rfl, ht, hB, hS, hst⟩)
  clear HM
  have HSt := hidd hst
  have c1 := hst.cell (i := 0) (by omega)
  clear hst
  have hmd := md_lt a2 (show 0 < x.B by omega)
  have HMD := hidd (mod_any a2 x.B w1 (by omega) (by omega))
  obtain ⟨gone, hgone⟩ : ∃ k, k = md a2 x.B := ⟨_, rfl⟩
  rw [← hgone] at HMD hmd
  clear hgone
  obtain ⟨hB1, hB2⟩ := hB
  obtain ⟨hS1, hS2⟩ := hS
  go_wp2_with (go_at_call 13; with_reducible refine HMD.out.mono ?_; rintro e w9 ⟨rfl, h9⟩; rw [h9]; clear h9)
  clear HMD
  go_loopw [16] (fun i wr => ∃ (k : Nat) (s : Dy), k ≤ gone ∧ i = .int .i64 k ∧ St x wr s ∧ s.cnt = takesC x.B (fun _ => 0) k ∧ s.m 0 = 0) (fun i _ => gone - (intOf i).toNat)
  case atStart => exact ⟨0, Dy.zero, by omega, rfl, HSt.out, rfl, rfl⟩
  case round =>
    clear HSt c1
    obtain ⟨k, s, hk, rfl, hst, hcnt, hm0⟩ := hrel
    have hfr : freeN s.cnt x.B + k = x.B := by
      rw [hcnt]
      have h1 := takes_free (B := x.B) (c := fun _ => 0) k (by rw [freeN_zero]; omega)
      rw [freeN_zero] at h1
      exact h1
    by_cases hlt : k < gone
    · have HK := hidd (hst.take (by omega))
      have HC := hidd hcnt
      have HM0 := hidd hm0
      clear hfr hst hcnt hm0
      go_wp2_with (go_at_call 11; with_reducible refine HK.out.mono ?_; rintro e w9 ⟨rfl, h9⟩)
      clear HK
      go_roundw
      case rel => exact ⟨k + 1, _, by omega, by go_num, h9, by show updN s.cnt (lowF s.cnt x.B) 1 = _; rw [HC.out]; rfl, HM0.out⟩
      case measure => simp [intOf]; omega
    · obtain rfl : k = gone := by omega
      have hc1 : ∀ b, s.cnt b ≤ 1 := by rw [hcnt]; exact takes_le (fun _ => by decide) k
      have c1 := hst.cell (i := 0) (by omega)
      clear hcnt
      obtain ⟨fr, hfe⟩ : ∃ fr, fr = freeN s.cnt x.B := ⟨_, rfl⟩
      rw [← hfe] at hfr
      have HSt := hidd hst
      have HFE := hidd hfe
      have HM0 := hidd hm0
      have HC1 := hidd hc1
      clear hst hfe hm0 hc1
      have eF : (x.B : Int) - (k : Int) = (fr : Int) := by omega
      by_cases hneg : n < 0
      · have HG := hidd (grow_neg (w := wr) (t := x.tb 0) hneg)
        have HBl := hidd (HSt.out.blocks (i := 0) (by omega) (by rw [HM0.out]; decide))
        rw [HM0.out] at HBl
        go_wp2_with (first
          | (go_at_call 17; with_reducible refine HG.out.mono ?_; rintro e w9 ⟨rfl, h9⟩; rw [h9]; clear h9)
          | (go_at_call 18; with_reducible refine HBl.out.mono ?_; rintro e w9 ⟨ao, cap, rfl, _, _, h9⟩))
        go_ret
        exact ⟨rfl, h9.low⟩
      · obtain ⟨n, rfl⟩ : ∃ k : Nat, n = k := ⟨n.toNat, by omega⟩
        have hnn : n ≤ 9223372036854775807 := by omega
        obtain ⟨N, hN⟩ : ∃ N, N = needs n x.S := ⟨_, rfl⟩
        have hNle : N ≤ n + 1 := hN ▸ needs_le n x.S
        have hNd : N = n / x.S + (if n % x.S = 0 then 0 else 1) := hN
        have HN := hidd hN
        have HND := hidd hNd
        clear hN hNd
        have hz : ¬ (x.S : Int) = 0 := by omega
        have hz' : ((x.S : Int) == 0) = false := by simp; omega
        have e1 : (n : Int).tmod (x.S : Int) = ((n % x.S : Nat) : Int) := rfl
        have e2 : (n : Int) % (x.S : Int) = ((n % x.S : Nat) : Int) := rfl
        have e3 : (n : Int).tdiv (x.S : Int) = ((n / x.S : Nat) : Int) := rfl
        have e4 : (n : Int) / (x.S : Int) = ((n / x.S : Nat) : Int) := rfl
        have hd := Nat.div_le_self n x.S
        have hr : n % x.S ≠ 0 → n / x.S < n := fun h => by
          have := Nat.div_add_mod n x.S
          have h2 : n / x.S ≤ x.S * (n / x.S) := Nat.le_mul_of_pos_left _ (by omega)
          omega
        generalize n / x.S = d at *
        generalize n % x.S = r at *
        by_cases hfull : fr < N
        · have HG := hidd (grow_full HSt.out.P (HSt.out.T 0 (by omega)) (by rw [HM0.out]; decide) hnn (by rw [← HFE.out, HM0.out, ← HN.out]; exact hfull))
          have HBl := hidd (HSt.out.blocks (i := 0) (by omega) (by rw [HM0.out]; decide))
          rw [HM0.out] at HBl
          go_upto_if 78 with (go_at_call 17; with_reducible refine HG.out.mono ?_; rintro e w9 ⟨rfl, h9⟩; rw [h9]; clear h9)
          go_cut [18] (fun s wx => wx = wr ∧ s = .int .i64 N)
          case first =>
            by_cases h0 : r = 0
            · subst h0
              have HQ : Hid ((d : Int) = N) := by show _ = _; have := HND.out; simp at this; omega
              go_wp2_with fail
              go_meet
              case rel => exact ⟨rfl, by rw [HQ.out]⟩
            · have HQ : Hid ((d : Int) + 1 = N) := by show _ = _; have := HND.out; rw [if_neg h0] at this; omega
              have hdn := hr h0
              have hr0 : (0 : Int) < (r : Int) := by omega
              have hr1 : decide ((0 : Int) < (r : Int)) = true := by simp; omega
              clear hr h0
              go_wp2_with fail
              go_meet
              case rel => exact ⟨rfl, by rw [HQ.out]⟩
          case rest =>
            obtain ⟨hw, hs⟩ := hcut
            subst hs
            rw [hw]
            clear hw wc e1 e2 e3 e4
            have b1 : decide ((fr : Int) < (N : Int)) = true := by simp; omega
            go_wp2_with (first
              | (go_at_call 18; with_reducible refine HBl.out.mono ?_; rintro e w9 ⟨ao, cap, rfl, _, _, h9⟩; have HL := hidd h9.left; rw [← HFE.out] at HL)
              | (go_at_call 19; with_reducible refine HL.out.mono ?_; rintro e w8 ⟨rfl, h8⟩; rw [h8]; clear h8))
            go_ret
            exact ⟨rfl, h9.low⟩
        · have hNB : N ≤ 17 := by omega
          have hn102 : n ≤ 102 := needs_small (S := x.S) (B := 17) ⟨hS1, hS2⟩ (by decide) (by rw [← HN.out]; exact hNB)
          have HG := hidd (grow_st HSt.out ht HM0.out HC1.out HFE.out.symm hnn (by rw [← HN.out]; omega))
          rw [← HN.out] at HG
          clear HC1 HM0 HSt
          go_upto_if 78 with (go_at_call 17; with_reducible refine HG.out.mono ?_; rintro e w2 ⟨rfl, c2, H2⟩)
          clear HG
          go_cut [18] (fun s wx => wx = w2 ∧ s = .int .i64 N)
          case first =>
            by_cases h0 : r = 0
            · subst h0
              have HQ : Hid ((d : Int) = N) := by show _ = _; have := HND.out; simp at this; omega
              go_wp2_with fail
              go_meet
              case rel => exact ⟨rfl, by rw [HQ.out]⟩
            · have HQ : Hid ((d : Int) + 1 = N) := by show _ = _; have := HND.out; rw [if_neg h0] at this; omega
              have hdn := hr h0
              have hr0 : (0 : Int) < (r : Int) := by omega
              have hr1 : decide ((0 : Int) < (r : Int)) = true := by simp; omega
              clear hr h0
              go_wp2_with fail
              go_meet
              case rel => exact ⟨rfl, by rw [HQ.out]⟩
          case rest =>
            obtain ⟨hw, hs⟩ := hcut
            subst hs
            rw [hw]
            clear hw wc e1 e2 e3 e4 c1 hd HND
            obtain ⟨s1, hS1', hG1⟩ := H2.out
            clear H2
            have b1 : decide ((fr : Int) < (N : Int)) = false := by simp; omega
            have HBl := hidd (hS1'.blocks (i := 0) (by omega) (by rw [hG1.m]; omega))
            rw [hG1.m] at HBl
            obtain ⟨f1, hf1⟩ : ∃ f1, f1 = freeN s1.cnt x.B := ⟨_, rfl⟩
            have hf2 : f1 + N = fr := by rw [hf1]; exact hG1.free
            have HF1 := hidd hf1
            have HS1 := hidd hS1'
            have HBS := hidd hS1'.bs
            have HG1 := hidd hG1
            clear hS1' hG1 hf1
            have e5 : (fr : Int) - (N : Int) = (f1 : Int) := by omega
            go_upto_region 20 with (first
              | (go_at_call 18; with_reducible refine HBl.out.mono ?_; rintro e w3 ⟨ao, cap, rfl, HO3, hf3, h3⟩; have HL := hidd h3.left; rw [← HF1.out] at HL)
              | (go_at_call 19; with_reducible refine HL.out.mono ?_; rintro e w8 ⟨rfl, h8⟩; rw [h8]; clear h8))
            clear HBl HL HF1 HS1
            have hbs3 : x.base ≤ w2.heap.size := HBS.out
            have HO := hidd HO3
            have H3 := hidd h3
            obtain ⟨NS, hNS⟩ : ∃ NS, NS = N * x.S := ⟨_, rfl⟩
            have e6 : (N : Int) * (x.S : Int) = (NS : Int) := by rw [hNS]; push_cast; rfl
            have hNS2 : NS ≤ 102 := by rw [hNS]; have := Nat.mul_le_mul hNB hS2; omega
            have HNS := hidd hNS
            clear hNS HO3 h3
            go_wp2
            go_loopw [20, 21] (fun v i wr => ∃ k : Nat, k ≤ NS ∧ i = .int .i64 k ∧ Own wr w3.heap.size 3 1 v k (fun j => .int .i64 ((s1.bl 0 (j / x.S) * x.S + j % x.S : Nat) : Int)) ∧ Below w3.heap.size w3 wr) (fun _ i _ => NS - (intOf i).toNat)
            case atStart => exact ⟨0, by omega, rfl, own_nil _ _ _ _ _, Below.refl _ _⟩
            case round =>
              obtain ⟨q, hq, rfl, hown, hf⟩ := hrel
              have h4 := H3.out.fresh hf
              have c4 := h4.cell (i := 0) (by omega)
              by_cases hlt : q < NS
              · as_aux_lemma =>
                have hqN : q / x.S < N := (Nat.div_lt_iff_lt_mul (by omega)).2 (by rw [← HNS.out]; exact hlt)
                have hrS := Nat.mod_lt q (show 0 < x.S by omega)
                have hbd := HG1.out.lt _ hqN
                have HSL := hidd (slot_any (h4.T 0 (by omega)) (by omega) (by rw [HG1.out.m]; omega) (by omega : q ≤ 9223372036854775807) (by rw [HG1.out.m]; exact hqN) (by omega))
                have HTM : Hid (timesN (fun j => ((s1.bl 0 (j / x.S) * x.S + j % x.S : Nat) : Int)) ((s1.bl 0 (q / x.S) * x.S + q % x.S : Nat) : Int) q = 0) := timesN_zero (fun j hj e => slots_ne (bl := s1.bl 0) (N := N) hS1 HG1.out.ne hj (by rw [← HNS.out]; exact hlt) (by exact_mod_cast e))
                obtain ⟨ab, ac, rfl, hrd⟩ := hown.rd
                have HTI := hidd (fun (z : World) (hz : Below wr.heap.size wr z) => times_any (hrd.fresh hz) ((s1.bl 0 (q / x.S) * x.S + q % x.S : Nat) : Int))
                rw [HTM.out] at HTI
                have HOW := hidd hown
                have hrb := HO.out.rd
                obtain ⟨ao', cap', hv, hrb⟩ := hrb
                simp only [Value.slice.injEq] at hv
                obtain ⟨rfl, _, rfl⟩ := hv
                obtain ⟨b0, o0, rfl, hcl⟩ := (hrb.fresh hf).one (Nat.lt_of_le_of_lt (Nat.zero_le _) hqN)
                have cbd := hcl _ hqN
                clear hcl hrb hrd hown h4
                obtain ⟨y, hy⟩ : ∃ y, y = s1.bl 0 (q / x.S) * x.S + q % x.S := ⟨_, rfl⟩
                have q1 : y / x.S = s1.bl 0 (q / x.S) := by rw [hy]; exact slot_quo hrS
                have q2 : y % x.S = q % x.S := by rw [hy]; exact slot_rem hrS
                rw [← hy] at HSL HTI
                have HYc : Hid (∀ (w0 : World) (t : TypeId), (w0.alloc (.cells #[.int .i64 y] t)).cell? ⟨w0.heap.size, 0, none⟩ = some ((fun j => Value.int .i64 ((s1.bl 0 (j / x.S) * x.S + j % x.S : Nat) : Int)) q)) := fun w0 t => by rw [new_cell, hy]
                have t1 : (y : Int).tdiv (x.S : Int) = ((y / x.S : Nat) : Int) := rfl
                have t2 : (y : Int) / (x.S : Int) = ((y / x.S : Nat) : Int) := rfl
                have t3 : (y : Int).tmod (x.S : Int) = ((y % x.S : Nat) : Int) := rfl
                have t4 : (y : Int) % (x.S : Int) = ((y % x.S : Nat) : Int) := rfl
                have t5 : (q : Int).tdiv (x.S : Int) = ((q / x.S : Nat) : Int) := rfl
                have t6 : (q : Int) / (x.S : Int) = ((q / x.S : Nat) : Int) := rfl
                have t7 : (q : Int).tmod (x.S : Int) = ((q % x.S : Nat) : Int) := rfl
                have t8 : (q : Int) % (x.S : Int) = ((q % x.S : Nat) : Int) := rfl
                rw [q1] at t1 t2
                rw [q2] at t3 t4
                have hdq := Nat.div_le_self q x.S
                have hyB : y ≤ 1000 := by rw [hy]; have := Nat.mul_le_mul (show s1.bl 0 (q / x.S) ≤ 17 by omega) hS2; omega
                clear hy q1 q2
                generalize s1.bl 0 (q / x.S) = bd at *
                generalize q / x.S = dq at *
                generalize q % x.S = rq at *
                go_upto_region 25 with (go_at_call 20; with_reducible refine HSL.out.mono ?_; rintro e w5 ⟨rfl, hf5⟩)
                have cb5 := fresh_cell hf5 cbd
                clear cbd HSL c4
                have hne := later_some w5
                have k0 := later_cell cb5
                have HTL : Hid (∀ z : Later w5, Calls Try.prog 21 #[.slice ab q ac, .int .i64 y] z.val fun e w' => e = .returned (.int .i64 0) ∧ w' = z.val) := fun z => HTI.out z.val (fresh_trans hf5 z.fresh)
                clear HTI
                refine wp_region_later (by kernel_rfl) (by kernel_rfl) ?_
                repeat (go_big_quiet_step (fail))
                go_big_quiet_step (exact later_same (HTL.out _))
                repeat (go_big_quiet_step (fail))
                refine wpQuiet_nil ?_
                rintro _ ⟨z, rfl⟩
                have hz6 := fresh_trans hf5 z.fresh
                clear k0 HTL hne
                generalize z.val = w6 at *
                have hszq := hf.size
                have hsz6 := hz6.size
                have HO6 := hidd (HOW.out.kept hz6)
                go_wp2_with (at_builtin; refine wpList_app1 _ rfl _ _ 45 rfl w3.heap.size 3 (.int .i64 0) 8 Try.underlying45 infoI rfl _ q (fun j => .int .i64 ((s1.bl 0 (j / x.S) * x.S + j % x.S : Nat) : Int)) rfl (HO6.out.kept (fresh_alloc _ _)) _ 1 rfl (HYc.out _ _) rfl (by omega) (by omega) (by simp; omega) ?_)
                intro v' w7 hown' happ
                have hf7 := happ.below ((hf.trans (hz6.mono hszq)).alloc (by omega) _) (HO6.out.kept (fresh_alloc _ _)) (Nat.le_refl _) (by simp; omega)
                clear happ HO6
                go_wp2
                go_roundw
                case rel => exact ⟨q + 1, by omega, by go_num, hown', hf7⟩
                case measure => simp [intOf]; omega
              · obtain rfl : q = NS := by omega
                have HSB := hidd (slot_bad (h4.T 0 (by omega)) (by omega) (by omega : q ≤ 9223372036854775807) (by rw [HG1.out.m, HNS.out, Nat.mul_div_cancel _ (by omega)]; exact Nat.le_refl _))
                have H4 := hidd h4
                have HOb := hidd (HO.out.kept hf)
                have hmk := md_lt m (show 0 < n + 1 by omega)
                obtain ⟨keep, hkeep⟩ : ∃ k, k = md m (n + 1) := ⟨_, rfl⟩
                obtain ⟨M, hM⟩ : ∃ M, M = n + 1 := ⟨_, rfl⟩
                have HMK : Hid (∀ w, Calls Try.prog 13 #[.int .i64 m, .int .i64 (M : Int)] w fun e w' => e = .returned (.int .i64 (keep : Int)) ∧ w' = w) := fun w => by rw [hkeep, hM]; exact mod_any m (n + 1) w (by omega) (by omega)
                rw [← hkeep] at hmk
                have e7 : (n : Int) + 1 = (M : Int) := by omega
                have hM2 : M ≤ 103 := by omega
                clear hM
                obtain ⟨K, hK⟩ : ∃ K, K = needs keep x.S := ⟨_, rfl⟩
                have hKN : K ≤ N := by rw [hK, HN.out]; exact needs_mono (by omega)
                have hKd : K = keep / x.S + (if keep % x.S = 0 then 0 else 1) := hK
                have HKD := hidd hKd
                have HK := hidd hK
                clear hK hKd hkeep hown h4
                have t1 : (keep : Int).tmod (x.S : Int) = ((keep % x.S : Nat) : Int) := rfl
                have t2 : (keep : Int) % (x.S : Int) = ((keep % x.S : Nat) : Int) := rfl
                have t3 : (keep : Int).tdiv (x.S : Int) = ((keep / x.S : Nat) : Int) := rfl
                have t4 : (keep : Int) / (x.S : Int) = ((keep / x.S : Nat) : Int) := rfl
                have hdk := Nat.div_le_self keep x.S
                generalize keep / x.S = d at *
                generalize keep % x.S = r at *
                have HTR : Hid (∀ z : World, Below wr.heap.size wr z → Calls Try.prog 22 #[.pointer (some ⟨x.tb 0, 0, none⟩), .int .i64 keep] z fun e w' => e = .returned (.int .i64 0) ∧ w'.cell? ⟨x.lb, 0, none⟩ = some (.pointer (some ⟨x.tb 0, 0, none⟩)) ∧ Hid (∃ s', St x w' s' ∧ s'.m 0 = K ∧ s'.bl 0 = s1.bl 0 ∧ freeN s'.cnt x.B + K = fr) ∧ Chg z w' (fun b => b < x.base)) := fun z hz => by
                  rw [HK.out]
                  exact trim_st (H4.out.fresh hz) ht HG1.out (by omega) (by omega) (by rw [← HK.out]; exact hKN)
                have HCL := hidd (fun (z : World) (hz : Below wr.heap.size wr z) => fresh_cell hz c4)
                go_upto_if 199 with (first
                  | (go_at_call 20; with_reducible refine HSB.out.mono ?_; rintro e w5 ⟨rfl, hf5⟩; have c5 := HCL.out _ hf5)
                  | (go_at_call 13; with_reducible refine (HMK.out _).mono ?_; rintro e w6 ⟨rfl, h6⟩; rw [h6]; clear h6)
                  | (go_at_call 22; with_reducible refine (HTR.out _ hf5).mono ?_; rintro e w7 ⟨rfl, c7, H7, hch7⟩))
                have HO7 := hidd (Own.chg hch7 (HOb.out.kept hf5) (fun b hb e => by have := (HOb.out.lt b hb).1; omega))
                clear HSB HMK HTR HCL c4 c5 HOb hch7
                go_cut [26] (fun s wx => wx = w7 ∧ s = .int .i64 K)
                case first =>
                  by_cases h0 : r = 0
                  · subst h0
                    have HQ : Hid ((d : Int) = K) := by show _ = _; have := HKD.out; simp at this; omega
                    go_wp2_with fail
                    go_meet
                    case rel => exact ⟨rfl, by rw [HQ.out]⟩
                  · have HQ : Hid ((d : Int) + 1 = K) := by show _ = _; have := HKD.out; rw [if_neg h0] at this; omega
                    have hr0 : (0 : Int) < (r : Int) := by omega
                    have hr1 : decide ((0 : Int) < (r : Int)) = true := by simp; omega
                    go_wp2_with fail
                    go_meet
                    case rel => exact ⟨rfl, by rw [HQ.out]⟩
                case rest =>
                  obtain ⟨hw, hs⟩ := hcut
                  subst hs
                  rw [hw]
                  clear hw wc t1 t2 t3 t4 HKD hdk
                  obtain ⟨s2, hS2', hm2, hbl2, hfr2⟩ := H7.out
                  clear H7
                  have HBl := hidd (hS2'.blocks (i := 0) (by omega) (by rw [hm2]; omega))
                  rw [hm2, hbl2] at HBl
                  obtain ⟨f2, hf2e⟩ : ∃ f2, f2 = freeN s2.cnt x.B := ⟨_, rfl⟩
                  rw [← hf2e] at hfr2
                  have HF2 := hidd hf2e
                  have e8 : (fr : Int) - (K : Int) = (f2 : Int) := by omega
                  clear hS2' hm2 hbl2 hf2e
                  rcases own_cases HO7.out with ⟨hv, hv0⟩ | ⟨b0, k0, hv⟩
                  · simp only [Value.slice.injEq] at hv
                    obtain ⟨rfl, rfl, rfl⟩ := hv
                    obtain rfl : K = 0 := by omega
                    obtain rfl : f2 = fr := by omega
                    clear e8
                    go_upto_region 35 with (go_at_call 18; with_reducible refine HBl.out.mono ?_; rintro e w8 ⟨a8, k8, rfl, HO8, hf8, h8⟩)
                    obtain ⟨a9, k9, hv9, hr9⟩ := HO8.rd
                    simp only [Value.slice.injEq] at hv9
                    obtain ⟨rfl, _, rfl⟩ := hv9
                    have HE := hidd (eqInts_same (g := fun _ => 0) hr9 (⟨Nat.le_refl _, by decide, fun h => absurd h (by omega)⟩ : RdA w8 none 1 0 0 _) (fun i hi => absurd hi (by omega)))
                    have HL8 : Hid (∀ w9, Below w8.heap.size w8 w9 → Calls Try.prog 19 #[.pointer (some ⟨x.g, 0, none⟩)] w9 fun e w' => e = .returned (.int .i64 (f2 : Nat)) ∧ w' = w9) := fun w9 h9 => by rw [HF2.out]; exact (h8.fresh h9).left
                    have HLW := hidd (fun (w9 : World) (h9 : Below w8.heap.size w8 w9) => (h8.fresh h9).low)
                    clear HO8 hr9 h8
                    go_wp2_with (first
                      | (go_at_call 23; with_reducible refine HE.out.mono ?_; rintro e w9 ⟨rfl, hf9⟩)
                      | (go_at_call 19; with_reducible refine (HL8.out _ hf9).mono ?_; rintro e w8 ⟨rfl, h8⟩; rw [h8]; clear h8))
                    go_ret
                    exact ⟨rfl, HLW.out _ hf9⟩
                  · simp only [Value.slice.injEq] at hv
                    obtain ⟨rfl, _, rfl⟩ := hv
                    go_upto_region 35 with (go_at_call 18; with_reducible refine HBl.out.mono ?_; rintro e w8 ⟨a8, k8, rfl, HO8, hf8, h8⟩)
                    obtain ⟨a9, k9, hv9, hr9⟩ := HO8.rd
                    simp only [Value.slice.injEq] at hv9
                    obtain ⟨rfl, _, rfl⟩ := hv9
                    obtain ⟨a10, k10, hv10, hr10⟩ := (HO7.out.kept hf8).rd
                    simp only [Value.slice.injEq] at hv10
                    obtain ⟨rfl, _, rfl⟩ := hv10
                    have hcap : N ≤ cap := hr10.le
                    have hcap2 : cap ≤ 9223372036854775807 := by have := hr10.top; unfold maxLen at this; omega
                    have HE := hidd (eqInts_same hr9 (⟨by omega, hr10.top, fun h => by obtain ⟨b, off, e1, hc⟩ := hr10.at_ (by omega); exact ⟨b, off, e1, fun j hj => hc j (by omega)⟩⟩ : RdA w8 (some ⟨b0, 0, none⟩) 1 K cap _) (fun i hi => rfl))
                    have HL8 : Hid (∀ w9, Below w8.heap.size w8 w9 → Calls Try.prog 19 #[.pointer (some ⟨x.g, 0, none⟩)] w9 fun e w' => e = .returned (.int .i64 (f2 : Nat)) ∧ w' = w9) := fun w9 h9 => by rw [HF2.out]; exact (h8.fresh h9).left
                    have HLW := hidd (fun (w9 : World) (h9 : Below w8.heap.size w8 w9) => (h8.fresh h9).low)
                    clear HO8 hr9 h8 hr10
                    go_wp2_with (first
                      | (go_at_call 23; with_reducible refine HE.out.mono ?_; rintro e w9 ⟨rfl, hf9⟩)
                      | (go_at_call 19; with_reducible refine (HL8.out _ hf9).mono ?_; rintro e w8 ⟨rfl, h8⟩; rw [h8]; clear h8))
                    go_ret
                    exact ⟨rfl, HLW.out _ hf9⟩
end Go.Proofs.Ytppcgfdogacmkaa
