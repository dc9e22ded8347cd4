import Derived.Test.YtppcgfdogacmkaaPR
namespace Go.Proofs.Ytppcgfdogacmkaa
open Go.RowKit
/-! PoolLeaks. -/
theorem act_any {x : Fx} {w : World} {s : Dy} {gl : Nat} {vF : Value} {nf : Nat} {fr : Nat → Nat} (h : Lg x w s gl vF nf fr) (hB : x.B ≤ 17) (hnf : nf ≤ 4294967296) (kind of n : Int) (hn : n ≤ 9223372036854775807) :
    Calls Try.prog 24 #[.pointer (some ⟨gl, 0, none⟩), .agg #[.int .i64 kind, .int .i64 of, .int .i64 n]] w fun e w' => e = .returned (.bool true) ∧ ∃ s' vF' nf' fr', Lg x w' s' gl vF' nf' fr' ∧ nf' ≤ nf + 1 := by
  by_cases k1 : kind = 1
  · subst k1; exact act_grow h hB hnf of n hn
  by_cases k2 : kind = 2
  · subst k2; exact act_trim h hB hnf of n hn
  by_cases k3 : kind = 3
  · subst k3; exact act_own h hB hnf of n hn
  by_cases k4 : kind = 4
  · subst k4; exact act_share h hB hnf of n hn
  by_cases k5 : kind = 5
  · subst k5; exact act_take h hB hnf of n hn
  by_cases h0 : 0 < nf
  · by_cases k6 : kind = 6
    · subst k6
      refine (act_drop h hB hnf of n hn h0).mono ?_
      rintro e w' ⟨rfl, s', vF', q, _⟩
      exact ⟨rfl, s', vF', _, fr, q, by omega⟩
    by_cases k7 : kind = 7
    · subst k7; exact act_hold h hB hnf of n hn h0
    exact act_none h hB hnf kind of n hn k1 k2 k3 k4 k5 k6 k7
  · by_cases k6 : kind = 6
    · exact act_void h hB hnf kind of n hn (.inl k6) (by omega)
    by_cases k7 : kind = 7
    · exact act_void h hB hnf kind of n hn (.inr k7) (by omega)
    exact act_none h hB hnf kind of n hn k1 k2 k3 k4 k5 k6 k7
/-- the cells of a list of acts -/
def acs (K O N : Nat → Int) : Nat → Value := fun j => if j % 3 = 0 then .int .i64 (K (j / 3)) else if j % 3 = 1 then .int .i64 (O (j / 3)) else .int .i64 (N (j / 3))
theorem RdA.acts {w : World} {ao : Option Addr} {n cap : Nat} {K O N : Nat → Int} (h : RdA w ao 3 n cap (acs K O N)) (hn : 0 < n) : ∃ b off, ao = some ⟨b, off, none⟩ ∧ ∀ i, i < n → w.cell? ⟨b, off + i * 3, none⟩ = some (.int .i64 (K i)) ∧ w.cell? ⟨b, off + i * 3 + 1, none⟩ = some (.int .i64 (O i)) ∧ w.cell? ⟨b, off + i * 3 + 2, none⟩ = some (.int .i64 (N i)) := by
  obtain ⟨b, off, rfl, hc⟩ := h.at_ hn
  refine ⟨b, off, rfl, fun i hi => ⟨?_, ?_, ?_⟩⟩
  · rw [hc (i * 3) (by omega)]; unfold acs; rw [if_pos (by omega), show i * 3 / 3 = i by omega]
  · rw [show off + i * 3 + 1 = off + (i * 3 + 1) by omega, hc (i * 3 + 1) (by omega)]; unfold acs; rw [if_neg (by omega), if_pos (by omega), show (i * 3 + 1) / 3 = i by omega]
  · rw [show off + i * 3 + 2 = off + (i * 3 + 2) by omega, hc (i * 3 + 2) (by omega)]; unfold acs; rw [if_neg (by omega), if_neg (by omega), show (i * 3 + 2) / 3 = i by omega]
def lenF (w : World) (g : Nat) : Nat := match w.cell? ⟨g, 2, none⟩ with | some (.slice _ n _) => n | _ => 0
theorem Lg.lenF {x : Fx} {w : World} {s : Dy} {gl : Nat} {vF : Value} {nf : Nat} {fr : Nat → Nat} (h : Lg x w s gl vF nf fr) : lenF w gl = nf := by
  obtain ⟨ao, cap, hv, _⟩ := h.own.rd
  unfold Ytppcgfdogacmkaa.lenF
  rw [(row3 h.row).2.2, hv]
theorem needs_zero (S : Nat) : needs 0 S = 0 := by unfold needs; simp
theorem needs_two {S : Nat} (h : 1 ≤ S) : needs (S + 1) S = 2 := by
  unfold needs
  by_cases e : S = 1
  · subst e; rfl
  · rw [show S + 1 = 1 + S from Nat.add_comm _ _, Nat.add_div_right _ (by omega), Nat.add_mod_right, Nat.div_eq_of_lt (by omega), Nat.mod_eq_of_lt (by omega), if_neg (by decide)]
theorem long_no {n : Nat} (w : World) (h : n ≤ 2147483647) : Calls Try.prog 9 #[.int .i64 n] w fun e w' => e = .returned (.bool false) ∧ w' = w := by
  go_enter Try.func9, Try.ntmps9
  go_wp2
  go_ret
  exact ⟨by simp; omega, rfl⟩
theorem long_yes {n : Nat} (w : World) (h : 2147483647 < n) (_h2 : n ≤ 9223372036854775807) : Calls Try.prog 9 #[.int .i64 n] w fun e w' => e = .returned (.bool true) ∧ w' = w := by
  go_enter Try.func9, Try.ntmps9
  go_wp2
  go_ret
  exact ⟨by simp; omega, rfl⟩
theorem lg_start {x : Fx} {w : World} (h : St x w Dy.zero) (ht : x.tn = 3) : Lg x (w.alloc (.cells #[.pointer (some ⟨x.g, 0, none⟩), .slice (some ⟨x.lb, 0, none⟩) 3 x.lc, .slice none 0 0] 60)) Dy.zero w.heap.size (.slice none 0 0) 0 (fun _ => 0) :=
  ⟨h.fresh (fresh_alloc _ _), row3_new _ _ _ _ _, own_nil _ _ _ _ _, fun _ _ => off_nil _, h.bs, ht, ⟨fun _ _ j hj => absurd hj (Nat.not_lt_zero j), fun _ _ _ k _ hk => absurd hk (Nat.not_lt_zero k), fun j hj => absurd hj (Nat.not_lt_zero j), fun _ _ => rfl⟩⟩
set_option maxRecDepth 100000 in
set_option maxHeartbeats 4000000 in
theorem leaks_law {w : World} {ao : Option Addr} {n cap : Nat} {K O N : Nat → Int} (a0 a1 : Int) (hr : RdA w ao 3 n cap (acs K O N)) (hN : ∀ i, i < n → N i ≤ 9223372036854775807) :
    Calls Try.prog 6 #[.int .i64 a0, .int .i64 a1, .slice ao n cap] w fun e w' => e = .returned (.bool true) ∧ Below w.heap.size w w' := by
  have hcap : cap ≤ 9223372036854775807 := by have := hr.top; unfold maxLen at this; omega
  have hnc := hr.le
  by_cases hlong : 2147483647 < n
  · have HL := hidd (long_yes w hlong (by omega))
    go_enter Try.func6, Try.ntmps6
    go_wp2_with (go_at_call 9; with_reducible refine HL.out.mono ?_; rintro e w9 ⟨rfl, h9⟩; rw [h9]; clear h9)
    go_ret
    exact ⟨rfl, Below.refl _ _⟩
  · have HL := hidd (long_no (n := n) w (by omega))
    have HM : Hid (Calls Try.prog 10 #[.int .i64 a0, .int .i64 a1, .int .i64 3] w fun e w' => ∃ x : Fx, e = .returned (.tuple #[.pointer (some ⟨x.g, 0, none⟩), .slice (some ⟨x.lb, 0, none⟩) 3 x.lc, .int .i64 x.B, .int .i64 x.S]) ∧ x.w0 = w ∧ x.tn = 3 ∧ (2 ≤ x.B ∧ x.B ≤ 17) ∧ (1 ≤ x.S ∧ x.S ≤ 6) ∧ St x w' Dy.zero) := made_st w a0 a1 3 (by decide) (by decide)
    go_enter Try.func6, Try.ntmps6
    go_upto_region 4 with (first
      | (go_at_call 9; with_reducible refine HL.out.mono ?_; rintro e w9 ⟨rfl, h9⟩; rw [h9]; clear h9)
      | (go_at_call 10; with_reducible refine HM.out.mono ?_; rintro e w1 ⟨x, rfl, rfl, ht, hB, hS, hst⟩))
    clear HM HL
    have HR := hidd hr
    have HNB := hidd hN
    clear hr hN
    obtain ⟨hB1, hB2⟩ := hB
    obtain ⟨hS1, hS2⟩ := hS
    have c1 := hst.cell (i := 0) (by omega)
    have hlc : 3 ≤ x.lc := by have := hst.ln; omega
    have HG0 := hidd (lg_start hst ht)
    have c2 := (HG0.out.st.cell (i := 0) (by omega))
    clear hst
    go_upto_region 7 with fail
    generalize hw2 : w1.alloc (.cells #[.pointer (some ⟨x.g, 0, none⟩), .slice (some ⟨x.lb, 0, none⟩) 3 x.lc, .slice none 0 0] 60) = w2 at *
    generalize hgl : w1.heap.size = gl at *
    clear hw2 hgl c1
    obtain ⟨S1, hS1e⟩ : ∃ S1, S1 = x.S + 1 := ⟨_, rfl⟩
    have HGR : Hid (Calls Try.prog 17 #[.pointer (some ⟨x.tb 0, 0, none⟩), .int .i64 S1] w2 fun e w' => e = .returned (.int .i64 0) ∧ w'.cell? ⟨x.lb, 0, none⟩ = some (.pointer (some ⟨x.tb 0, 0, none⟩)) ∧ Hid (∃ s', Lg x w' s' gl (.slice none 0 0) 0 (fun _ => 0) ∧ s'.m 0 = 2)) := by
      have hz : freeN Dy.zero.cnt x.B = x.B := freeN_zero x.B
      have hm0 : Dy.zero.m 0 = 0 := rfl
      refine (HG0.out.grow_ok (by omega) (i := 0) (n := S1) (by decide) (by omega) (by rw [hS1e, needs_two hS1, hz, hm0]; omega)).mono ?_
      rintro e w' ⟨rfl, s', k1, k2⟩
      refine ⟨rfl, k1.st.cell (by omega), s', k1, ?_⟩
      rw [k2, updN_at, hS1e, needs_two hS1, hm0]
    have e1 : (x.S : Int) + 1 = (S1 : Int) := by omega
    have hS1b : S1 ≤ 7 := by omega
    clear hS1e HG0
    go_upto_region 8 with (go_at_call 17; with_reducible refine HGR.out.mono ?_; rintro e w3 ⟨rfl, c3, H3⟩)
    clear HGR c2 e1
    obtain ⟨s3, hL3, hm3⟩ := H3.out
    clear H3
    have HBl := hidd (hL3.st.blocks (i := 0) (by omega) (by omega))
    rw [hm3] at HBl
    have HL3 := hidd hL3
    clear hL3 hm3
    go_wp2_with (go_at_call 18; with_reducible refine HBl.out.mono ?_; rintro e w4 ⟨a4, k4, rfl, _, f4, _⟩)
    clear HBl c3
    have HL4 := hidd (HL3.out.fresh f4)
    go_loopw [13] (fun i wr => ∃ (k nf : Nat) (s : Dy) (vF : Value) (fr : Nat → Nat), k ≤ n ∧ nf ≤ k ∧ i = .int .i64 k ∧ Lg x wr s gl vF nf fr) (fun i _ => n - (intOf i).toNat)
    case atStart => exact ⟨0, 0, s3, _, _, by omega, by omega, rfl, HL4.out⟩
    case round =>
      clear HL3 HL4 f4
      obtain ⟨k, nf, s, vF, fr, hk, hnf, rfl, hLg⟩ := hrel
      have HLg := hidd hLg
      clear hLg
      by_cases hlt : k < n
      · obtain ⟨b1, o1, rfl, hc⟩ := (HR.out.fresh HLg.out.st.low).acts (by omega)
        obtain ⟨d0, d1, d2⟩ := hc k hlt
        have HA := hidd (act_any HLg.out hB2 (by omega) (K k) (O k) (N k) (HNB.out k hlt))
        clear hc
        generalize K k = Kk at *
        generalize O k = Ok at *
        generalize N k = Nk at *
        go_wp2_with (first
          | (go_at_call 24; with_reducible refine HA.out.mono ?_; rintro e w5 ⟨rfl, s5, vF5, nf5, fr5, hL5, hn5⟩; have HL5 := hidd hL5; have HSq := hidd (square_any hL5 hB2 (by omega)); clear hL5)
          | (go_at_call 25; with_reducible refine HSq.out.mono ?_; rintro e w6 ⟨rfl, f6⟩))
        go_roundw
        case rel => exact ⟨k + 1, nf5, s5, vF5, fr5, by omega, by omega, by go_num, HL5.out.fresh f6⟩
        case measure => simp [intOf]; omega
      · go_wp2
        go_loopw [16] (fun i wr => ∃ (q : Nat) (s : Dy), q ≤ 3 ∧ i = .int .i64 q ∧ Lg x wr s gl vF nf fr ∧ Hid (∀ j, j < q → s.m j = 0)) (fun i _ => 3 - (intOf i).toNat)
        case atStart => exact ⟨0, s, by omega, rfl, HLg.out, fun j hj => absurd hj (by omega)⟩
        case round =>
          clear HLg
          obtain ⟨q, s, hq, rfl, hLg, HZ⟩ := hrel
          have HLg := hidd hLg
          clear hLg
          by_cases hlq : q < 3
          · have cq := HLg.out.st.cell (i := q) (by omega)
            have HT : Hid (Calls Try.prog 22 #[.pointer (some ⟨x.tb q, 0, none⟩), .int .i64 0] wr fun e w' => e = .returned (.int .i64 0) ∧ w'.cell? ⟨x.lb, q, none⟩ = some (.pointer (some ⟨x.tb q, 0, none⟩)) ∧ Hid (∃ s', Lg x w' s' gl vF nf fr ∧ ∀ j, j < q + 1 → s'.m j = 0)) := by
              refine (HLg.out.trim (by omega) (by omega) hlq 0 (by omega)).mono ?_
              rintro e w' ⟨rfl, s', k1, k2⟩
              refine ⟨rfl, k1.st.cell (by omega), s', k1, fun j hj => ?_⟩
              rw [k2, needs_zero]
              by_cases e : j = q
              · subst e; rw [updN_at]; omega
              · rw [updN_ne _ _ e]; exact HZ.out j (by omega)
            have HBQ : Hid (∀ z, Hid (∃ s', Lg x z s' gl vF nf fr ∧ ∀ j, j < q + 1 → s'.m j = 0) → Calls Try.prog 18 #[.pointer (some ⟨x.tb q, 0, none⟩)] z fun e w' => ∃ ao cap, e = .returned (.slice ao 0 cap) ∧ Hid (∃ s', Lg x w' s' gl vF nf fr ∧ ∀ j, j < q + 1 → s'.m j = 0)) := fun z ⟨s', k1, k2⟩ => by
              have hb := k1.st.blocks (i := q) (by omega) (by rw [k2 q (by omega)]; decide)
              rw [k2 q (by omega)] at hb
              refine hb.mono ?_
              rintro e w' ⟨a, c, rfl, _, f, _⟩
              exact ⟨a, c, rfl, s', k1.fresh f, k2⟩
            clear HLg HZ
            go_wp2_with (first
              | (go_at_call 22; with_reducible refine HT.out.mono ?_; rintro e w7 ⟨rfl, c7, H7⟩)
              | (go_at_call 18; with_reducible refine (HBQ.out _ H7).mono ?_; rintro e w8 ⟨a8, k8, rfl, H8⟩))
            clear HT HBQ H7
            go_roundw
            case rel =>
              obtain ⟨s8, k1, k2⟩ := H8.out
              exact ⟨q + 1, s8, by omega, by go_num, k1, k2⟩
            case measure => simp [intOf]; omega
          · have HZ3 : Hid (∀ j, j < 3 → s.m j = 0) := fun j hj => HZ.out j (by omega)
            clear HZ
            go_wp2
            go_loopw [17] (fun _ wr => ∃ (s : Dy) (vF : Value) (nf : Nat), nf ≤ n ∧ Lg x wr s gl vF nf fr ∧ Hid (∀ j, j < 3 → s.m j = 0)) (fun _ wr => lenF wr gl)
            case atStart => exact ⟨s, vF, nf, by omega, HLg.out, HZ3.out⟩
            case round =>
              clear HLg HZ3
              obtain ⟨s, vF, nf, hnf, hLg, HZ⟩ := hrel
              have c2 := (row3 hLg.row).2.2
              obtain ⟨aF, kF, hvF, _⟩ := hLg.own.rd
              rw [hvF] at c2
              have HLn : Hid (lenF wr gl = nf) := hLg.lenF
              have HLg := hidd hLg
              clear hLg hvF
              by_cases h0 : 0 < nf
              · have HA := hidd (act_drop HLg.out hB2 (by omega) 0 0 (by decide) h0)
                go_wp2_with (go_at_call 24; with_reducible refine HA.out.mono ?_; rintro e w9 ⟨rfl, s9, vF9, h9, hm9⟩)
                have H9 := hidd h9
                have HM9 := hidd hm9
                clear HA h9 hm9
                go_roundw
                case rel => exact ⟨s9, vF9, nf - 1, by omega, H9.out, by rw [HM9.out]; exact HZ.out⟩
                case measure => rw [H9.out.lenF, HLn.out]; omega
              · obtain rfl : nf = 0 := by omega
                have HLF := hidd HLg.out.st.left
                rw [freeN_congr (g := fun _ => 0) x.B (fun b hb => by
                  have := HLg.out.lk.cnt b hb
                  rw [HZ.out 0 (by decide), HZ.out 1 (by decide), HZ.out 2 (by decide)] at this
                  simp only [tms_zero] at this
                  omega), freeN_zero] at HLF
                go_wp2_with (go_at_call 19; with_reducible refine HLF.out.mono ?_; rintro e w9 ⟨rfl, h9⟩; rw [h9]; clear h9)
                go_ret
                exact ⟨rfl, HLg.out.st.low⟩
end Go.Proofs.Ytppcgfdogacmkaa
