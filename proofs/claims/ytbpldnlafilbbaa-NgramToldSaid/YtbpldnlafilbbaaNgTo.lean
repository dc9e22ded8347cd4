import Derived.Test.YtbpldnlafilbbaaNgZ
namespace Go.Proofs.Ytbpldnlafilbbaa
open Go.RowKit
/-! NgramTold. -/
def Pq (f : Nat → Int) (e n q : Nat) : Prop := 1 ≤ e ∧ e ≤ q ∧ Sm f q e n
theorem plL_dwn {f : Nat → Int} {k n : Nat} (hk : k ≤ 4) : plL f k n = dwn (Pq f (endL f k n) n) (n - 1) := by
  have hle := (endL_le f k n).2
  unfold plL
  by_cases e : endL f k n = 0
  · rw [if_pos e]
    have : ∀ m, dwn (Pq f (endL f k n) n) m = [] := by
      intro m
      induction m with
      | zero => rfl
      | succ m ih => rw [dwn_no (fun h => by have := h.1; omega), ih]
    exact (this _).symm
  · rw [if_neg e]
    obtain ⟨i, hi⟩ : ∃ i, endL f k n = i + 1 := ⟨endL f k n - 1, by omega⟩
    rw [hi, show i + 1 - 1 = i by omega]
    refine dwn_congr _ (fun q _ _ => ?_)
    rw [Hd_iff (by omega)]
    unfold Pq
    constructor
    · rintro ⟨h1, h2⟩; exact ⟨by omega, h1, h2⟩
    · rintro ⟨_, h1, h2⟩; exact ⟨h1, h2⟩
theorem dwn_le {P : Nat → Prop} {m i : Nat} (h : i < (dwn P m).length) : (dwn P m).getD i 0 ≤ m := (dwn_mem.1 (getD_mem h)).2.1
theorem dwn_desc {P : Nat → Prop} : ∀ m i, i + 1 < (dwn P m).length → (dwn P m).getD (i + 1) 0 < (dwn P m).getD i 0
  | 0, i, h => absurd h (by show ¬ i + 1 < 0; omega)
  | m + 1, i, h => by
    by_cases e : P (m + 1)
    · rw [dwn_yes e] at h ⊢
      rw [List.length_cons] at h
      cases i with
      | zero =>
        rw [List.getD_cons_succ, List.getD_cons_zero]
        have := dwn_le (P := P) (m := m) (i := 0) (by omega)
        omega
      | succ i =>
        rw [List.getD_cons_succ, List.getD_cons_succ]
        exact dwn_desc m i (by omega)
    · rw [dwn_no e] at h ⊢
      exact dwn_desc m i h
set_option maxRecDepth 20000 in
set_option maxHeartbeats 3200000 in
theorem told_law {w : World} (n : Int) {ao : Option Addr} {na ca : Nat} {fa : Nat → Int} (ha : RdA w ao 1 na ca (fun i => .int .i64 (fa i))) (hfa : ∀ i, i < na → fits (fa i)) (hn : na * 8 ≤ 140737488351232) :
    Calls Try.prog 6 #[.int .i64 n, .slice ao na ca] w fun e w' => e = .returned (.bool true) ∧ Below w.heap.size w w' := by
  have hk := grN_le n
  have HG := hidd (gram_any · n)
  obtain ⟨K4, hkk⟩ : ∃ k, k = grN n := ⟨_, rfl⟩
  rw [← hkk] at hk HG
  clear hkk
  have HA := hidd ha
  have HFA := hidd hfa
  have HW := hidd (works_any w)
  clear ha hfa
  go_enter Try.func6, Try.ntmps6
  go_wp2_with (go_at_call 9; with_reducible refine HW.out.mono ?_; rintro e w1 ⟨rfl, hb1⟩)
  have HB1 := hidd hb1
  clear hb1 HW
  go_wp2_with (go_at_call 11; with_reducible refine (HG.out _).mono ?_; rintro e w9 ⟨rfl, h9⟩; rw [h9]; clear h9 w9)
  have HBX := hidd (begun_any hk (HA.out.fresh HB1.out) HFA.out (by omega))
  go_wp2_with (go_at_call 10; with_reducible refine HBX.out.mono ?_; rintro e w2 ⟨X, S, A, rfl, hbg⟩)
  have HX := hidd hbg.idx
  have HB2 := hidd (HB1.out.trans (hbg.low.mono HB1.out.size))
  obtain ⟨e, HE⟩ : ∃ e, Hid (e = endL fa K4 na) := ⟨_, rfl⟩
  obtain ⟨L, HHL⟩ : ∃ L, Hid (L = dwn (Pq fa e na) (na - 1)) := ⟨_, rfl⟩
  have HP1 := hidd (places_any HX.out (by omega) 0)
  rw [show pkQ 0 (plL fa K4 na) = plL fa K4 na from rfl, plL_dwn hk.2, ← HE.out, ← HHL.out] at HP1
  have he4 : e ≤ 4 := by rw [HE.out]; have := (endL_le fa K4 na).2; omega
  clear hbg HBX HB1 HG HFA
  go_wp2_with (go_at_call 12; with_reducible refine HP1.out.mono ?_; rintro e' w3 ⟨u1, c1, rfl, ho3, hb3⟩)
  have HX3 := hidd (HX.out.fresh hb3)
  have HB3 := hidd (HB2.out.trans (hb3.mono HB2.out.size))
  have HO3 := hidd ho3
  have HLG := hidd (longest_run (HA.out.fresh HB3.out) hn hk)
  rw [← HE.out] at HLG
  clear hb3 ho3 HP1 HX HB2
  go_wp2_with (go_at_call 15; with_reducible refine HLG.out.mono ?_; rintro e' w4 ⟨rfl, hb4⟩)
  have HX4 := hidd (HX3.out.fresh hb4)
  have HB4 := hidd (HB3.out.trans (hb4.mono HB3.out.size))
  have HRL := hidd (own_rda (HO3.out.kept hb4))
  have hLn : L.length ≤ na := by rw [HHL.out]; have := dwn_len (P := Pq fa e na) (na - 1); omega
  clear hb4 HLG HX3 HB3 HO3
  go_wp2
  go_loopw [10, 11] (fun vc vq wr => ∃ q : Nat, 1 ≤ q ∧ (q ≤ na ∨ q = 1) ∧ vq = .int .i64 q ∧ vc = .int .i64 ((dwn (Pq fa e na) (q - 1)).length : Nat) ∧ Hid (Below w4.heap.size w4 wr)) (fun _ vq _ => na - (intOf vq).toNat)
  case atStart => exact ⟨1, by omega, .inr rfl, rfl, rfl, Below.refl _ _⟩
  case round =>
    obtain ⟨q, hq1, hq2, rfl, rfl, HBq⟩ := hrel
    have hcl := dwn_len (P := Pq fa e na) (q - 1)
    obtain ⟨cn, HCN⟩ : ∃ cn, Hid (cn = (dwn (Pq fa e na) (q - 1)).length) := ⟨_, rfl⟩
    rw [← HCN.out] at hcl ⊢
    have HBw := hidd (HB4.out.trans (HBq.out.mono HB4.out.size))
    by_cases hqn : q < na
    · have d1 : decide ((q : Int) < (na : Int)) = true := decide_eq_true (by omega)
      obtain ⟨m, hm⟩ : ∃ m, q = m + 1 := ⟨q - 1, by omega⟩
      by_cases hP : Pq fa e na q
      · have HNX : Hid (cn + 1 = (dwn (Pq fa e na) (q + 1 - 1)).length) := by
          have h2 := HCN.out
          rw [hm] at h2 hP
          show cn + 1 = _
          rw [hm, show m + 1 + 1 - 1 = m + 1 by omega, dwn_yes hP, List.length_cons, h2]
          rfl
        have HAL := hidd (alike_any (HA.out.fresh HBw.out) q e (by have := hP.1; omega) (by omega) (r := true) ⟨fun _ => ⟨hP.2.1, hqn, hP.2.2⟩, fun _ => rfl⟩)
        have d2 : decide ((0 : Int) < (e : Int)) = true := decide_eq_true (by have := hP.1; omega)
        have d3 : 0 < e := hP.1
        clear hP hm
        go_wp2_with (go_at_call 16; with_reducible refine HAL.out.mono ?_; rintro e' w5 ⟨rfl, hb5⟩; have HB5 := hidd (HBq.out.trans (hb5.mono HBq.out.size)); clear hb5)
        go_roundw
        case rel => exact ⟨q + 1, by omega, .inl (by omega), by go_num, by rw [← HNX.out]; go_num, HB5⟩
        case measure => simp [intOf]; omega
      · have HNX : Hid (cn = (dwn (Pq fa e na) (q + 1 - 1)).length) := by
          have h2 := HCN.out
          rw [hm] at h2 hP
          show cn = _
          rw [hm, show m + 1 + 1 - 1 = m + 1 by omega, dwn_no hP, h2]
          rfl
        by_cases he0 : 0 < e
        · have HAL := hidd (alike_any (HA.out.fresh HBw.out) q e (by omega) (by omega) (r := false) ⟨fun h => absurd h (by simp), fun h => absurd ⟨he0, h.1, h.2.2⟩ hP⟩)
          have d2 : decide ((0 : Int) < (e : Int)) = true := decide_eq_true (by omega)
          clear hP hm
          go_wp2_with (go_at_call 16; with_reducible refine HAL.out.mono ?_; rintro e' w5 ⟨rfl, hb5⟩; have HB5 := hidd (HBq.out.trans (hb5.mono HBq.out.size)); clear hb5)
          go_roundw
          case rel => exact ⟨q + 1, by omega, .inl (by omega), by go_num, by rw [← HNX.out], HB5⟩
          case measure => simp [intOf]; omega
        · have d2 : decide ((0 : Int) < (e : Int)) = false := decide_eq_false (by omega)
          clear hP hm
          go_wp2
          go_roundw
          case rel => exact ⟨q + 1, by omega, .inl (by omega), by go_num, by rw [← HNX.out], HBq⟩
          case measure => simp [intOf]; omega
    · have d1 : decide ((q : Int) < (na : Int)) = false := decide_eq_false (by omega)
      have HCE : Hid (cn = L.length) := by
        show cn = L.length
        rw [HCN.out, HHL.out]
        rcases hq2 with h | h
        · rw [show q = na by omega]
        · rw [h]
          by_cases h1 : na = 1
          · rw [h1]
          · rw [show na = 0 by omega]
      have HALL : Hid (∀ i, i < L.length → Pq fa e na (L.getD i 0) ∧ L.getD i 0 < na) := fun i hi => by
        have h1 := getD_mem hi
        rw [HHL.out] at h1
        have h2 := dwn_mem.1 h1
        rw [← HHL.out] at h2
        exact ⟨h2.2.2, by omega⟩
      have HDE : Hid (∀ i, i + 1 < L.length → L.getD (i + 1) 0 < L.getD i 0) := by rw [HHL.out]; exact dwn_desc _
      clear HHL HCN hcl
      go_wp2
      go_loopw [12] (fun vi wr => ∃ i : Nat, i ≤ L.length ∧ vi = .int .i64 i ∧ Hid (Below w4.heap.size w4 wr)) (fun vi _ => L.length - (intOf vi).toNat)
      case atStart => exact ⟨0, by omega, rfl, HBq⟩
      case round =>
        obtain ⟨i, hi1, rfl, HBi⟩ := hrel
        by_cases hil : i < L.length
        · have g1 : decide ((i : Int) < (L.length : Int)) = true := decide_eq_true (by omega)
          have g0 : (i : Int) < (L.length : Int) := by omega
          have hbi := HBi.out
          have HBz := hidd (HB4.out.trans (hbi.mono HB4.out.size))
          obtain ⟨hP, hyn⟩ := HALL.out i hil
          obtain ⟨y, HY⟩ : ∃ y, Hid (y = L.getD i 0) := ⟨_, rfl⟩
          rw [← HY.out] at hP hyn
          obtain ⟨b1, o1, hu1, h1⟩ := (HRL.out.fresh hbi).one (by omega)
          subst hu1
          have cl0 : wr.cell? ⟨b1, o1 + i, none⟩ = some (.int .i64 (y : Int)) := by rw [h1 i hil, HY.out]; rfl
          have cl := later_cell cl0
          have HQ : Hid (∀ x : Later wr, Calls Try.prog 16 #[.slice ao na ca, .int .i64 y, .int .i64 e] x.val fun e w' => e = .returned (.bool true) ∧ Below x.val.heap.size x.val w') := fun x => alike_any ((HA.out.fresh HBz.out).fresh x.fresh) y e (by have := hP.1; omega) (by omega) ⟨fun _ => ⟨hP.2.1, hyn, hP.2.2⟩, fun _ => rfl⟩
          have ne := later_some wr
          by_cases hi0 : i = 0
          · have g2 : decide ((0 : Int) < (i : Int)) = false := decide_eq_false (by omega)
            have g8 : decide (0 < i) = false := decide_eq_false (by omega)
            clear hP h1 cl0 hbi hi0
            go_wp2
            refine wp_region_later (by kernel_rfl) (by kernel_rfl) ?_
            repeat (go_big_quiet_step (fail))
            go_big_quiet_step (exact later_of (HQ.out _))
            repeat (go_big_quiet_step (fail))
            refine wpQuiet_nil ?_
            rintro _ ⟨z, rfl⟩
            have HZ := hidd (HBi.out.trans (z.fresh.mono HBi.out.size))
            go_wp2
            go_roundw
            case rel => exact ⟨i + 1, by omega, by go_num, HZ⟩
            case measure => simp [intOf]; omega
          · have g2 : decide ((0 : Int) < (i : Int)) = true := decide_eq_true (by omega)
            have g8 : decide (0 < i) = true := decide_eq_true (by omega)
            have g9 : 0 < i := by omega
            have g3 : IntKind.i64.wrap ((i : Int) - 1) = (i : Int) - 1 := wrap_small _ (by omega) (by omega)
            have g4 : ((i : Int) - 1).toNat = i - 1 := by omega
            have g5 : (0 : Int) ≤ (i : Int) - 1 := by omega
            have g6 : (i : Int) - 1 < (L.length : Int) := by omega
            obtain ⟨p, HPP⟩ : ∃ p, Hid (p = L.getD (i - 1) 0) := ⟨_, rfl⟩
            have cp0 : wr.cell? ⟨b1, o1 + (i - 1), none⟩ = some (.int .i64 (p : Int)) := by rw [h1 (i - 1) (by omega), HPP.out]; rfl
            have cp := later_cell cp0
            have hlt : y < p := by
              have := HDE.out (i - 1) (by omega)
              rw [show i - 1 + 1 = i by omega] at this
              rw [HY.out, HPP.out]; exact this
            have g7 : decide ((p : Int) ≤ (y : Int)) = false := decide_eq_false (by omega)
            have g10 : decide (p ≤ y) = false := decide_eq_false (by omega)
            clear hP h1 cl0 cp0 hbi hi0 hlt
            go_wp2
            refine wp_region_later (by kernel_rfl) (by kernel_rfl) ?_
            repeat (go_big_quiet_step (fail))
            go_big_quiet_step (exact later_of (HQ.out _))
            repeat (go_big_quiet_step (fail))
            refine wpQuiet_nil ?_
            rintro _ ⟨z, rfl⟩
            have HZ := hidd (HBi.out.trans (z.fresh.mono HBi.out.size))
            go_wp2
            go_roundw
            case rel => exact ⟨i + 1, by omega, by go_num, HZ⟩
            case measure => simp [intOf]; omega
        · obtain rfl : i = L.length := by omega
          have HBz := hidd (HB4.out.trans (HBi.out.mono HB4.out.size))
          have HLN := hidd (idx_len (HX4.out.fresh HBi.out))
          have hce := HCE.out
          subst hce
          go_wp2_with (go_at_call 17; with_reducible refine HLN.out.mono ?_; rintro e' w9 ⟨rfl, h9⟩; rw [h9]; clear h9 w9)
          go_ret
          exact ⟨rfl, HBz.out⟩
end Go.Proofs.Ytbpldnlafilbbaa
