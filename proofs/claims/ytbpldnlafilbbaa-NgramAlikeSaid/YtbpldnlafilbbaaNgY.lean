import Derived.Test.YtbpldnlafilbbaaNgW
namespace Go.Proofs.Ytbpldnlafilbbaa
open Go.RowKit
/-! NgramAlike. -/
theorem dwn_run {P : Nat → Prop} {e : Nat} (he : 1 ≤ e) : ∀ m, (∀ q, 1 ≤ q → q ≤ m → (P q ↔ e ≤ q)) → (dwn P m).length = m + 1 - e ∧ ∀ j, j < m + 1 - e → (dwn P m).getD j 0 = m - j
  | 0, _ => ⟨by show 0 = _; omega, fun j hj => by omega⟩
  | m + 1, h => by
    obtain ⟨ih1, ih2⟩ := dwn_run he m (fun q h1 h2 => h q h1 (by omega))
    by_cases c : e ≤ m + 1
    · rw [dwn_yes ((h _ (by omega) (Nat.le_refl _)).2 c)]
      refine ⟨by rw [List.length_cons, ih1]; omega, fun j hj => ?_⟩
      cases j with
      | zero => rfl
      | succ j =>
        rw [List.getD_cons_succ]
        by_cases c2 : j < m + 1 - e
        · rw [ih2 j c2]; omega
        · omega
    · rw [dwn_no (fun k => c ((h _ (by omega) (Nat.le_refl _)).1 k))]
      exact ⟨by rw [ih1]; omega, fun j hj => by omega⟩
/-- all tokens alike -/
theorem same_end (t : Int) {k n : Nat} (hk : k ≤ 4) : endL (fun _ => t) k n = min k (n - 1) := by
  refine endL_eq hk (by omega) (fun h => ⟨n - 1, by omega, by omega, fun _ _ => rfl⟩) ?_
  rintro m h1 h2 ⟨q, h3, h4, _⟩
  omega
theorem same_places (t : Int) {k n : Nat} (hk : k ≤ 4) (h1 : 1 ≤ min k (n - 1)) : (plL (fun _ => t) k n).length = n - min k (n - 1) ∧ (plL (fun _ => t) k n).getD 0 0 = n - 1 ∧ (plL (fun _ => t) k n).getD (n - min k (n - 1) - 1) 0 = min k (n - 1) := by
  obtain ⟨e, he⟩ : ∃ e, min k (n - 1) = e + 1 := ⟨min k (n - 1) - 1, by omega⟩
  have hp : plL (fun _ => t) k n = dwn (Hd (fun _ => t) e (runV (rn (fun _ => t) n (e + 1)))) (n - 1) := by
    unfold plL
    rw [same_end t hk, he, if_neg (by omega)]
    rfl
  obtain ⟨i1, i2⟩ := dwn_run (P := Hd (fun _ => t) e (runV (rn (fun _ => t) n (e + 1)))) (e := e + 1) (by omega) (n - 1) (fun q _ _ => by
    rw [Hd_iff (by omega)]
    exact ⟨fun h => h.1, fun h => ⟨h, fun _ _ => rfl⟩⟩)
  rw [hp, i1, he]
  refine ⟨by omega, by rw [i2 0 (by omega)]; omega, ?_⟩
  rw [i2 _ (by omega)]
  omega
theorem same_none (t : Int) {k n : Nat} (hk : k ≤ 4) (h1 : ¬ 1 ≤ min k (n - 1)) : plL (fun _ => t) k n = [] := by
  rw [plL_nil hk, same_end t hk]
  omega
/-- tokens no two of which are alike -/
def upF (t : Int) : Nat → Int := fun i => IntKind.i64.wrap (t + (i : Int))
theorem up_fits (t : Int) (i : Nat) : fits (upF t i) := by
  unfold upF fits
  rw [IntKind.wrap_i64]
  omega
theorem up_none (t : Int) {k n : Nat} (hk : k ≤ 4) (hn : n ≤ 300) : plL (upF t) k n = [] := by
  rw [plL_nil hk]
  refine endL_eq hk (by omega) (fun h => absurd h (by omega)) ?_
  rintro m h1 h2 hh
  obtain ⟨q, h3, h4, h5⟩ := hh.less (m := 1) (by omega)
  have h6 := h5 0 (by omega)
  unfold upF at h6
  rw [IntKind.wrap_i64, IntKind.wrap_i64] at h6
  omega
theorem up_raw (t : Int) {k n : Nat} (hk : k ≤ 4) (hn : n ≤ 300) (a b : Int) : prO (upF t) k n a b = [] := by
  unfold prO
  rw [up_none t hk hn]
  simp [prR]
/-- two indexes beside each other -/
structure Tw (w wr : World) (X Y k i : Nat) (f g : Nat → Int) : Prop where
  ex : ∃ S A T B, Idx wr X S k i f A ∧ Idx wr Y T k i g B ∧ (∀ b, S b → ¬ T b) ∧ (∀ b, S b → w.heap.size ≤ b) ∧ (∀ b, T b → w.heap.size ≤ b) ∧ Below w.heap.size w wr
set_option maxRecDepth 20000 in
set_option maxHeartbeats 6400000 in
theorem alike_law {w : World} (n token long : Int) (hl0 : -9223372036854775808 ≤ long) (hl1 : long ≤ 9223372036854775807) (ht : fits token) :
    Calls Try.prog 5 #[.int .i64 n, .int .i64 token, .int .i64 long] w fun e w' => e = .returned (.bool true) ∧ Below w.heap.size w w' := by
  have hk := grN_le n
  have HG := hidd (gram_any · n)
  obtain ⟨K4, hkk⟩ : ∃ k, k = grN n := ⟨_, rfl⟩
  rw [← hkk] at hk HG
  clear hkk
  have HW := hidd (works_any w)
  have HTK := hidd ht
  clear ht
  by_cases a1 : long < 0
  · have b1 : decide (long < 0) = true := decide_eq_true a1
    go_enter Try.func5, Try.ntmps5
    go_wp2_with (go_at_call 9; with_reducible refine HW.out.mono ?_; rintro e w1 ⟨rfl, hb1⟩)
    have HB1 := hidd hb1
    clear hb1 HW
    go_wp2_with (go_at_call 11; with_reducible refine (HG.out _).mono ?_; rintro e w9 ⟨rfl, h9⟩; rw [h9]; clear h9 w9)
    obtain ⟨ln, HLN⟩ : ∃ ln : Nat, Hid (ln = 300) := ⟨_, rfl⟩
    rw [show (300 : Int) = (ln : Int) by have := HLN.out; omega]
    have hln : ln ≤ 300 := by have := HLN.out; omega
    clear HLN
    have HBX := hidd (begun_any (w := w1) (f := fun _ => token) hk (ao := none) (n := 0) (cap := 0) ⟨by omega, by unfold maxLen; omega, fun h => absurd h (by omega)⟩ (fun i hi => absurd hi (by omega)) (by omega))
    go_wp2_with (go_at_call 10; with_reducible refine HBX.out.mono ?_; rintro e w2 ⟨X, S, A, rfl, hbg⟩)
    have HX := hidd hbg.idx
    have HSX := hidd hbg.off
    have HB2 := hidd (HB1.out.trans (hbg.low.mono HB1.out.size))
    have HBY := hidd (begun_any (w := w2) (f := upF token) hk (ao := none) (n := 0) (cap := 0) ⟨by omega, by unfold maxLen; omega, fun h => absurd h (by omega)⟩ (fun i hi => absurd hi (by omega)) (by omega))
    clear hbg HBX
    go_wp2_with (go_at_call 10; with_reducible refine HBY.out.mono ?_; rintro e w3 ⟨Y, T, B, rfl, hbg⟩)
    have H0 : Hid (Tw w w3 X Y K4 0 (fun _ => token) (upF token)) := ⟨S, A, T, B, HX.out.fresh hbg.low, hbg.idx, fun b h1 h2 => by have := HX.out.low b h1; have := hbg.off b h2; omega, fun b h => by have := HSX.out b h; have := HB1.out.size; omega, fun b h => by have := hbg.off b h; have := HB2.out.size; omega, HB2.out.trans (hbg.low.mono HB2.out.size)⟩
    clear hbg HBY HG HX HSX HB2 HB1
    go_wp2
    go_loopw [11] (fun vi wr => ∃ i : Nat, i ≤ ln ∧ vi = .int .i64 i ∧ Hid (Tw w wr X Y K4 i (fun _ => token) (upF token))) (fun vi _ => ln - (intOf vi).toNat)
    case atStart => exact ⟨0, by omega, rfl, H0⟩
    case round =>
      obtain ⟨i, hi1, rfl, HJ⟩ := hrel
      clear H0
      obtain ⟨S', A', T', B', hx, hy, hd, hs, ht', hb⟩ := HJ.out
      have HX := hidd hx
      have HY := hidd hy
      have HD := hidd hd
      have HS := hidd hs
      have HT := hidd ht'
      have HB := hidd hb
      clear HJ hx hy hd hs ht' hb
      by_cases hlt : i < ln
      · have d1 : decide ((i : Int) < (ln : Int)) = true := decide_eq_true (by omega)
        obtain ⟨y, HYY⟩ : ∃ y, Hid (upF token i = y) := ⟨_, rfl⟩
        have hyy : IntKind.i64.wrap (token + (i : Int)) = y := HYY.out
        have HAX := hidd (append_any (HX.out.fresh (fresh_alloc wr (.cells #[.int .i64 token] 3))) (rd_lit1 wr 3 token) (fun b o e _ hs => by cases e; have := HX.out.low _ hs; omega) (fun _ _ => HTK.out) (by omega))
        go_wp2_with (go_at_call 14; with_reducible refine HAX.out.mono ?_; rintro e w4 ⟨rfl, S4, A4, hi4, hc4, _, hs4, _⟩)
        have HX4 : Hid (Idx w4 X S4 K4 (i + 1) (fun _ => token) A4) := hi4.text (fun j _ => by unfold apT; split <;> rfl)
        have HY4 := hidd ((HY.out.fresh (fresh_alloc wr (.cells #[.int .i64 token] 3))).chg hc4 (fun b h1 h2 => HD.out b h2 h1))
        have HB4 := hidd (hc4.below (HB.out.trans ((fresh_alloc wr (.cells #[.int .i64 token] 3)).mono HB.out.size)) (by have := HB.out.size; simp; omega) HS.out)
        have HS4 : Hid (∀ b, S4 b → w.heap.size ≤ b) := fun b h => by
          have := HB.out.size
          rcases hs4 b h with h | h
          · exact HS.out b h
          · simp at h; omega
        have HD4 : Hid (∀ b, S4 b → ¬ T' b) := fun b h1 h2 => by
          rcases hs4 b h1 with h | h
          · exact HD.out b h h2
          · have := HY.out.low b h2; simp at h; omega
        clear hi4 hc4 hs4 HAX HX HY HB HD HS
        have HAY := hidd (append_any (HY4.out.fresh (fresh_alloc w4 (.cells #[.int .i64 y] 3))) (rd_lit1 w4 3 y) (fun b o e _ hs => by cases e; have := HY4.out.low _ hs; omega) (fun _ _ => by rw [← HYY.out]; exact up_fits _ _) (by omega))
        go_wp2_with (go_at_call 14; with_reducible refine HAY.out.mono ?_; rintro e w5 ⟨rfl, T5, B5, hi5, hc5, _, hs5, _⟩)
        have HFIN : Hid (Tw w w5 X Y K4 (i + 1) (fun _ => token) (upF token)) := by
          have hsz := HB4.out.size
          refine ⟨S4, A4, T5, B5, (HX4.out.fresh (fresh_alloc w4 (.cells #[.int .i64 y] 3))).chg hc5 HD4.out, hi5.text (fun j hj => ?_), fun b h1 h2 => ?_, HS4.out, fun b h => ?_, hc5.below (HB4.out.trans ((fresh_alloc w4 (.cells #[.int .i64 y] 3)).mono hsz)) (by simp; omega) HT.out⟩
          · by_cases e : j < i
            · exact apT_lt _ _ e
            · obtain rfl : j = i := by omega
              have := apT_ge (upF token) j (fun _ => y) 0
              rw [Nat.add_zero] at this
              rw [this, HYY.out]
          · rcases hs5 b h2 with h | h
            · exact HD4.out b h1 h
            · have := HX4.out.low b h1; simp at h; omega
          · rcases hs5 b h with h | h
            · exact HT.out b h
            · simp at h; omega
        clear hi5 hc5 hs5 HAY HX4 HY4 HB4 HD4 HS4 HT hyy
        go_wp2
        go_roundw
        case rel => exact ⟨i + 1, by omega, by go_num, HFIN⟩
        case measure => simp [intOf]; omega
      · obtain rfl : i = ln := by omega
        have d1 : decide ((i : Int) < (i : Int)) = false := decide_eq_false (by omega)
        obtain ⟨L, HHL⟩ : ∃ L, Hid (L = plL (fun _ => token) K4 i) := ⟨_, rfl⟩
        have HP1 := hidd (places_any HX.out (by omega) 0)
        rw [show pkQ 0 (plL (fun _ => token) K4 i) = plL (fun _ => token) K4 i from rfl, ← HHL.out] at HP1
        obtain ⟨rr, HRR⟩ : ∃ rr : Int, Hid (rr = min (K4 : Int) ((i : Int) - 1)) := ⟨_, rfl⟩
        obtain ⟨z, HZI⟩ : ∃ z : Int, Hid (z = (i : Int) - 1) := ⟨_, rfl⟩
        have e1 : IntKind.i64.wrap ((i : Int) - 1) = z := by rw [IntKind.wrap_i64, HZI.out]; omega
        have hLl : L.length ≤ i := by rw [HHL.out]; exact plL_len _ _ _
        have HEND : Hid ((rr < 1 → L.length = 0) ∧ (1 ≤ rr → (L.length : Int) = (i : Int) - rr ∧ (L.getD 0 0 : Int) = (i : Int) - 1 ∧ (L.getD (L.length - 1) 0 : Int) = rr)) := by
          have hr := HRR.out
          constructor
          · intro h
            rw [HHL.out, same_none token hk.2 (by omega)]
            rfl
          · intro h
            obtain ⟨g1, g2, g3⟩ := same_places token (k := K4) (n := i) hk.2 (by omega)
            rw [← HHL.out] at g1 g2 g3
            rw [← g1] at g3
            omega
        clear HHL
        by_cases hrc : z < (K4 : Int)
        · have d2 : decide (z < (K4 : Int)) = true := decide_eq_true hrc
          rw [show rr = z by have := HRR.out; have := HZI.out; omega] at HEND
          clear HRR rr
          go_wp2_with (go_at_call 12; with_reducible refine HP1.out.mono ?_; rintro e w4 ⟨u1, c1, rfl, ho4, hb4⟩)
          have HY4 := hidd (HY.out.fresh hb4)
          have HB4 := hidd (HB.out.trans (hb4.mono HB.out.size))
          have HO4 := hidd ho4
          have HP2 := hidd (places_any HY4.out (by omega) 0)
          rw [up_none token hk.2 hln, show pkQ 0 [] = [] from rfl, show ([] : List Nat).length = 0 from rfl] at HP2
          clear hb4 ho4 HP1 HX HY HB HD HS HT
          go_wp2_with (go_at_call 12; with_reducible refine HP2.out.mono ?_; rintro e w5 ⟨u2, c2, rfl, ho5, hb5⟩)
          have HB5 := hidd (HB4.out.trans (hb5.mono HB4.out.size))
          have HRL := hidd (HO4.out.kept hb5)
          have HPR := hidd (propose_any (HY4.out.fresh hb5) (by omega) 5 5 (by omega) (by omega))
          rw [up_raw token hk.2 hln, show ([] : List (Int × Int)).length = 0 from rfl] at HPR
          clear hb5 ho5 HP2 HY4 HB4 HO4
          by_cases hr1 : z < 1
          · have d3 : decide (z < 1) = true := decide_eq_true hr1
            have HZ : Hid (L.length = 0) := HEND.out.1 hr1
            clear hrc
            go_wp2_with (go_at_call 13; refine HPR.out.mono ?_; rintro e w6 ⟨v6, rfl, ho6, hb6⟩; obtain ⟨u6, c6, rfl, _⟩ := ho6.rd; have HB6 := hidd (HB5.out.trans (hb6.mono HB5.out.size)); clear hb6 ho6)
            go_ret
            exact ⟨by rw [HZ.out]; rfl, HB6.out⟩
          · have hzi := HZI.out
            have d3 : decide (z < 1) = false := decide_eq_false (by omega)
            obtain ⟨g1, g2, g3⟩ := HEND.out.2 (by omega)
            obtain ⟨b1, o1, hu1, h1⟩ := (own_rda HRL.out).one (by omega)
            subst hu1
            have HCL : Hid (∀ w6, Below w5.heap.size w5 w6 → w6.cell? ⟨b1, o1, none⟩ = some (.int .i64 z) ∧ w6.cell? ⟨b1, o1 + (L.length - 1), none⟩ = some (.int .i64 (z)) ∧ Hid (Below w.heap.size w w6)) := by
              intro w6 hb6
              obtain ⟨b2, o2, e2, h2⟩ := (own_rda (HRL.out.kept hb6)).one (by omega)
              cases e2
              have c0 := h2 0 (by omega)
              rw [Nat.add_zero] at c0
              refine ⟨?_, ?_, HB5.out.trans (hb6.mono HB5.out.size)⟩
              · rw [c0, HZI.out, ← g2]; rfl
              · rw [h2 (L.length - 1) (by omega)]
                show some (Value.int .i64 ((L.getD (L.length - 1) 0 : Nat) : Int)) = _
                rw [g3]
            have k1 : IntKind.i64.wrap ((i : Int) - (z)) = (L.length : Int) := by rw [IntKind.wrap_i64]; omega
            have k2 : IntKind.i64.wrap ((L.length : Int) - 1) = (L.length : Int) - 1 := by rw [IntKind.wrap_i64]; omega
            have k3 : ((L.length : Int) - 1).toNat = L.length - 1 := by omega
            have k4 : (0 : Int) < (L.length : Int) := by omega
            have k5 : (0 : Int) ≤ (L.length : Int) - 1 := by omega
            have k6 : (L.length : Int) - 1 < (L.length : Int) := by omega
            have k7 : 0 < L.length := by omega
            clear hrc g1 g2 g3 h1 HEND HRL hzi
            go_wp2_with (go_at_call 13; refine HPR.out.mono ?_; rintro e w6 ⟨v6, rfl, ho6, hb6⟩; obtain ⟨u6, c6, rfl, _⟩ := ho6.rd; obtain ⟨cl0, cl1, HB6⟩ := HCL.out w6 hb6; clear hb6 ho6)
            go_ret
            exact ⟨by simp, HB6.out⟩
        · have d2 : decide (z < (K4 : Int)) = false := decide_eq_false hrc
          rw [show rr = (K4 : Int) by have := HRR.out; have := HZI.out; omega] at HEND
          clear HRR rr
          go_wp2_with (go_at_call 12; with_reducible refine HP1.out.mono ?_; rintro e w4 ⟨u1, c1, rfl, ho4, hb4⟩)
          have HY4 := hidd (HY.out.fresh hb4)
          have HB4 := hidd (HB.out.trans (hb4.mono HB.out.size))
          have HO4 := hidd ho4
          have HP2 := hidd (places_any HY4.out (by omega) 0)
          rw [up_none token hk.2 hln, show pkQ 0 [] = [] from rfl, show ([] : List Nat).length = 0 from rfl] at HP2
          clear hb4 ho4 HP1 HX HY HB HD HS HT
          go_wp2_with (go_at_call 12; with_reducible refine HP2.out.mono ?_; rintro e w5 ⟨u2, c2, rfl, ho5, hb5⟩)
          have HB5 := hidd (HB4.out.trans (hb5.mono HB4.out.size))
          have HRL := hidd (HO4.out.kept hb5)
          have HPR := hidd (propose_any (HY4.out.fresh hb5) (by omega) 5 5 (by omega) (by omega))
          rw [up_raw token hk.2 hln, show ([] : List (Int × Int)).length = 0 from rfl] at HPR
          clear hb5 ho5 HP2 HY4 HB4 HO4
          have hzi := HZI.out
          have d3 : decide ((K4 : Int) < 1) = false := decide_eq_false (by omega)
          obtain ⟨g1, g2, g3⟩ := HEND.out.2 (by omega)
          obtain ⟨b1, o1, hu1, h1⟩ := (own_rda HRL.out).one (by omega)
          subst hu1
          have HCL : Hid (∀ w6, Below w5.heap.size w5 w6 → w6.cell? ⟨b1, o1, none⟩ = some (.int .i64 z) ∧ w6.cell? ⟨b1, o1 + (L.length - 1), none⟩ = some (.int .i64 ((K4 : Int))) ∧ Hid (Below w.heap.size w w6)) := by
            intro w6 hb6
            obtain ⟨b2, o2, e2, h2⟩ := (own_rda (HRL.out.kept hb6)).one (by omega)
            cases e2
            have c0 := h2 0 (by omega)
            rw [Nat.add_zero] at c0
            refine ⟨?_, ?_, HB5.out.trans (hb6.mono HB5.out.size)⟩
            · rw [c0, HZI.out, ← g2]; rfl
            · rw [h2 (L.length - 1) (by omega)]
              show some (Value.int .i64 ((L.getD (L.length - 1) 0 : Nat) : Int)) = _
              rw [g3]
          have k1 : IntKind.i64.wrap ((i : Int) - ((K4 : Int))) = (L.length : Int) := by rw [IntKind.wrap_i64]; omega
          have k2 : IntKind.i64.wrap ((L.length : Int) - 1) = (L.length : Int) - 1 := by rw [IntKind.wrap_i64]; omega
          have k3 : ((L.length : Int) - 1).toNat = L.length - 1 := by omega
          have k4 : (0 : Int) < (L.length : Int) := by omega
          have k5 : (0 : Int) ≤ (L.length : Int) - 1 := by omega
          have k6 : (L.length : Int) - 1 < (L.length : Int) := by omega
          have k7 : 0 < L.length := by omega
          clear hrc g1 g2 g3 h1 HEND HRL hzi
          go_wp2_with (go_at_call 13; refine HPR.out.mono ?_; rintro e w6 ⟨v6, rfl, ho6, hb6⟩; obtain ⟨u6, c6, rfl, _⟩ := ho6.rd; obtain ⟨cl0, cl1, HB6⟩ := HCL.out w6 hb6; clear hb6 ho6)
          go_ret
          exact ⟨by simp, HB6.out⟩
  · have b1 : decide (long < 0) = false := decide_eq_false a1
    by_cases a2 : 300 < long
    · have b2 : decide (300 < long) = true := decide_eq_true a2
      go_enter Try.func5, Try.ntmps5
      go_wp2_with (go_at_call 9; with_reducible refine HW.out.mono ?_; rintro e w1 ⟨rfl, hb1⟩)
      have HB1 := hidd hb1
      clear hb1 HW
      go_wp2_with (go_at_call 11; with_reducible refine (HG.out _).mono ?_; rintro e w9 ⟨rfl, h9⟩; rw [h9]; clear h9 w9)
      obtain ⟨ln, HLN⟩ : ∃ ln : Nat, Hid (ln = 300) := ⟨_, rfl⟩
      rw [show (300 : Int) = (ln : Int) by have := HLN.out; omega]
      have hln : ln ≤ 300 := by have := HLN.out; omega
      clear HLN
      have HBX := hidd (begun_any (w := w1) (f := fun _ => token) hk (ao := none) (n := 0) (cap := 0) ⟨by omega, by unfold maxLen; omega, fun h => absurd h (by omega)⟩ (fun i hi => absurd hi (by omega)) (by omega))
      go_wp2_with (go_at_call 10; with_reducible refine HBX.out.mono ?_; rintro e w2 ⟨X, S, A, rfl, hbg⟩)
      have HX := hidd hbg.idx
      have HSX := hidd hbg.off
      have HB2 := hidd (HB1.out.trans (hbg.low.mono HB1.out.size))
      have HBY := hidd (begun_any (w := w2) (f := upF token) hk (ao := none) (n := 0) (cap := 0) ⟨by omega, by unfold maxLen; omega, fun h => absurd h (by omega)⟩ (fun i hi => absurd hi (by omega)) (by omega))
      clear hbg HBX
      go_wp2_with (go_at_call 10; with_reducible refine HBY.out.mono ?_; rintro e w3 ⟨Y, T, B, rfl, hbg⟩)
      have H0 : Hid (Tw w w3 X Y K4 0 (fun _ => token) (upF token)) := ⟨S, A, T, B, HX.out.fresh hbg.low, hbg.idx, fun b h1 h2 => by have := HX.out.low b h1; have := hbg.off b h2; omega, fun b h => by have := HSX.out b h; have := HB1.out.size; omega, fun b h => by have := hbg.off b h; have := HB2.out.size; omega, HB2.out.trans (hbg.low.mono HB2.out.size)⟩
      clear hbg HBY HG HX HSX HB2 HB1
      go_wp2
      go_loopw [11] (fun vi wr => ∃ i : Nat, i ≤ ln ∧ vi = .int .i64 i ∧ Hid (Tw w wr X Y K4 i (fun _ => token) (upF token))) (fun vi _ => ln - (intOf vi).toNat)
      case atStart => exact ⟨0, by omega, rfl, H0⟩
      case round =>
        obtain ⟨i, hi1, rfl, HJ⟩ := hrel
        clear H0
        obtain ⟨S', A', T', B', hx, hy, hd, hs, ht', hb⟩ := HJ.out
        have HX := hidd hx
        have HY := hidd hy
        have HD := hidd hd
        have HS := hidd hs
        have HT := hidd ht'
        have HB := hidd hb
        clear HJ hx hy hd hs ht' hb
        by_cases hlt : i < ln
        · have d1 : decide ((i : Int) < (ln : Int)) = true := decide_eq_true (by omega)
          obtain ⟨y, HYY⟩ : ∃ y, Hid (upF token i = y) := ⟨_, rfl⟩
          have hyy : IntKind.i64.wrap (token + (i : Int)) = y := HYY.out
          have HAX := hidd (append_any (HX.out.fresh (fresh_alloc wr (.cells #[.int .i64 token] 3))) (rd_lit1 wr 3 token) (fun b o e _ hs => by cases e; have := HX.out.low _ hs; omega) (fun _ _ => HTK.out) (by omega))
          go_wp2_with (go_at_call 14; with_reducible refine HAX.out.mono ?_; rintro e w4 ⟨rfl, S4, A4, hi4, hc4, _, hs4, _⟩)
          have HX4 : Hid (Idx w4 X S4 K4 (i + 1) (fun _ => token) A4) := hi4.text (fun j _ => by unfold apT; split <;> rfl)
          have HY4 := hidd ((HY.out.fresh (fresh_alloc wr (.cells #[.int .i64 token] 3))).chg hc4 (fun b h1 h2 => HD.out b h2 h1))
          have HB4 := hidd (hc4.below (HB.out.trans ((fresh_alloc wr (.cells #[.int .i64 token] 3)).mono HB.out.size)) (by have := HB.out.size; simp; omega) HS.out)
          have HS4 : Hid (∀ b, S4 b → w.heap.size ≤ b) := fun b h => by
            have := HB.out.size
            rcases hs4 b h with h | h
            · exact HS.out b h
            · simp at h; omega
          have HD4 : Hid (∀ b, S4 b → ¬ T' b) := fun b h1 h2 => by
            rcases hs4 b h1 with h | h
            · exact HD.out b h h2
            · have := HY.out.low b h2; simp at h; omega
          clear hi4 hc4 hs4 HAX HX HY HB HD HS
          have HAY := hidd (append_any (HY4.out.fresh (fresh_alloc w4 (.cells #[.int .i64 y] 3))) (rd_lit1 w4 3 y) (fun b o e _ hs => by cases e; have := HY4.out.low _ hs; omega) (fun _ _ => by rw [← HYY.out]; exact up_fits _ _) (by omega))
          go_wp2_with (go_at_call 14; with_reducible refine HAY.out.mono ?_; rintro e w5 ⟨rfl, T5, B5, hi5, hc5, _, hs5, _⟩)
          have HFIN : Hid (Tw w w5 X Y K4 (i + 1) (fun _ => token) (upF token)) := by
            have hsz := HB4.out.size
            refine ⟨S4, A4, T5, B5, (HX4.out.fresh (fresh_alloc w4 (.cells #[.int .i64 y] 3))).chg hc5 HD4.out, hi5.text (fun j hj => ?_), fun b h1 h2 => ?_, HS4.out, fun b h => ?_, hc5.below (HB4.out.trans ((fresh_alloc w4 (.cells #[.int .i64 y] 3)).mono hsz)) (by simp; omega) HT.out⟩
            · by_cases e : j < i
              · exact apT_lt _ _ e
              · obtain rfl : j = i := by omega
                have := apT_ge (upF token) j (fun _ => y) 0
                rw [Nat.add_zero] at this
                rw [this, HYY.out]
            · rcases hs5 b h2 with h | h
              · exact HD4.out b h1 h
              · have := HX4.out.low b h1; simp at h; omega
            · rcases hs5 b h with h | h
              · exact HT.out b h
              · simp at h; omega
          clear hi5 hc5 hs5 HAY HX4 HY4 HB4 HD4 HS4 HT hyy
          go_wp2
          go_roundw
          case rel => exact ⟨i + 1, by omega, by go_num, HFIN⟩
          case measure => simp [intOf]; omega
        · obtain rfl : i = ln := by omega
          have d1 : decide ((i : Int) < (i : Int)) = false := decide_eq_false (by omega)
          obtain ⟨L, HHL⟩ : ∃ L, Hid (L = plL (fun _ => token) K4 i) := ⟨_, rfl⟩
          have HP1 := hidd (places_any HX.out (by omega) 0)
          rw [show pkQ 0 (plL (fun _ => token) K4 i) = plL (fun _ => token) K4 i from rfl, ← HHL.out] at HP1
          obtain ⟨rr, HRR⟩ : ∃ rr : Int, Hid (rr = min (K4 : Int) ((i : Int) - 1)) := ⟨_, rfl⟩
          obtain ⟨z, HZI⟩ : ∃ z : Int, Hid (z = (i : Int) - 1) := ⟨_, rfl⟩
          have e1 : IntKind.i64.wrap ((i : Int) - 1) = z := by rw [IntKind.wrap_i64, HZI.out]; omega
          have hLl : L.length ≤ i := by rw [HHL.out]; exact plL_len _ _ _
          have HEND : Hid ((rr < 1 → L.length = 0) ∧ (1 ≤ rr → (L.length : Int) = (i : Int) - rr ∧ (L.getD 0 0 : Int) = (i : Int) - 1 ∧ (L.getD (L.length - 1) 0 : Int) = rr)) := by
            have hr := HRR.out
            constructor
            · intro h
              rw [HHL.out, same_none token hk.2 (by omega)]
              rfl
            · intro h
              obtain ⟨g1, g2, g3⟩ := same_places token (k := K4) (n := i) hk.2 (by omega)
              rw [← HHL.out] at g1 g2 g3
              rw [← g1] at g3
              omega
          clear HHL
          by_cases hrc : z < (K4 : Int)
          · have d2 : decide (z < (K4 : Int)) = true := decide_eq_true hrc
            rw [show rr = z by have := HRR.out; have := HZI.out; omega] at HEND
            clear HRR rr
            go_wp2_with (go_at_call 12; with_reducible refine HP1.out.mono ?_; rintro e w4 ⟨u1, c1, rfl, ho4, hb4⟩)
            have HY4 := hidd (HY.out.fresh hb4)
            have HB4 := hidd (HB.out.trans (hb4.mono HB.out.size))
            have HO4 := hidd ho4
            have HP2 := hidd (places_any HY4.out (by omega) 0)
            rw [up_none token hk.2 hln, show pkQ 0 [] = [] from rfl, show ([] : List Nat).length = 0 from rfl] at HP2
            clear hb4 ho4 HP1 HX HY HB HD HS HT
            go_wp2_with (go_at_call 12; with_reducible refine HP2.out.mono ?_; rintro e w5 ⟨u2, c2, rfl, ho5, hb5⟩)
            have HB5 := hidd (HB4.out.trans (hb5.mono HB4.out.size))
            have HRL := hidd (HO4.out.kept hb5)
            have HPR := hidd (propose_any (HY4.out.fresh hb5) (by omega) 5 5 (by omega) (by omega))
            rw [up_raw token hk.2 hln, show ([] : List (Int × Int)).length = 0 from rfl] at HPR
            clear hb5 ho5 HP2 HY4 HB4 HO4
            by_cases hr1 : z < 1
            · have d3 : decide (z < 1) = true := decide_eq_true hr1
              have HZ : Hid (L.length = 0) := HEND.out.1 hr1
              clear hrc
              go_wp2_with (go_at_call 13; refine HPR.out.mono ?_; rintro e w6 ⟨v6, rfl, ho6, hb6⟩; obtain ⟨u6, c6, rfl, _⟩ := ho6.rd; have HB6 := hidd (HB5.out.trans (hb6.mono HB5.out.size)); clear hb6 ho6)
              go_ret
              exact ⟨by rw [HZ.out]; rfl, HB6.out⟩
            · have hzi := HZI.out
              have d3 : decide (z < 1) = false := decide_eq_false (by omega)
              obtain ⟨g1, g2, g3⟩ := HEND.out.2 (by omega)
              obtain ⟨b1, o1, hu1, h1⟩ := (own_rda HRL.out).one (by omega)
              subst hu1
              have HCL : Hid (∀ w6, Below w5.heap.size w5 w6 → w6.cell? ⟨b1, o1, none⟩ = some (.int .i64 z) ∧ w6.cell? ⟨b1, o1 + (L.length - 1), none⟩ = some (.int .i64 (z)) ∧ Hid (Below w.heap.size w w6)) := by
                intro w6 hb6
                obtain ⟨b2, o2, e2, h2⟩ := (own_rda (HRL.out.kept hb6)).one (by omega)
                cases e2
                have c0 := h2 0 (by omega)
                rw [Nat.add_zero] at c0
                refine ⟨?_, ?_, HB5.out.trans (hb6.mono HB5.out.size)⟩
                · rw [c0, HZI.out, ← g2]; rfl
                · rw [h2 (L.length - 1) (by omega)]
                  show some (Value.int .i64 ((L.getD (L.length - 1) 0 : Nat) : Int)) = _
                  rw [g3]
              have k1 : IntKind.i64.wrap ((i : Int) - (z)) = (L.length : Int) := by rw [IntKind.wrap_i64]; omega
              have k2 : IntKind.i64.wrap ((L.length : Int) - 1) = (L.length : Int) - 1 := by rw [IntKind.wrap_i64]; omega
              have k3 : ((L.length : Int) - 1).toNat = L.length - 1 := by omega
              have k4 : (0 : Int) < (L.length : Int) := by omega
              have k5 : (0 : Int) ≤ (L.length : Int) - 1 := by omega
              have k6 : (L.length : Int) - 1 < (L.length : Int) := by omega
              have k7 : 0 < L.length := by omega
              clear hrc g1 g2 g3 h1 HEND HRL hzi
              go_wp2_with (go_at_call 13; refine HPR.out.mono ?_; rintro e w6 ⟨v6, rfl, ho6, hb6⟩; obtain ⟨u6, c6, rfl, _⟩ := ho6.rd; obtain ⟨cl0, cl1, HB6⟩ := HCL.out w6 hb6; clear hb6 ho6)
              go_ret
              exact ⟨by simp, HB6.out⟩
          · have d2 : decide (z < (K4 : Int)) = false := decide_eq_false hrc
            rw [show rr = (K4 : Int) by have := HRR.out; have := HZI.out; omega] at HEND
            clear HRR rr
            go_wp2_with (go_at_call 12; with_reducible refine HP1.out.mono ?_; rintro e w4 ⟨u1, c1, rfl, ho4, hb4⟩)
            have HY4 := hidd (HY.out.fresh hb4)
            have HB4 := hidd (HB.out.trans (hb4.mono HB.out.size))
            have HO4 := hidd ho4
            have HP2 := hidd (places_any HY4.out (by omega) 0)
            rw [up_none token hk.2 hln, show pkQ 0 [] = [] from rfl, show ([] : List Nat).length = 0 from rfl] at HP2
            clear hb4 ho4 HP1 HX HY HB HD HS HT
            go_wp2_with (go_at_call 12; with_reducible refine HP2.out.mono ?_; rintro e w5 ⟨u2, c2, rfl, ho5, hb5⟩)
            have HB5 := hidd (HB4.out.trans (hb5.mono HB4.out.size))
            have HRL := hidd (HO4.out.kept hb5)
            have HPR := hidd (propose_any (HY4.out.fresh hb5) (by omega) 5 5 (by omega) (by omega))
            rw [up_raw token hk.2 hln, show ([] : List (Int × Int)).length = 0 from rfl] at HPR
            clear hb5 ho5 HP2 HY4 HB4 HO4
            have hzi := HZI.out
            have d3 : decide ((K4 : Int) < 1) = false := decide_eq_false (by omega)
            obtain ⟨g1, g2, g3⟩ := HEND.out.2 (by omega)
            obtain ⟨b1, o1, hu1, h1⟩ := (own_rda HRL.out).one (by omega)
            subst hu1
            have HCL : Hid (∀ w6, Below w5.heap.size w5 w6 → w6.cell? ⟨b1, o1, none⟩ = some (.int .i64 z) ∧ w6.cell? ⟨b1, o1 + (L.length - 1), none⟩ = some (.int .i64 ((K4 : Int))) ∧ Hid (Below w.heap.size w w6)) := by
              intro w6 hb6
              obtain ⟨b2, o2, e2, h2⟩ := (own_rda (HRL.out.kept hb6)).one (by omega)
              cases e2
              have c0 := h2 0 (by omega)
              rw [Nat.add_zero] at c0
              refine ⟨?_, ?_, HB5.out.trans (hb6.mono HB5.out.size)⟩
              · rw [c0, HZI.out, ← g2]; rfl
              · rw [h2 (L.length - 1) (by omega)]
                show some (Value.int .i64 ((L.getD (L.length - 1) 0 : Nat) : Int)) = _
                rw [g3]
            have k1 : IntKind.i64.wrap ((i : Int) - ((K4 : Int))) = (L.length : Int) := by rw [IntKind.wrap_i64]; omega
            have k2 : IntKind.i64.wrap ((L.length : Int) - 1) = (L.length : Int) - 1 := by rw [IntKind.wrap_i64]; omega
            have k3 : ((L.length : Int) - 1).toNat = L.length - 1 := by omega
            have k4 : (0 : Int) < (L.length : Int) := by omega
            have k5 : (0 : Int) ≤ (L.length : Int) - 1 := by omega
            have k6 : (L.length : Int) - 1 < (L.length : Int) := by omega
            have k7 : 0 < L.length := by omega
            clear hrc g1 g2 g3 h1 HEND HRL hzi
            go_wp2_with (go_at_call 13; refine HPR.out.mono ?_; rintro e w6 ⟨v6, rfl, ho6, hb6⟩; obtain ⟨u6, c6, rfl, _⟩ := ho6.rd; obtain ⟨cl0, cl1, HB6⟩ := HCL.out w6 hb6; clear hb6 ho6)
            go_ret
            exact ⟨by simp, HB6.out⟩
    · have b2 : decide (300 < long) = false := decide_eq_false a2
      obtain ⟨ln, hln0⟩ : ∃ ln : Nat, long = (ln : Int) := ⟨long.toNat, by omega⟩
      subst hln0
      have hln : ln ≤ 300 := by omega
      go_enter Try.func5, Try.ntmps5
      go_wp2_with (go_at_call 9; with_reducible refine HW.out.mono ?_; rintro e w1 ⟨rfl, hb1⟩)
      have HB1 := hidd hb1
      clear hb1 HW
      go_wp2_with (go_at_call 11; with_reducible refine (HG.out _).mono ?_; rintro e w9 ⟨rfl, h9⟩; rw [h9]; clear h9 w9)
      have HBX := hidd (begun_any (w := w1) (f := fun _ => token) hk (ao := none) (n := 0) (cap := 0) ⟨by omega, by unfold maxLen; omega, fun h => absurd h (by omega)⟩ (fun i hi => absurd hi (by omega)) (by omega))
      go_wp2_with (go_at_call 10; with_reducible refine HBX.out.mono ?_; rintro e w2 ⟨X, S, A, rfl, hbg⟩)
      have HX := hidd hbg.idx
      have HSX := hidd hbg.off
      have HB2 := hidd (HB1.out.trans (hbg.low.mono HB1.out.size))
      have HBY := hidd (begun_any (w := w2) (f := upF token) hk (ao := none) (n := 0) (cap := 0) ⟨by omega, by unfold maxLen; omega, fun h => absurd h (by omega)⟩ (fun i hi => absurd hi (by omega)) (by omega))
      clear hbg HBX
      go_wp2_with (go_at_call 10; with_reducible refine HBY.out.mono ?_; rintro e w3 ⟨Y, T, B, rfl, hbg⟩)
      have H0 : Hid (Tw w w3 X Y K4 0 (fun _ => token) (upF token)) := ⟨S, A, T, B, HX.out.fresh hbg.low, hbg.idx, fun b h1 h2 => by have := HX.out.low b h1; have := hbg.off b h2; omega, fun b h => by have := HSX.out b h; have := HB1.out.size; omega, fun b h => by have := hbg.off b h; have := HB2.out.size; omega, HB2.out.trans (hbg.low.mono HB2.out.size)⟩
      clear hbg HBY HG HX HSX HB2 HB1
      go_wp2
      go_loopw [11] (fun vi wr => ∃ i : Nat, i ≤ ln ∧ vi = .int .i64 i ∧ Hid (Tw w wr X Y K4 i (fun _ => token) (upF token))) (fun vi _ => ln - (intOf vi).toNat)
      case atStart => exact ⟨0, by omega, rfl, H0⟩
      case round =>
        obtain ⟨i, hi1, rfl, HJ⟩ := hrel
        clear H0
        obtain ⟨S', A', T', B', hx, hy, hd, hs, ht', hb⟩ := HJ.out
        have HX := hidd hx
        have HY := hidd hy
        have HD := hidd hd
        have HS := hidd hs
        have HT := hidd ht'
        have HB := hidd hb
        clear HJ hx hy hd hs ht' hb
        by_cases hlt : i < ln
        · have d1 : decide ((i : Int) < (ln : Int)) = true := decide_eq_true (by omega)
          obtain ⟨y, HYY⟩ : ∃ y, Hid (upF token i = y) := ⟨_, rfl⟩
          have hyy : IntKind.i64.wrap (token + (i : Int)) = y := HYY.out
          have HAX := hidd (append_any (HX.out.fresh (fresh_alloc wr (.cells #[.int .i64 token] 3))) (rd_lit1 wr 3 token) (fun b o e _ hs => by cases e; have := HX.out.low _ hs; omega) (fun _ _ => HTK.out) (by omega))
          go_wp2_with (go_at_call 14; with_reducible refine HAX.out.mono ?_; rintro e w4 ⟨rfl, S4, A4, hi4, hc4, _, hs4, _⟩)
          have HX4 : Hid (Idx w4 X S4 K4 (i + 1) (fun _ => token) A4) := hi4.text (fun j _ => by unfold apT; split <;> rfl)
          have HY4 := hidd ((HY.out.fresh (fresh_alloc wr (.cells #[.int .i64 token] 3))).chg hc4 (fun b h1 h2 => HD.out b h2 h1))
          have HB4 := hidd (hc4.below (HB.out.trans ((fresh_alloc wr (.cells #[.int .i64 token] 3)).mono HB.out.size)) (by have := HB.out.size; simp; omega) HS.out)
          have HS4 : Hid (∀ b, S4 b → w.heap.size ≤ b) := fun b h => by
            have := HB.out.size
            rcases hs4 b h with h | h
            · exact HS.out b h
            · simp at h; omega
          have HD4 : Hid (∀ b, S4 b → ¬ T' b) := fun b h1 h2 => by
            rcases hs4 b h1 with h | h
            · exact HD.out b h h2
            · have := HY.out.low b h2; simp at h; omega
          clear hi4 hc4 hs4 HAX HX HY HB HD HS
          have HAY := hidd (append_any (HY4.out.fresh (fresh_alloc w4 (.cells #[.int .i64 y] 3))) (rd_lit1 w4 3 y) (fun b o e _ hs => by cases e; have := HY4.out.low _ hs; omega) (fun _ _ => by rw [← HYY.out]; exact up_fits _ _) (by omega))
          go_wp2_with (go_at_call 14; with_reducible refine HAY.out.mono ?_; rintro e w5 ⟨rfl, T5, B5, hi5, hc5, _, hs5, _⟩)
          have HFIN : Hid (Tw w w5 X Y K4 (i + 1) (fun _ => token) (upF token)) := by
            have hsz := HB4.out.size
            refine ⟨S4, A4, T5, B5, (HX4.out.fresh (fresh_alloc w4 (.cells #[.int .i64 y] 3))).chg hc5 HD4.out, hi5.text (fun j hj => ?_), fun b h1 h2 => ?_, HS4.out, fun b h => ?_, hc5.below (HB4.out.trans ((fresh_alloc w4 (.cells #[.int .i64 y] 3)).mono hsz)) (by simp; omega) HT.out⟩
            · by_cases e : j < i
              · exact apT_lt _ _ e
              · obtain rfl : j = i := by omega
                have := apT_ge (upF token) j (fun _ => y) 0
                rw [Nat.add_zero] at this
                rw [this, HYY.out]
            · rcases hs5 b h2 with h | h
              · exact HD4.out b h1 h
              · have := HX4.out.low b h1; simp at h; omega
            · rcases hs5 b h with h | h
              · exact HT.out b h
              · simp at h; omega
          clear hi5 hc5 hs5 HAY HX4 HY4 HB4 HD4 HS4 HT hyy
          go_wp2
          go_roundw
          case rel => exact ⟨i + 1, by omega, by go_num, HFIN⟩
          case measure => simp [intOf]; omega
        · obtain rfl : i = ln := by omega
          have d1 : decide ((i : Int) < (i : Int)) = false := decide_eq_false (by omega)
          obtain ⟨L, HHL⟩ : ∃ L, Hid (L = plL (fun _ => token) K4 i) := ⟨_, rfl⟩
          have HP1 := hidd (places_any HX.out (by omega) 0)
          rw [show pkQ 0 (plL (fun _ => token) K4 i) = plL (fun _ => token) K4 i from rfl, ← HHL.out] at HP1
          obtain ⟨rr, HRR⟩ : ∃ rr : Int, Hid (rr = min (K4 : Int) ((i : Int) - 1)) := ⟨_, rfl⟩
          obtain ⟨z, HZI⟩ : ∃ z : Int, Hid (z = (i : Int) - 1) := ⟨_, rfl⟩
          have e1 : IntKind.i64.wrap ((i : Int) - 1) = z := by rw [IntKind.wrap_i64, HZI.out]; omega
          have hLl : L.length ≤ i := by rw [HHL.out]; exact plL_len _ _ _
          have HEND : Hid ((rr < 1 → L.length = 0) ∧ (1 ≤ rr → (L.length : Int) = (i : Int) - rr ∧ (L.getD 0 0 : Int) = (i : Int) - 1 ∧ (L.getD (L.length - 1) 0 : Int) = rr)) := by
            have hr := HRR.out
            constructor
            · intro h
              rw [HHL.out, same_none token hk.2 (by omega)]
              rfl
            · intro h
              obtain ⟨g1, g2, g3⟩ := same_places token (k := K4) (n := i) hk.2 (by omega)
              rw [← HHL.out] at g1 g2 g3
              rw [← g1] at g3
              omega
          clear HHL
          by_cases hrc : z < (K4 : Int)
          · have d2 : decide (z < (K4 : Int)) = true := decide_eq_true hrc
            rw [show rr = z by have := HRR.out; have := HZI.out; omega] at HEND
            clear HRR rr
            go_wp2_with (go_at_call 12; with_reducible refine HP1.out.mono ?_; rintro e w4 ⟨u1, c1, rfl, ho4, hb4⟩)
            have HY4 := hidd (HY.out.fresh hb4)
            have HB4 := hidd (HB.out.trans (hb4.mono HB.out.size))
            have HO4 := hidd ho4
            have HP2 := hidd (places_any HY4.out (by omega) 0)
            rw [up_none token hk.2 hln, show pkQ 0 [] = [] from rfl, show ([] : List Nat).length = 0 from rfl] at HP2
            clear hb4 ho4 HP1 HX HY HB HD HS HT
            go_wp2_with (go_at_call 12; with_reducible refine HP2.out.mono ?_; rintro e w5 ⟨u2, c2, rfl, ho5, hb5⟩)
            have HB5 := hidd (HB4.out.trans (hb5.mono HB4.out.size))
            have HRL := hidd (HO4.out.kept hb5)
            have HPR := hidd (propose_any (HY4.out.fresh hb5) (by omega) 5 5 (by omega) (by omega))
            rw [up_raw token hk.2 hln, show ([] : List (Int × Int)).length = 0 from rfl] at HPR
            clear hb5 ho5 HP2 HY4 HB4 HO4
            by_cases hr1 : z < 1
            · have d3 : decide (z < 1) = true := decide_eq_true hr1
              have HZ : Hid (L.length = 0) := HEND.out.1 hr1
              clear hrc
              go_wp2_with (go_at_call 13; refine HPR.out.mono ?_; rintro e w6 ⟨v6, rfl, ho6, hb6⟩; obtain ⟨u6, c6, rfl, _⟩ := ho6.rd; have HB6 := hidd (HB5.out.trans (hb6.mono HB5.out.size)); clear hb6 ho6)
              go_ret
              exact ⟨by rw [HZ.out]; rfl, HB6.out⟩
            · have hzi := HZI.out
              have d3 : decide (z < 1) = false := decide_eq_false (by omega)
              obtain ⟨g1, g2, g3⟩ := HEND.out.2 (by omega)
              obtain ⟨b1, o1, hu1, h1⟩ := (own_rda HRL.out).one (by omega)
              subst hu1
              have HCL : Hid (∀ w6, Below w5.heap.size w5 w6 → w6.cell? ⟨b1, o1, none⟩ = some (.int .i64 z) ∧ w6.cell? ⟨b1, o1 + (L.length - 1), none⟩ = some (.int .i64 (z)) ∧ Hid (Below w.heap.size w w6)) := by
                intro w6 hb6
                obtain ⟨b2, o2, e2, h2⟩ := (own_rda (HRL.out.kept hb6)).one (by omega)
                cases e2
                have c0 := h2 0 (by omega)
                rw [Nat.add_zero] at c0
                refine ⟨?_, ?_, HB5.out.trans (hb6.mono HB5.out.size)⟩
                · rw [c0, HZI.out, ← g2]; rfl
                · rw [h2 (L.length - 1) (by omega)]
                  show some (Value.int .i64 ((L.getD (L.length - 1) 0 : Nat) : Int)) = _
                  rw [g3]
              have k1 : IntKind.i64.wrap ((i : Int) - (z)) = (L.length : Int) := by rw [IntKind.wrap_i64]; omega
              have k2 : IntKind.i64.wrap ((L.length : Int) - 1) = (L.length : Int) - 1 := by rw [IntKind.wrap_i64]; omega
              have k3 : ((L.length : Int) - 1).toNat = L.length - 1 := by omega
              have k4 : (0 : Int) < (L.length : Int) := by omega
              have k5 : (0 : Int) ≤ (L.length : Int) - 1 := by omega
              have k6 : (L.length : Int) - 1 < (L.length : Int) := by omega
              have k7 : 0 < L.length := by omega
              clear hrc g1 g2 g3 h1 HEND HRL hzi
              go_wp2_with (go_at_call 13; refine HPR.out.mono ?_; rintro e w6 ⟨v6, rfl, ho6, hb6⟩; obtain ⟨u6, c6, rfl, _⟩ := ho6.rd; obtain ⟨cl0, cl1, HB6⟩ := HCL.out w6 hb6; clear hb6 ho6)
              go_ret
              exact ⟨by simp, HB6.out⟩
          · have d2 : decide (z < (K4 : Int)) = false := decide_eq_false hrc
            rw [show rr = (K4 : Int) by have := HRR.out; have := HZI.out; omega] at HEND
            clear HRR rr
            go_wp2_with (go_at_call 12; with_reducible refine HP1.out.mono ?_; rintro e w4 ⟨u1, c1, rfl, ho4, hb4⟩)
            have HY4 := hidd (HY.out.fresh hb4)
            have HB4 := hidd (HB.out.trans (hb4.mono HB.out.size))
            have HO4 := hidd ho4
            have HP2 := hidd (places_any HY4.out (by omega) 0)
            rw [up_none token hk.2 hln, show pkQ 0 [] = [] from rfl, show ([] : List Nat).length = 0 from rfl] at HP2
            clear hb4 ho4 HP1 HX HY HB HD HS HT
            go_wp2_with (go_at_call 12; with_reducible refine HP2.out.mono ?_; rintro e w5 ⟨u2, c2, rfl, ho5, hb5⟩)
            have HB5 := hidd (HB4.out.trans (hb5.mono HB4.out.size))
            have HRL := hidd (HO4.out.kept hb5)
            have HPR := hidd (propose_any (HY4.out.fresh hb5) (by omega) 5 5 (by omega) (by omega))
            rw [up_raw token hk.2 hln, show ([] : List (Int × Int)).length = 0 from rfl] at HPR
            clear hb5 ho5 HP2 HY4 HB4 HO4
            have hzi := HZI.out
            have d3 : decide ((K4 : Int) < 1) = false := decide_eq_false (by omega)
            obtain ⟨g1, g2, g3⟩ := HEND.out.2 (by omega)
            obtain ⟨b1, o1, hu1, h1⟩ := (own_rda HRL.out).one (by omega)
            subst hu1
            have HCL : Hid (∀ w6, Below w5.heap.size w5 w6 → w6.cell? ⟨b1, o1, none⟩ = some (.int .i64 z) ∧ w6.cell? ⟨b1, o1 + (L.length - 1), none⟩ = some (.int .i64 ((K4 : Int))) ∧ Hid (Below w.heap.size w w6)) := by
              intro w6 hb6
              obtain ⟨b2, o2, e2, h2⟩ := (own_rda (HRL.out.kept hb6)).one (by omega)
              cases e2
              have c0 := h2 0 (by omega)
              rw [Nat.add_zero] at c0
              refine ⟨?_, ?_, HB5.out.trans (hb6.mono HB5.out.size)⟩
              · rw [c0, HZI.out, ← g2]; rfl
              · rw [h2 (L.length - 1) (by omega)]
                show some (Value.int .i64 ((L.getD (L.length - 1) 0 : Nat) : Int)) = _
                rw [g3]
            have k1 : IntKind.i64.wrap ((i : Int) - ((K4 : Int))) = (L.length : Int) := by rw [IntKind.wrap_i64]; omega
            have k2 : IntKind.i64.wrap ((L.length : Int) - 1) = (L.length : Int) - 1 := by rw [IntKind.wrap_i64]; omega
            have k3 : ((L.length : Int) - 1).toNat = L.length - 1 := by omega
            have k4 : (0 : Int) < (L.length : Int) := by omega
            have k5 : (0 : Int) ≤ (L.length : Int) - 1 := by omega
            have k6 : (L.length : Int) - 1 < (L.length : Int) := by omega
            have k7 : 0 < L.length := by omega
            clear hrc g1 g2 g3 h1 HEND HRL hzi
            go_wp2_with (go_at_call 13; refine HPR.out.mono ?_; rintro e w6 ⟨v6, rfl, ho6, hb6⟩; obtain ⟨u6, c6, rfl, _⟩ := ho6.rd; obtain ⟨cl0, cl1, HB6⟩ := HCL.out w6 hb6; clear hb6 ho6)
            go_ret
            exact ⟨by simp, HB6.out⟩
end Go.Proofs.Ytbpldnlafilbbaa
