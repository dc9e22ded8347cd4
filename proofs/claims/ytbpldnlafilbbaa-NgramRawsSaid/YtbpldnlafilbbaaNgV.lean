import Derived.Test.YtbpldnlafilbbaaNgU
namespace Go.Proofs.Ytbpldnlafilbbaa
open Go.RowKit
/-! NgramRaws. -/
theorem chR_pre (R : List (Int × Int)) (t : Nat → Int) : ∀ m, R <+: chR R t m
  | 0 => List.prefix_refl _
  | m + 1 => by
    unfold chR
    exact (chR_pre R t m).trans (List.prefix_append _ _)
theorem pre_getD {α : Type} {A B : List α} (h : A <+: B) {j : Nat} (hj : j < A.length) (d : α) : B.getD j d = A.getD j d := by
  obtain ⟨r, rfl⟩ := h
  rw [List.getD_eq_getElem?_getD, List.getD_eq_getElem?_getD, List.getElem?_append_left hj]
theorem chR_get (R : List (Int × Int)) (t : Nat → Int) : ∀ {m k : Nat}, k < m → (chR R t m).getD (R.length + k) (0, 0) = (if k = 0 then -1 else ((R.length + k : Nat) : Int) - 1, t k)
  | 0, k, h => absurd h (by omega)
  | m + 1, k, h => by
    by_cases e : k < m
    · unfold chR
      rw [pre_getD (A := chR R t m) (List.prefix_append _ _) (by rw [chR_len]; omega)]
      exact chR_get R t e
    · obtain rfl : k = m := by omega
      unfold chR
      rw [List.getD_eq_getElem?_getD, List.getElem?_append_right (by rw [chR_len]; omega), chR_len]
      simp
theorem prR_take (tx : Nat → Int) (n d : Nat) {L : List Nat} {i : Nat} (h : i < L.length) : prR tx n d (L.take (i + 1)) = chR (prR tx n d (L.take i)) (fun j => tx (L.getD i 0 + j)) (cnN n d (prR tx n d (L.take i)) (L.getD i 0)) := by
  have e : L.take (i + 1) = L.take i ++ [L.getD i 0] := by
    rw [List.getD_eq_getElem?_getD, List.getElem?_eq_getElem h, List.take_succ_eq_append_getElem h]
    rfl
  rw [e, prR_app]
theorem prR_pre (tx : Nat → Int) (n d : Nat) (L : List Nat) : ∀ (m i : Nat), prR tx n d (L.take i) <+: prR tx n d (L.take (i + m))
  | 0, i => List.prefix_refl _
  | m + 1, i => by
    refine (prR_pre tx n d L m i).trans ?_
    by_cases h : i + m < L.length
    · rw [← Nat.add_assoc, prR_take tx n d h]
      exact chR_pre _ _ _
    · rw [List.take_of_length_le (by omega), List.take_of_length_le (by omega)]
      exact List.prefix_refl _
theorem raw_at (tx : Nat → Int) (n d : Nat) {L : List Nat} {i W k : Nat} (h : i < L.length) (hW : i < W) (hk : k < cnN n d (prR tx n d (L.take i)) (L.getD i 0)) :
    (prR tx n d (L.take i)).length + k < (prR tx n d (L.take W)).length ∧ (prR tx n d (L.take W)).getD ((prR tx n d (L.take i)).length + k) (0, 0) = (if k = 0 then -1 else (((prR tx n d (L.take i)).length + k : Nat) : Int) - 1, tx (L.getD i 0 + k)) := by
  have hp := prR_pre tx n d L (W - (i + 1)) (i + 1)
  rw [show i + 1 + (W - (i + 1)) = W by omega, prR_take tx n d h] at hp
  have hl := hp.length_le
  rw [chR_len] at hl
  refine ⟨by omega, ?_⟩
  rw [pre_getD hp (by rw [chR_len]; omega), chR_get _ _ hk]
set_option maxRecDepth 20000 in
set_option maxHeartbeats 3200000 in
theorem raws_law {w : World} (n ways deep : Int) (hw1 : -9223372036854775808 ≤ ways ∧ ways ≤ 9223372036854775807) (hd1 : -9223372036854775808 ≤ deep ∧ deep ≤ 9223372036854775807) {ao : Option Addr} {na ca : Nat} {fa : Nat → Int} (ha : RdA w ao 1 na ca (fun i => .int .i64 (fa i))) (hfa : ∀ i, i < na → fits (fa i)) (hn : na * 8 ≤ 140737488351232) :
    Calls Try.prog 3 #[.int .i64 n, .slice ao na ca, .int .i64 ways, .int .i64 deep] w fun e w' => e = .returned (.bool true) ∧ Below w.heap.size w w' := by
  have hk := grN_le n
  have HG := hidd (gram_any · n)
  obtain ⟨K4, hkk⟩ : ∃ k, k = grN n := ⟨_, rfl⟩
  rw [← hkk] at hk HG
  clear hkk
  have HA := hidd ha
  have HFA := hidd hfa
  have HW := hidd (works_any w)
  clear ha hfa
  go_enter Try.func3, Try.ntmps3
  go_wp2_with (go_at_call 9; with_reducible refine HW.out.mono ?_; rintro e w1 ⟨rfl, hb1⟩)
  have HB1 := hidd hb1
  clear hb1 HW
  go_wp2_with (go_at_call 11; with_reducible refine (HG.out _).mono ?_; rintro e w9 ⟨rfl, h9⟩; rw [h9]; clear h9 w9)
  have HBX := hidd (begun_any hk (HA.out.fresh HB1.out) HFA.out (by omega))
  go_wp2_with (go_at_call 10; with_reducible refine HBX.out.mono ?_; rintro e w2 ⟨X, S, A, rfl, hbg⟩)
  have HX := hidd hbg.idx
  have HB2 := hidd (HB1.out.trans (hbg.low.mono HB1.out.size))
  obtain ⟨L, HHL⟩ : ∃ L, Hid (L = plL fa K4 na) := ⟨_, rfl⟩
  have HP1 := hidd (places_any HX.out (by omega) 0)
  rw [show pkQ 0 (plL fa K4 na) = plL fa K4 na from rfl, ← HHL.out] at HP1
  clear hbg HBX HB1 HG
  go_wp2_with (go_at_call 12; with_reducible refine HP1.out.mono ?_; rintro e w3 ⟨u1, c1, rfl, ho3, hb3⟩)
  have HX3 := hidd (HX.out.fresh hb3)
  have HB3 := hidd (HB2.out.trans (hb3.mono HB2.out.size))
  have HO3 := hidd ho3
  obtain ⟨T, HHT⟩ : ∃ T, Hid (T = prR fa na deep.toNat (L.take ways.toNat)) := ⟨_, rfl⟩
  have HP2 := hidd (propose_any HX3.out (by omega) ways deep hw1 hd1)
  rw [show prO fa K4 na ways deep = T by unfold prO; rw [HHT.out, HHL.out]] at HP2
  clear hb3 ho3 HP1 HX HB2
  go_wp2_with (go_at_call 13; with_reducible refine HP2.out.mono ?_; rintro e w4 ⟨v4, rfl, ho4, hb4⟩)
  obtain ⟨u2, c2, rfl, _⟩ := ho4.rd
  have HRL := hidd (own_rda (HO3.out.kept hb4))
  have HRT := hidd (own_rda ho4)
  have HB4 := hidd (HB3.out.trans (hb4.mono HB3.out.size))
  have hLn : L.length ≤ na := by rw [HHL.out]; exact plL_len _ _ _
  have hTn : T.length ≤ 96 := by rw [HHT.out]; exact prR_len _ _ _ _
  have HMEM : Hid (∀ i, i < L.length → 1 ≤ L.getD i 0 ∧ L.getD i 0 < na) := fun i hi => by
    refine plL_mem (tx := fa) (most := K4) ?_
    rw [← HHL.out, List.getD_eq_getElem?_getD, List.getElem?_eq_getElem hi]
    exact List.getElem_mem _
  clear hb4 ho4 HP2 HX3 HB3 HO3 HHL HFA
  go_wp2
  go_loopw [13, 14] (fun va vi wr => ∃ i : Nat, i ≤ L.length ∧ i ≤ ways.toNat ∧ vi = .int .i64 i ∧ va = .int .i64 ((prR fa na deep.toNat (L.take i)).length : Nat) ∧ Hid (Below w4.heap.size w4 wr)) (fun _ vi _ => L.length - (intOf vi).toNat)
  case atStart => exact ⟨0, by omega, by omega, rfl, rfl, Below.refl _ _⟩
  case round =>
    obtain ⟨i, hi1, hi2, rfl, rfl, HBr⟩ := hrel
    by_cases hlt : i < L.length
    · have d1 : decide ((i : Int) < (L.length : Int)) = true := decide_eq_true (by omega)
      by_cases hlw : i < ways.toNat
      · have d2 : decide ((i : Int) < ways) = true := decide_eq_true (by omega)
        obtain ⟨q, HQ⟩ : ∃ q, Hid (q = L.getD i 0) := ⟨_, rfl⟩
        have hq := HMEM.out i hlt
        rw [← HQ.out] at hq
        obtain ⟨hq1, hq2⟩ := hq
        obtain ⟨R, HR⟩ : ∃ R, Hid (R = prR fa na deep.toNat (L.take i)) := ⟨_, rfl⟩
        have hR96 : R.length ≤ 96 := by rw [HR.out]; exact prR_len _ _ _ _
        rw [← HR.out]
        obtain ⟨mn, HMN⟩ : ∃ mn, Hid (mn = cnN na deep.toNat R q) := ⟨_, rfl⟩
        have hmn : mn ≤ deep.toNat ∧ mn ≤ na - q ∧ R.length + mn ≤ 96 ∧ (mn = deep.toNat ∨ mn = na - q ∨ R.length + mn = 96) := by rw [HMN.out]; unfold cnN; omega
        go_wp2
        go_loopw [13, 15] (fun va vk wr => ∃ k : Nat, k ≤ mn ∧ vk = .int .i64 k ∧ va = .int .i64 ((R.length + k : Nat) : Int) ∧ Hid (Below w4.heap.size w4 wr)) (fun _ vk _ => mn - (intOf vk).toNat)
        case atStart => exact ⟨0, by omega, rfl, rfl, HBr⟩
        case round =>
          obtain ⟨k, hk1, rfl, rfl, HBk⟩ := hrel
          have hbk := HBk.out
          have HBw := hidd (HB4.out.trans (hbk.mono HB4.out.size))
          by_cases hkm : k < mn
          · obtain ⟨b1, o1, hu1, h1⟩ := (HRL.out.fresh hbk).one (by omega)
            subst hu1
            have cl : wr.cell? ⟨b1, o1 + i, none⟩ = some (.int .i64 (q : Int)) := by rw [h1 i hlt, HQ.out]; rfl
            obtain ⟨b0, o0, hu0, h0⟩ := (HA.out.fresh HBw.out).one (by omega)
            subst hu0
            have ct := h0 (q + k) (by omega)
            have hra : k < cnN na deep.toNat (prR fa na deep.toNat (L.take i)) (L.getD i 0) := by rw [← HR.out, ← HQ.out, ← HMN.out]; exact hkm
            obtain ⟨hr1, hr2⟩ := raw_at fa na deep.toNat hlt hlw hra
            rw [← HR.out, ← HHT.out] at hr1 hr2
            rw [← HQ.out] at hr2
            obtain ⟨b2, o2, hu2, h2⟩ := (HRT.out.fresh hbk).at_ (by omega)
            subst hu2
            have ca1 := h2 ((R.length + k) * 2) (by omega)
            have ca2 := h2 ((R.length + k) * 2 + 1) (by omega)
            rw [rwF_1, hr2] at ca1
            rw [rwF_2, hr2, ← Nat.add_assoc] at ca2
            dsimp only at ca1 ca2
            obtain ⟨a, HAA⟩ : ∃ a, Hid (a = R.length + k) := ⟨_, rfl⟩
            rw [← HAA.out] at ca1 ca2 hr1 ⊢
            have ha96 : a < 96 := by have := HAA.out; omega
            clear h0 h1 h2 hra hr2 hbk
            have e1 : decide ((k : Int) < deep) = true := decide_eq_true (by omega)
            have e2 : IntKind.i64.wrap ((q : Int) + (k : Int)) = (q : Int) + (k : Int) := wrap_small _ (by omega) (by omega)
            have e3 : decide ((q : Int) + (k : Int) < (na : Int)) = true := decide_eq_true (by omega)
            have e4 : decide ((a : Int) < 96) = true := decide_eq_true (by omega)
            have e5 : IntKind.i64.wrap ((a : Int) - 1) = (a : Int) - 1 := by rw [IntKind.wrap_i64]; omega
            have e6 : ((q : Int) + (k : Int)).toNat = q + k := by omega
            have e7 : decide ((T.length : Int) ≤ (a : Int)) = false := decide_eq_false (by omega)
            have e8 : (0 : Int) ≤ (q : Int) + (k : Int) := by omega
            have e9 : (q : Int) + (k : Int) < (na : Int) := by omega
            have e10 : (a : Int) < (T.length : Int) := by omega
            have e11 : (i : Int) < (L.length : Int) := by omega
            have e12 : (a : Int) < 96 := by omega
            have e13 : (k : Int) < deep := by omega
            generalize fa (q + k) = y at ct ca2
            by_cases hk0 : k = 0
            · rw [if_pos hk0] at ca1
              have f2 : ((k : Int) == 0) = true := by simpa using hk0
              have f1 : decide ((k : Int) = 0) = true := decide_eq_true (by omega)
              clear hk0
              go_wp2
              go_quiet (fail)
              go_wp2
              go_roundw
              case rel => exact ⟨k + 1, by omega, by go_num, by have := HAA.out; go_num, below_drewN HBk.out _⟩
              case measure => simp [intOf]; omega
            · rw [if_neg hk0] at ca1
              have f1 : ¬ (k : Int) = 0 := by omega
              have f2 : ((k : Int) == 0) = false := by simpa using hk0
              go_wp2
              go_quiet (fail)
              go_wp2
              go_roundw
              case rel => exact ⟨k + 1, by omega, by go_num, by have := HAA.out; go_num, below_drewN HBk.out _⟩
              case measure => simp [intOf]; omega
          · obtain rfl : k = mn := by omega
            have HREL : Hid (∃ i' : Nat, i' ≤ L.length ∧ i' ≤ ways.toNat ∧ Value.int .i64 ((i : Int) + 1) = .int .i64 (i' : Int) ∧ Value.int .i64 (((R.length + k : Nat) : Int)) = .int .i64 ((prR fa na deep.toNat (L.take i')).length : Nat) ∧ Hid (Below w4.heap.size w4 wr)) := by
              refine ⟨i + 1, by omega, by omega, by simp, ?_, HBk⟩
              rw [prR_take fa na deep.toNat hlt, ← HR.out, ← HQ.out, ← HMN.out, chR_len]
            obtain ⟨a, HAA⟩ : ∃ a, Hid (a = R.length + k) := ⟨_, rfl⟩
            rw [← HAA.out] at HREL ⊢
            have haa := HAA.out
            by_cases c1 : (k : Int) < deep
            · have e1 : decide ((k : Int) < deep) = true := decide_eq_true c1
              obtain ⟨b1, o1, hu1, h1⟩ := (HRL.out.fresh hbk).one (by omega)
              subst hu1
              have cl : wr.cell? ⟨b1, o1 + i, none⟩ = some (.int .i64 (q : Int)) := by rw [h1 i hlt, HQ.out]; rfl
              have e2 : IntKind.i64.wrap ((q : Int) + (k : Int)) = (q : Int) + (k : Int) := wrap_small _ (by omega) (by omega)
              have e11 : (i : Int) < (L.length : Int) := by omega
              clear h1
              by_cases c2 : (q : Int) + (k : Int) < (na : Int)
              · have e3 : decide ((q : Int) + (k : Int) < (na : Int)) = true := decide_eq_true c2
                have e4 : decide ((a : Int) < 96) = false := decide_eq_false (by omega)
                have e5 : ¬ (a : Int) < 96 := by omega
                clear hmn hkm haa
                go_wp2
                go_roundw
                case rel => exact HREL.out
                case measure => simp [intOf]; omega
              · have e3 : decide ((q : Int) + (k : Int) < (na : Int)) = false := decide_eq_false c2
                clear hmn hkm haa
                go_wp2
                go_roundw
                case rel => exact HREL.out
                case measure => simp [intOf]; omega
            · have e1 : decide ((k : Int) < deep) = false := decide_eq_false c1
              clear hmn hkm haa
              go_wp2
              go_roundw
              case rel => exact HREL.out
              case measure => simp [intOf]; omega
      · have d2 : decide ((i : Int) < ways) = false := decide_eq_false (by omega)
        obtain rfl : i = ways.toNat := by omega
        have HE := hidd (HB4.out.trans (HBr.out.mono HB4.out.size))
        rw [← HHT.out]
        go_wp2
        go_ret
        exact ⟨by simp, HE.out⟩
    · have d1 : decide ((i : Int) < (L.length : Int)) = false := decide_eq_false (by omega)
      have HE := hidd (HB4.out.trans (HBr.out.mono HB4.out.size))
      have e0 : prR fa na deep.toNat (L.take i) = T := by rw [HHT.out, List.take_of_length_le (by omega), List.take_of_length_le (by omega)]
      rw [e0]
      clear e0
      go_wp2
      go_ret
      exact ⟨by simp, HE.out⟩
end Go.Proofs.Ytbpldnlafilbbaa
