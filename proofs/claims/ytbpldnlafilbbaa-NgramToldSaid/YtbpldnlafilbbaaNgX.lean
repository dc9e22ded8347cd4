import Derived.Test.YtbpldnlafilbbaaNgW
namespace Go.Proofs.Ytbpldnlafilbbaa
open Go.RowKit
/-! NgramMore. -/
theorem getD_mem {L : List Nat} {i : Nat} (h : i < L.length) : L.getD i 0 ∈ L := by
  rw [List.getD_eq_getElem?_getD, List.getElem?_eq_getElem h]
  exact List.getElem_mem _
theorem mem_getD {L : List Nat} {q : Nat} (h : q ∈ L) : ∃ i, i < L.length ∧ L.getD i 0 = q := by
  obtain ⟨i, hi, e⟩ := List.getElem_of_mem h
  refine ⟨i, hi, ?_⟩
  rw [List.getD_eq_getElem?_getD, List.getElem?_eq_getElem hi]
  exact e
set_option maxRecDepth 20000 in
set_option maxHeartbeats 3200000 in
theorem more_law {w : World} (n : Int) {ao : Option Addr} {na ca : Nat} {fa : Nat → Int} (ha : RdA w ao 1 na ca (fun i => .int .i64 (fa i))) (hfa : ∀ i, i < na → fits (fa i)) (hn : na * 8 ≤ 140737488351232) :
    Calls Try.prog 4 #[.int .i64 n, .slice ao na ca] w fun e w' => e = .returned (.bool true) ∧ Below w.heap.size w w' := by
  have hk := grN_le n
  have HG := hidd (gram_any · n)
  obtain ⟨K4, hkk⟩ : ∃ k, k = grN n := ⟨_, rfl⟩
  rw [← hkk] at hk HG
  clear hkk
  have HA := hidd ha
  have HFA := hidd hfa
  have HW := hidd (works_any w)
  clear ha hfa
  go_enter Try.func4, Try.ntmps4
  go_wp2_with (go_at_call 9; with_reducible refine HW.out.mono ?_; rintro e w1 ⟨rfl, hb1⟩)
  have HB1 := hidd hb1
  clear hb1 HW
  go_wp2_with (go_at_call 11; with_reducible refine (HG.out _).mono ?_; rintro e w9 ⟨rfl, h9⟩; rw [h9]; clear h9 w9)
  have HBX := hidd (begun_any hk (HA.out.fresh HB1.out) HFA.out (by omega))
  go_wp2_with (go_at_call 10; with_reducible refine HBX.out.mono ?_; rintro e w2 ⟨X, S, A, rfl, hbg⟩)
  have HX := hidd hbg.idx
  have HB2 := hidd (HB1.out.trans (hbg.low.mono HB1.out.size))
  clear hbg HBX HB1 HG
  have HBY := hidd (begun_any (k := 4) (by omega) (HA.out.fresh HB2.out) HFA.out (by omega))
  go_wp2_with (go_at_call 10; refine HBY.out.mono ?_; rintro e w3 ⟨Y, SY, AY, rfl, hbg⟩)
  have HX3 := hidd (HX.out.fresh hbg.low)
  have HY3 := hidd hbg.idx
  have HB3 := hidd (HB2.out.trans (hbg.low.mono HB2.out.size))
  obtain ⟨L, HHL⟩ : ∃ L, Hid (L = plL fa K4 na) := ⟨_, rfl⟩
  obtain ⟨M, HHM⟩ : ∃ M, Hid (M = plL fa 4 na) := ⟨_, rfl⟩
  have HP1 := hidd (places_any HX3.out (by omega) 0)
  rw [show pkQ 0 (plL fa K4 na) = plL fa K4 na from rfl, ← HHL.out] at HP1
  clear hbg HBY HB2 HX
  go_wp2_with (go_at_call 12; with_reducible refine HP1.out.mono ?_; rintro e w4 ⟨u1, c1, rfl, ho4, hb4⟩)
  have HY4 := hidd (HY3.out.fresh hb4)
  have HB4 := hidd (HB3.out.trans (hb4.mono HB3.out.size))
  have HO4 := hidd ho4
  have HP2 := hidd (places_any HY4.out (by omega) 0)
  rw [show pkQ 0 (plL fa 4 na) = plL fa 4 na from rfl, ← HHM.out] at HP2
  clear hb4 ho4 HP1 HX3 HY3 HB3
  go_wp2_with (go_at_call 12; with_reducible refine HP2.out.mono ?_; rintro e w5 ⟨u2, c2, rfl, ho5, hb5⟩)
  have HRL := hidd (own_rda (HO4.out.kept hb5))
  have HRM := hidd (own_rda ho5)
  have HB5 := hidd (HB4.out.trans (hb5.mono HB4.out.size))
  have hLn : L.length ≤ na := by rw [HHL.out]; exact plL_len _ _ _
  have hMn : M.length ≤ na := by rw [HHM.out]; exact plL_len _ _ _
  have HIN : Hid (∀ i, i < M.length → ∃ j, j < L.length ∧ L.getD j 0 = M.getD i 0) := fun i hi => by
    have h1 := getD_mem hi
    rw [HHM.out] at h1
    have h2 := plL_more hk h1
    rw [← HHL.out, ← HHM.out] at h2
    exact mem_getD h2
  have HEM : Hid (L.length = 0 ↔ M.length = 0) := by
    show L.length = 0 ↔ M.length = 0
    rw [List.length_eq_zero_iff, List.length_eq_zero_iff, HHL.out, HHM.out, plL_nil hk.2, plL_nil (Nat.le_refl _)]
    constructor
    · intro h
      by_cases e : endL fa 4 na = 0
      · exact e
      · have := end_zero (tx := fa) (n := na) (m := 4) (by omega) hk (by omega); omega
    · intro h
      by_cases e : endL fa K4 na = 0
      · exact e
      · have := end_zero (tx := fa) (n := na) (m := K4) (k := 4) (by omega) (by omega) (by omega); omega
  clear hb5 ho5 HP2 HY4 HB4 HO4 HHL HHM HFA HA
  go_wp2
  go_loopw [11] (fun vi wr => ∃ i : Nat, i ≤ M.length ∧ vi = .int .i64 i ∧ Hid (Below w5.heap.size w5 wr)) (fun vi _ => M.length - (intOf vi).toNat)
  case atStart => exact ⟨0, by omega, rfl, Below.refl _ _⟩
  case round =>
    obtain ⟨i, hi1, rfl, HBr⟩ := hrel
    by_cases hlt : i < M.length
    · have d1 : decide ((i : Int) < (M.length : Int)) = true := decide_eq_true (by omega)
      obtain ⟨q, HQ⟩ : ∃ q, Hid (q = M.getD i 0) := ⟨_, rfl⟩
      have HIQ : Hid (∃ j, j < L.length ∧ L.getD j 0 = q) := by rw [HQ.out]; exact HIN.out i hlt
      go_wp2
      go_loopw [12, 13] (fun vf vk wr => ∃ k : Nat, k ≤ L.length ∧ vk = .int .i64 k ∧ (∃ b : Bool, vf = .bool b ∧ Hid (b = true ↔ ∃ j, j < k ∧ L.getD j 0 = q)) ∧ Hid (Below w5.heap.size w5 wr)) (fun _ vk _ => L.length - (intOf vk).toNat)
      case atStart => exact ⟨0, by omega, rfl, ⟨false, rfl, by show (false = true) ↔ _; simp⟩, HBr⟩
      case round =>
        obtain ⟨k, hk1, rfl, ⟨b, rfl, Hb⟩, HBk⟩ := hrel
        have hbk := HBk.out
        by_cases hkm : k < L.length
        · have e1 : decide ((k : Int) < (L.length : Int)) = true := decide_eq_true (by omega)
          have f1 : (k : Int) < (L.length : Int) := by omega
          have f2 : (i : Int) < (M.length : Int) := by omega
          obtain ⟨b1, o1, hu1, h1⟩ := (HRL.out.fresh hbk).one (by omega)
          subst hu1
          have cl : wr.cell? ⟨b1, o1 + k, none⟩ = some (.int .i64 ((L.getD k 0 : Nat) : Int)) := h1 k hkm
          obtain ⟨b2, o2, hu2, h2⟩ := (HRM.out.fresh hbk).one (by omega)
          subst hu2
          have cm : wr.cell? ⟨b2, o2 + i, none⟩ = some (.int .i64 (q : Int)) := by rw [h2 i hlt, HQ.out]; rfl
          obtain ⟨y, HY⟩ : ∃ y, Hid (y = L.getD k 0) := ⟨_, rfl⟩
          rw [← HY.out] at cl
          clear h1 h2 hbk
          have HST : Hid ((∃ j, j < k + 1 ∧ L.getD j 0 = q) ↔ (∃ j, j < k ∧ L.getD j 0 = q) ∨ y = q) := by
            constructor
            · rintro ⟨j, h1, h2⟩
              by_cases e : j < k
              · exact .inl ⟨j, e, h2⟩
              · obtain rfl : j = k := by omega
                exact .inr (HY.out.trans h2)
            · rintro (⟨j, h1, h2⟩ | h)
              · exact ⟨j, by omega, h2⟩
              · exact ⟨k, by omega, HY.out.symm.trans h⟩
          cases b with
          | true =>
            go_wp2
            go_quiet (fail)
            go_wp2
            go_roundw
            case rel => exact ⟨k + 1, by omega, by go_num, ⟨true, rfl, ⟨fun _ => HST.out.2 (.inl (Hb.out.1 (by trivial))), fun _ => rfl⟩⟩, below_drewN HBk.out _⟩
            case measure => simp [intOf]; omega
          | false =>
            by_cases e : y = q
            · have g1 : ((y : Int) == (q : Int)) = true := by simp; omega
              have g2 : (y : Int) = (q : Int) := by omega
              have HE := hidd e
              clear e g2
              go_wp2
              go_quiet (fail)
              go_wp2
              go_roundw
              case rel => exact ⟨k + 1, by omega, by go_num, ⟨true, rfl, ⟨fun _ => HST.out.2 (.inr HE.out), fun _ => rfl⟩⟩, below_drewN HBk.out _⟩
              case measure => simp [intOf]; omega
            · have g1 : ((y : Int) == (q : Int)) = false := by simp; omega
              have g2 : ¬ (y : Int) = (q : Int) := by omega
              have HE := hidd e
              clear e
              go_wp2
              go_quiet (fail)
              go_wp2
              go_roundw
              case rel => exact ⟨k + 1, by omega, by go_num, ⟨false, rfl, ⟨fun h => absurd h (by simp), fun h => by rcases HST.out.1 h with h | h; exact Hb.out.2 h; exact absurd h HE.out⟩⟩, below_drewN HBk.out _⟩
              case measure => simp [intOf]; omega
        · obtain rfl : k = L.length := by omega
          obtain rfl : b = true := Hb.out.2 HIQ.out
          go_wp2
          go_roundw
          case rel => exact ⟨i + 1, by omega, by go_num, HBk⟩
          case measure => simp [intOf]; omega
    · obtain rfl : i = M.length := by omega
      have HE := hidd (HB5.out.trans (HBr.out.mono HB5.out.size))
      have hem := HEM.out
      by_cases e : L.length = 0
      · have e2 := hem.1 e
        have g1 : decide (0 < (L.length : Int)) = false := decide_eq_false (by omega)
        have g2 : decide (0 < (M.length : Int)) = false := decide_eq_false (by omega)
        clear hem
        go_wp2
        go_ret
        exact ⟨by simp [e, e2], HE.out⟩
      · have e2 : ¬ M.length = 0 := fun h => e (hem.2 h)
        have g1 : decide (0 < (L.length : Int)) = true := decide_eq_true (by omega)
        have g2 : decide (0 < (M.length : Int)) = true := decide_eq_true (by omega)
        have g3 : 0 < L.length := by omega
        have g4 : 0 < M.length := by omega
        clear hem
        go_wp2
        go_ret
        exact ⟨by simp, HE.out⟩
end Go.Proofs.Ytbpldnlafilbbaa
