import Derived.Test.YtjjfbpjejhjdiabDoorRkF
import Derived.Test.YtjjfbpjejhjdiabDoorPkX
import Derived.Test.YtjjfbpjejhjdiabDoorDwR
namespace Go.Proofs.YtjjfbpjejhjdiabDoor
open Go.RowKit
/-! The reference's Choose. -/
set_option maxRecDepth 20000 in
set_option maxHeartbeats 1600000 in
theorem chances_ref_bad (p : Prm) (bad : ¬ p.Ok) (w : World) (ao so bo : Value) :
    Calls Tryd.prog 12 #[.agg #[.int .i64 p.temp, .int .i64 p.topk, .int .i64 p.topp, .int .i64 p.pen, .int .u64 (p.seed : Int)], ao, so, bo] w fun e w' => e = .returned (.tuple #[.slice none 0 0, .int .i64 100]) ∧ Below w.heap.size w w' := by
  have HC : Hid (∀ w1, Calls Tryd.prog 31 #[.agg #[.int .i64 p.temp, .int .i64 p.topk, .int .i64 p.topp, .int .i64 p.pen, .int .u64 (p.seed : Int)]] w1 fun e w' => e = .returned (.int .i64 100) ∧ Below w1.heap.size w1 w') := fun w1 => (check_ref p w1).mono fun e w' ⟨⟨er, h1, h2⟩, h3⟩ => by
    rcases h2 with ⟨o, _⟩ | ⟨_, rfl⟩
    · exact absurd o bad
    · exact ⟨h1, h3⟩
  have f1 := fresh_alloc w (.cells #[.int .i64 p.temp, .int .i64 p.topk, .int .i64 p.topp, .int .i64 p.pen, .int .u64 (p.seed : Int)] 24)
  go_enter Tryd.func12, Tryd.ntmps12
  go_wp2_with fail
  refine (HC.out _).mono ?_
  rintro e w1 ⟨rfl, f2⟩
  go_wp2
  go_ret2
  exact ⟨rfl, fresh_trans f1 f2⟩
set_option maxRecDepth 20000 in
set_option maxHeartbeats 1600000 in
theorem choose_ref_bad (p : Prm) (bad : ¬ p.Ok) (w : World) (ao so bo : Value) (pos : Int) :
    Calls Tryd.prog 21 #[.agg #[.int .i64 p.temp, .int .i64 p.topk, .int .i64 p.topp, .int .i64 p.pen, .int .u64 (p.seed : Int)], ao, so, .int .i64 pos, bo] w fun e w' => e = .returned (.tuple #[.int .i64 0, .int .i64 100]) ∧ Below w.heap.size w w' := by
  have HC := hidd (fun w1 => chances_ref_bad p bad w1 ao so bo)
  have f1 := fresh_alloc w (.cells #[.int .i64 p.temp, .int .i64 p.topk, .int .i64 p.topp, .int .i64 p.pen, .int .u64 (p.seed : Int)] 24)
  go_enter Tryd.func21, Tryd.ntmps21
  go_wp2_with fail
  refine (HC.out _).mono ?_
  rintro e w1 ⟨rfl, f2⟩
  go_wp2
  go_ret2
  exact ⟨rfl, fresh_trans f1 f2⟩
set_option maxRecDepth 20000 in
set_option maxHeartbeats 3200000 in
theorem choose_ref_ok (p : Prm) (ok : p.Ok) {w : World} {ao so bo : Option Addr} {n ca m cb l cl : Nat} {f s : Nat → Int} {b : Nat → Bool} (h : In3 w ao so bo n ca m cb l cl f s b) (pos : Int) :
    Calls Tryd.prog 21 #[.agg #[.int .i64 p.temp, .int .i64 p.topk, .int .i64 p.topp, .int .i64 p.pen, .int .u64 (p.seed : Int)], .slice ao n ca, .slice so m cb, .int .i64 pos, .slice bo l cl] w fun e w' => e = .returned (.tuple #[.int .i64 (choi p pos (chOf p n m l f s b)), .int .i64 0]) ∧ Below w.heap.size w w' := by
  have f1 := fresh_alloc w (.cells #[.int .i64 p.temp, .int .i64 p.topk, .int .i64 p.topp, .int .i64 p.pen, .int .u64 (p.seed : Int)] 24)
  have HC : Hid (∀ w1, Below w.heap.size w w1 → Calls Tryd.prog 12 #[.agg #[.int .i64 p.temp, .int .i64 p.topk, .int .i64 p.topp, .int .i64 p.pen, .int .u64 (p.seed : Int)], .slice ao n ca, .slice so m cb, .slice bo l cl] w1 fun e w' => ∃ u c, e = .returned (.tuple #[.slice u (chOf p n m l f s b).length c, .int .i64 0]) ∧ PL w' w1.heap.size u c (chOf p n m l f s b) ∧ Below w1.heap.size w1 w') := fun w1 k => chances_ref_ok p ok (h.fresh k)
  have hbd : ∀ x ∈ chOf p n m l f s b, 0 ≤ x.2 ∧ x.2 ≤ 65536 := chL_bd _ _ _ _
  have hsd : SoundL (chOf p n m l f s b) n (mayB l b) := chL_sound ok _ _ _
  have hlen : (chOf p n m l f s b).length ≤ 1048576 := by have := chL_len p (scF p.pen f (seenB s m)) n (mayB l b); have := h.hn; unfold chOf; omega
  have hsz : 0 < w.heap.size := by have := h.ta.lt; omega
  have c4 : (w.alloc (.cells #[.int .i64 p.temp, .int .i64 p.topk, .int .i64 p.topp, .int .i64 p.pen, .int .u64 (p.seed : Int)] 24)).cell? ⟨w.heap.size, 4, none⟩ = some (.int .u64 (p.seed : Int)) := by simp
  clear h
  generalize chOf p n m l f s b = L at *
  have HP : Hid (∀ k, k < L.length → pre L (k + 1) = pre L k + (L.getD k (0, 0)).2) := fun k hk => pre_succ L k hk
  have HB : Hid (∀ k, k ≤ L.length → 0 ≤ pre L k ∧ pre L k ≤ 68719476736) := fun k hk => by
    have := pre_bd hbd (k := k) hk
    omega
  have HW : Hid (∀ k, k < L.length → 0 ≤ (L.getD k (0, 0)).2 ∧ (L.getD k (0, 0)).2 ≤ 65536) := fun k hk => hbd _ (getD_mem hk)
  have hP0 : pre L 0 = 0 := pre_zero _
  have HK : Hid (∀ k, k < L.length → ∀ u, pkL (L.drop k) u = if u < (L.getD k (0, 0)).2 then (L.getD k (0, 0)).1 else pkL (L.drop (k + 1)) (u - (L.getD k (0, 0)).2)) := fun k hk u => pkL_drop hk u
  have HS1 : Hid (0 < L.length → 0 < pre L L.length) := fun h0 => by
    have h1 := pre_mono hbd (j := 1) (k := L.length) (by omega) (Nat.le_refl _)
    rw [pre_succ L 0 h0, pre_zero, hsd.one h0] at h1
    omega
  obtain ⟨S, hS⟩ := Int.eq_ofNat_of_zero_le (HB.out L.length (Nat.le_refl _)).1
  have hSb := (HB.out L.length (Nat.le_refl _)).2
  have eC : choi p pos L = pkL L (drw p pos S : Nat) := by unfold choi; rw [hS]; rfl
  have HDL : Hid (0 < L.length → drw p pos S < S) := fun h0 => drw_lt p pos (by have := HS1.out h0; omega)
  have HS := hidd hS
  rw [hS] at hSb
  have HA : Hid (∀ w1, Calls Tryd.prog 38 #[.int .u64 (p.seed : Int), .int .i64 pos, .int .i64 0] w1 fun e w' => e = .returned (.int .u64 ((Dw.atN p.seed (Dw.num pos) (Dw.num 0) : Nat) : Int)) ∧ w' = w1) := fun w1 => Dw.at_ref p.seed pos 0 w1
  have HBL : Hid (∀ w1, Calls Tryd.prog 39 #[.int .u64 ((Dw.atN p.seed (Dw.num pos) (Dw.num 0) : Nat) : Int), .int .u64 (S : Int)] w1 fun e w' => e = .returned (.int .u64 ((drw p pos S : Nat) : Int)) ∧ w' = w1) := fun w1 => Dw.below_ref _ S w1 Dw.atN_lt (by omega)
  rw [eC]
  clear hbd hS eC hsd HS1
  generalize Dw.atN p.seed (Dw.num pos) (Dw.num 0) = at0 at *
  generalize drw p pos S = U at *
  by_cases h0 : L.length = 0
  · have hL : L = [] := List.length_eq_zero_iff.1 h0
    clear HP HB HW HK HDL HS hP0 h0
    subst hL
    simp only [List.length_nil] at *
    go_enter Tryd.func21, Tryd.ntmps21
    go_wp2_with fail
    refine (HC.out _ f1).mono ?_
    rintro e w1 ⟨u, c, rfl, hpl, f2⟩
    go_wp2
    go_ret2
    exact ⟨rfl, fresh_trans f1 f2⟩
  have l0 : 0 < L.length := by omega
  have l1 : ((L.length : Int) == 0) = false := by simpa using h0
  have l2 : decide ((L.length : Int) = 0) = false := decide_eq_false (by omega)
  have hUS := HDL.out l0
  clear HDL
  go_enter Tryd.func21, Tryd.ntmps21
  go_wp2_with fail
  refine (HC.out _ f1).mono ?_
  rintro e w1 ⟨u, c, rfl, hpl, f2⟩
  have c4' := fresh_cell f2 c4
  have HF := hidd (fresh_trans f1 f2)
  have HL := hidd hpl
  have hls := Own.les hpl
  obtain ⟨g, rfl, g1, g2, g3, g4⟩ := PL.cells hpl l0
  have HG := hidd g3
  clear hpl f2 f1 c4 HC g3 g4
  go_wp2
  go_loopw [14, 15] (fun v i wr => ∃ k : Nat, k ≤ L.length ∧ i = .int .i64 (k : Int) ∧ v = .int .i64 (pre L k) ∧ wr = w1) (fun _ i _ => L.length - (intOf i).toNat)
  case atStart => exact ⟨0, Nat.zero_le _, by simp, by rw [hP0], rfl⟩
  case round =>
    obtain ⟨k, hk, rfl, rfl, hwe⟩ := hrel
    rw [hwe]
    clear hwe
    by_cases hlt : k < L.length
    · obtain ⟨d0, d1⟩ := HG.out k hlt
      have b1 := HW.out k hlt
      have b2 := HB.out k hk
      have hs := HP.out k hlt
      generalize (L.getD k (0, 0)).1 = tk at *
      generalize (L.getD k (0, 0)).2 = wk at *
      have HQ := hidd hs
      clear hs
      have i0 : (0 : Int) ≤ (k : Int) := by omega
      have i1 : (k : Int) < (L.length : Int) := by omega
      go_wp2
      go_roundw
      case rel => exact ⟨k + 1, by omega, by go_num, by rw [HQ.out], by first | rfl | trivial⟩
      case measure => simp [intOf]; omega
    · obtain rfl : k = L.length := by omega
      rw [HS.out]
      have wS : IntKind.u64.wrap (S : Int) = (S : Int) := by rw [IntKind.wrap_u64]; omega
      go_wp2_with fail
      refine (HA.out _).mono ?_
      rintro e w2 ⟨rfl, h8⟩
      rw [h8]
      clear h8
      go_wp2_with fail
      refine (HBL.out _).mono ?_
      rintro e w2 ⟨rfl, h8⟩
      rw [h8]
      clear h8
      go_wp2
      go_loopw [18, 19] (fun v i wr => ∃ k : Nat, k ≤ L.length ∧ i = .int .i64 (k : Int) ∧ v = .int .u64 (pre L k) ∧ Hid (pre L k ≤ (U : Int)) ∧ Hid (pkL (L.drop k) ((U : Int) - pre L k) = pkL L (U : Int)) ∧ wr = w1) (fun _ i _ => L.length - (intOf i).toNat)
      case atStart => exact ⟨0, Nat.zero_le _, by simp, by rw [hP0], by show pre L 0 ≤ _; rw [hP0]; omega, by show pkL (L.drop 0) _ = _; rw [List.drop_zero, hP0, Int.sub_zero], rfl⟩
      case round =>
        obtain ⟨k, hk2, rfl, rfl, HLE, HJ, hwe⟩ := hrel
        rw [hwe]
        clear hwe
        by_cases hlt : k < L.length
        · obtain ⟨d0, d1⟩ := HG.out k hlt
          have b1 := HW.out k hlt
          have b2 := HB.out k hk2
          have b3 := HB.out (k + 1) (by omega)
          have hs := HP.out k hlt
          have hkk := HK.out k hlt ((U : Int) - pre L k)
          rw [HJ.out] at hkk
          have hle9 : pre L k ≤ (U : Int) := HLE.out
          rw [hs] at b3
          generalize (L.getD k (0, 0)).1 = tk at *
          generalize (L.getD k (0, 0)).2 = wk at *
          have HQ := hidd hs
          clear hs HLE HJ
          have i0 : (0 : Int) ≤ (k : Int) := by omega
          have i1 : (k : Int) < (L.length : Int) := by omega
          generalize pre L k = pk at *
          have v1 : IntKind.u64.wrap wk = wk := by rw [IntKind.wrap_u64]; omega
          have v2 : IntKind.u64.wrap (pk + wk) = pk + wk := by rw [IntKind.wrap_u64]; omega
          by_cases q : (U : Int) < pk + wk
          · rw [if_pos (by omega)] at hkk
            have HT := hidd hkk
            clear hkk
            go_wp2
            go_ret2
            exact ⟨(by show Ending.returned (.tuple #[.int .i64 tk, .int .i64 0]) = _; rw [HT.out]), HF.out⟩
          · rw [if_neg (by omega)] at hkk
            have HQ2 := hidd hkk.symm
            clear hkk
            go_wp2
            go_roundw
            case rel => exact ⟨k + 1, by omega, by go_num, by rw [HQ.out], by show pre L (k + 1) ≤ _; rw [HQ.out]; omega, by show pkL _ ((U : Int) - pre L (k + 1)) = _; rw [HQ.out, ← HQ2.out]; congr 1; omega, by first | rfl | trivial⟩
            case measure => simp [intOf]; omega
        · obtain rfl : k = L.length := by omega
          exfalso
          have e9 : pre L L.length ≤ (U : Int) := HLE.out
          rw [HS.out] at e9
          omega
end Go.Proofs.YtjjfbpjejhjdiabDoor
