import Derived.Test.YtjjfbpjejhjdiabDoorPkX
namespace Go.Proofs.YtjjfbpjejhjdiabDoor
open Go.RowKit
/-! PickSound: some, sound. -/
set_option maxRecDepth 20000 in
set_option maxHeartbeats 1600000 in
theorem some_any {w : World} {bo : Option Addr} {l cl : Nat} {b : Nat → Bool} (h : RdA w bo 1 l cl (fun i => .bool (b i))) (n : Nat) (hn : n ≤ 1048576) (r : Bool) (hr : r = true ↔ ∃ i, i < n ∧ mayB l b i = true) :
    Calls Tryd.prog 11 #[.int .i64 (n : Int), .slice bo l cl] w fun e w' => e = .returned (.bool r) ∧ Below w.heap.size w w' := by
  have HM : Hid (∀ wr, Below w.heap.size w wr → ∀ k : Nat, Calls Tryd.prog 30 #[.slice bo l cl, .int .i64 (k : Int)] wr fun e w' => e = .returned (.bool (mayB l b k)) ∧ w' = wr) := fun wr hw k => may_any (h.fresh hw) k
  have HR := hidd hr
  clear h hr
  go_enter Tryd.func11, Tryd.ntmps11
  go_wp2
  go_loopw [5] (fun i wr => ∃ k : Nat, k ≤ n ∧ i = .int .i64 (k : Int) ∧ Hid (∀ j, j < k → mayB l b j = false) ∧ Below w.heap.size w wr) (fun i _ => n - (intOf i).toNat)
  case atStart => exact ⟨0, Nat.zero_le _, by simp, fun j hj => absurd hj (by omega), Below.refl _ _⟩
  case round =>
    obtain ⟨k, hk, rfl, HJ, hw⟩ := hrel
    by_cases hlt : k < n
    · have i1 : (k : Int) < (n : Int) := by omega
      have hc := HM.out wr hw k
      cases hM : mayB l b k with
      | true =>
        rw [hM] at hc
        have HC := hidd hc
        have hrt : r = true := HR.out.2 ⟨k, hlt, hM⟩
        subst hrt
        clear hc hM
        go_wp2_with fail
        refine HC.out.mono ?_
        rintro e w9 ⟨rfl, h9⟩
        rw [h9]
        clear h9
        go_wp2
        go_ret
        exact ⟨rfl, hw⟩
      | false =>
        rw [hM] at hc
        have HC := hidd hc
        have HN : Hid (∀ j, j < k + 1 → mayB l b j = false) := fun j hj => by
          by_cases e : j = k
          · rw [e]; exact hM
          · exact HJ.out j (by omega)
        clear hc hM
        go_wp2_with fail
        refine HC.out.mono ?_
        rintro e w9 ⟨rfl, h9⟩
        rw [h9]
        clear h9
        go_wp2
        go_roundw
        case rel => exact ⟨k + 1, by omega, by go_num, HN.out, hw⟩
        case measure => simp [intOf]; omega
    · obtain rfl : k = n := by omega
      have hrf : r = false := by
        cases hq : r with
        | false => rfl
        | true =>
          obtain ⟨i, hi, hM⟩ := HR.out.1 hq
          rw [HJ.out i hi] at hM
          cases hM
      subst hrf
      go_wp2
      go_ret
      exact ⟨rfl, hw⟩
set_option maxRecDepth 20000 in
set_option maxHeartbeats 3200000 in
theorem sound_any {w : World} {bo u : Option Addr} {l cl c base n : Nat} {b : Nat → Bool} {L : List (Int × Int)} (h : RdA w bo 1 l cl (fun i => .bool (b i))) (hp : PL w base u c L) (hs : SoundL L n (mayB l b)) (hl : L.length ≤ 1048576) :
    Calls Tryd.prog 10 #[.slice u L.length c, .int .i64 (n : Int), .slice bo l cl] w fun e w' => e = .returned (.bool true) ∧ Below w.heap.size w w' := by
  have hls := Own.les hp
  have HM : Hid (∀ wr, Below w.heap.size w wr → ∀ k : Nat, Calls Tryd.prog 30 #[.slice bo l cl, .int .i64 (k : Int)] wr fun e w' => e = .returned (.bool (mayB l b k)) ∧ w' = wr) := fun wr hw k => may_any (h.fresh hw) k
  have HP := hidd hp
  have HS := hidd hs
  clear h hp hs
  go_enter Tryd.func10, Tryd.ntmps10
  go_wp2
  go_loopw [7] (fun i wr => ∃ k : Nat, k ≤ L.length ∧ i = .int .i64 (k : Int) ∧ Below w.heap.size w wr) (fun i _ => L.length - (intOf i).toNat)
  case atStart => exact ⟨0, Nat.zero_le _, by simp, Below.refl _ _⟩
  case round =>
    obtain ⟨k, hk, rfl, hw⟩ := hrel
    by_cases hlt : k < L.length
    · obtain ⟨g, rfl, _, _, g3, _⟩ := PL.cells (HP.out.kept hw) (by omega)
      obtain ⟨d0, d1⟩ := g3 k hlt
      obtain ⟨i, hi, ei, hMi⟩ := HS.out.tok k hlt
      have p1 := HS.out.pos k hlt
      have hc := HM.out wr hw i
      rw [hMi] at hc
      have HC := hidd hc
      have HEI := hidd ei
      rw [ei] at d0
      have HG3 : Hid (∀ k, k < L.length → wr.cell? ⟨g, k * 2, none⟩ = some (.int .i64 (L.getD k (0, 0)).1) ∧ wr.cell? ⟨g, k * 2 + 1, none⟩ = some (.int .i64 (L.getD k (0, 0)).2)) := g3
      obtain ⟨wk, hwk⟩ : ∃ x, x = (L.getD k (0, 0)).2 := ⟨_, rfl⟩
      rw [← hwk] at d1 p1
      have HWK := hidd hwk
      clear g3 hc ei hMi hwk
      have i0 : (0 : Int) ≤ (k : Int) := by omega
      have i1 : (k : Int) < (L.length : Int) := by omega
      have t0 : ¬ (i : Int) < 0 := by omega
      have t1 : ¬ (n : Int) ≤ (i : Int) := by omega
      have t2 : ¬ wk < 1 := by omega
      go_wp2_with fail
      refine HC.out.mono ?_
      rintro e w9 ⟨rfl, h9⟩
      rw [h9]
      clear h9
      by_cases k0 : k = 0
      · have e1 : wk = 65536 := by rw [HWK.out, k0]; exact HS.out.one (by omega)
        clear HWK
        subst k0
        subst e1
        go_wp2
        go_quiet (fail)
        go_wp2
        refine wp_loop_rounds 1 ?_
        rw [rounds_succ]
        go_wp2
        go_roundw
        case rel => exact ⟨1, by omega, by go_num, below_drewN hw _⟩
        case measure => simp [intOf]; omega
      · obtain ⟨kk, hkk⟩ : ∃ kk : Nat, k = kk + 1 := ⟨k - 1, by omega⟩
        have d3 := (HG3.out kk (by omega)).2
        have hfall := HS.out.fall kk (by omega)
        rw [← hkk, ← HWK.out] at hfall
        obtain ⟨wj, hwj⟩ : ∃ x, x = (L.getD kk (0, 0)).2 := ⟨_, rfl⟩
        rw [← hwj] at d3 hfall
        have wf : IntKind.i64.wrap ((k : Int) - 1) = (kk : Int) := by rw [IntKind.wrap_i64]; omega
        have j0 : (0 : Int) ≤ (kk : Int) := by omega
        have j1 : (kk : Int) < (L.length : Int) := by omega
        have b0 : ((k : Int) == 0) = false := by simpa using k0
        have b1 : decide ((0 : Int) < (k : Int)) = true := decide_eq_true (by omega)
        have b1' : decide (0 < k) = true := decide_eq_true (by omega)
        have b2 : decide (wj < wk) = false := decide_eq_false (by omega)
        have b3 : decide ((k : Int) = 0) = false := decide_eq_false (by omega)
        have HAP : Hid (∀ j, j < k → (L.getD j (0, 0)).1 ≠ (i : Int)) := fun j hj e => HS.out.apart j k hj hlt (by rw [e, HEI.out])
        clear hkk hwj HWK HEI
        go_wp2
        go_quiet (fail)
        go_wp2
        go_loopw [8] (fun v wz => ∃ j : Nat, j ≤ k ∧ v = .int .i64 (j : Int) ∧ Below wr.heap.size wr wz) (fun v _ => k - (intOf v).toNat)
        case atStart => exact ⟨0, Nat.zero_le _, by simp, below_drewN (Below.refl _ _) _⟩
        case round =>
          obtain ⟨j, hj, rfl, hz⟩ := hrel
          by_cases hjk : j < k
          · have x0 := fresh_cell hz (HG3.out j (by omega)).1
            have x1 := fresh_cell hz d0
            have hne := HAP.out j hjk
            generalize (L.getD j (0, 0)).1 = tj at *
            have n1 : decide (tj = (i : Int)) = false := decide_eq_false hne
            have n2 : (tj == (i : Int)) = false := by simpa using hne
            have y0 : (0 : Int) ≤ (j : Int) := by omega
            have y1 : (j : Int) < (L.length : Int) := by omega
            have y2 : (j : Int) < (k : Int) := by omega
            clear d0 d1 d3 hne
            go_wp2
            go_quiet (fail)
            go_wp2
            go_roundw
            case rel => exact ⟨j + 1, by omega, by go_num, below_drewN hz _⟩
            case measure => simp [intOf]; omega
          · obtain rfl : j = k := by omega
            go_wp2
            go_roundw
            case rel => exact ⟨j + 1, by omega, by go_num, fresh_trans hw hz⟩
            case measure => simp [intOf]; omega
    · obtain rfl : k = L.length := by omega
      go_wp2
      go_ret
      exact ⟨rfl, hw⟩
end Go.Proofs.YtjjfbpjejhjdiabDoor
