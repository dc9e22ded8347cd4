import Derived.Test.YtjjfbpjejhjdiabDoorPkK
import Derived.Test.YtjjfbpjejhjdiabDoorDwU
namespace Go.Proofs.YtjjfbpjejhjdiabDoor
open Go.RowKit
/-! Choose. -/
theorem Dw.Holds.fresh {w w' : World} (h : Dw.Holds w) (f : Below w.heap.size w w') : Dw.Holds w' := by
  obtain ⟨t, fr, e⟩ := h
  exact ⟨t, fr, (f.block _ (Array.getElem?_eq_some_iff.1 e).1).trans e⟩
theorem chL_bd (p : Prm) (g : Nat → Int) (n : Nat) (M : Nat → Bool) : ∀ x ∈ chL p g n M, 0 ≤ x.2 ∧ x.2 ≤ 65536 := fun x hx => by
  unfold chL at hx
  split at hx
  · obtain ⟨y, _, rfl⟩ := List.mem_map.1 hx
    show 0 ≤ (65536 : Int) ∧ (65536 : Int) ≤ 65536
    omega
  · exact weL_bd _ _ x (List.mem_of_mem_take hx)
theorem chL_len (p : Prm) (g : Nat → Int) (n : Nat) (M : Nat → Bool) : (chL p g n M).length ≤ n := by
  have h1 := canL_len g n M
  unfold chL
  split
  · rw [List.length_map, List.length_take]; omega
  · rw [List.length_take, weL_len]
    have : (topL p.topk (canL g n M)).length ≤ (canL g n M).length := by
      unfold topL
      split
      · exact Nat.le_refl _
      · rw [List.length_take]; omega
    omega
/-- the number that is drawn -/
def drw (p : Prm) (pos : Int) (S : Nat) : Nat := Dw.below (Dw.atN p.seed (Dw.num pos) (Dw.num 0)) S
theorem drw_le (p : Prm) (pos : Int) (S : Nat) : drw p pos S ≤ S := by
  unfold drw Dw.below
  have h : Dw.atN p.seed (Dw.num pos) (Dw.num 0) < 18446744073709551616 := Dw.atN_lt
  refine Nat.div_le_of_le_mul ?_
  exact Nat.mul_le_mul_right _ (Nat.le_of_lt h)
theorem drw_lt (p : Prm) (pos : Int) {S : Nat} (h : 0 < S) : drw p pos S < S := Dw.below_lt Dw.atN_lt h
/-- what Choose answers of chances -/
def choi (p : Prm) (pos : Int) (L : List (Int × Int)) : Int := pkL L (drw p pos (pre L L.length).toNat : Nat)
set_option maxRecDepth 20000 in
set_option maxHeartbeats 1600000 in
theorem choose_bad (p : Prm) (bad : ¬ p.Ok) (w : World) (ao so bo : Value) (pos : Int) :
    Calls Tryd.prog 9 #[.agg #[.int .i64 p.temp, .int .i64 p.topk, .int .i64 p.topp, .int .i64 p.pen, .int .u64 (p.seed : Int)], ao, so, .int .i64 pos, bo] w fun e w' => e = .returned (.tuple #[.int .i64 0, .int .i64 100]) ∧ Below w.heap.size w w' := by
  have HC := hidd (fun w1 => chances_bad p bad w1 ao so bo)
  have f1 := fresh_alloc w (.cells #[.int .i64 p.temp, .int .i64 p.topk, .int .i64 p.topp, .int .i64 p.pen, .int .u64 (p.seed : Int)] 24)
  go_enter Tryd.func9, Tryd.ntmps9
  go_wp2_with (go_at_call 8; with_reducible refine (HC.out _).mono ?_; rintro e w1 ⟨rfl, f2⟩)
  go_ret2
  exact ⟨rfl, fresh_trans f1 f2⟩
set_option maxRecDepth 20000 in
set_option maxHeartbeats 3200000 in
theorem choose_ok (p : Prm) (ok : p.Ok) {w : World} {ao so bo : Option Addr} {n ca m cb l cl : Nat} {f s : Nat → Int} {b : Nat → Bool} (h : In3 w ao so bo n ca m cb l cl f s b) (hD : Dw.Holds w) (pos : Int) :
    Calls Tryd.prog 9 #[.agg #[.int .i64 p.temp, .int .i64 p.topk, .int .i64 p.topp, .int .i64 p.pen, .int .u64 (p.seed : Int)], .slice ao n ca, .slice so m cb, .int .i64 pos, .slice bo l cl] w fun e w' => e = .returned (.tuple #[.int .i64 (choi p pos (chOf p n m l f s b)), .int .i64 0]) ∧ Below w.heap.size w w' := by
  have f1 := fresh_alloc w (.cells #[.int .i64 p.temp, .int .i64 p.topk, .int .i64 p.topp, .int .i64 p.pen, .int .u64 (p.seed : Int)] 24)
  have HC : Hid (∀ w1, Below w.heap.size w w1 → Calls Tryd.prog 8 #[.agg #[.int .i64 p.temp, .int .i64 p.topk, .int .i64 p.topp, .int .i64 p.pen, .int .u64 (p.seed : Int)], .slice ao n ca, .slice so m cb, .slice bo l cl] w1 fun e w' => ∃ u c, e = .returned (.tuple #[.slice u (chOf p n m l f s b).length c, .int .i64 0]) ∧ PL w' w1.heap.size u c (chOf p n m l f s b) ∧ Below w1.heap.size w1 w') := fun w1 k => chances_ok p ok (h.fresh k)
  have hbd : ∀ x ∈ chOf p n m l f s b, 0 ≤ x.2 ∧ x.2 ≤ 65536 := chL_bd _ _ _ _
  have hlen : (chOf p n m l f s b).length ≤ 1048576 := by have := chL_len p (scF p.pen f (seenB s m)) n (mayB l b); have := h.hn; unfold chOf; omega
  have hsz : 0 < w.heap.size := by have := h.ta.lt; omega
  have c4 : (w.alloc (.cells #[.int .i64 p.temp, .int .i64 p.topk, .int .i64 p.topp, .int .i64 p.pen, .int .u64 (p.seed : Int)] 24)).cell? ⟨w.heap.size, 4, none⟩ = some (.int .u64 (p.seed : Int)) := by simp
  have hD1 := hidd (hD.fresh f1)
  clear h hD
  generalize chOf p n m l f s b = L at *
  have HP : Hid (∀ k, k < L.length → pre L (k + 1) = pre L k + (L.getD k (0, 0)).2) := fun k hk => pre_succ L k hk
  have HB : Hid (∀ k, k ≤ L.length → 0 ≤ pre L k ∧ pre L k ≤ 68719476736) := fun k hk => by
    have := pre_bd hbd (k := k) hk
    omega
  have HW : Hid (∀ k, k < L.length → 0 ≤ (L.getD k (0, 0)).2 ∧ (L.getD k (0, 0)).2 ≤ 65536) := fun k hk => hbd _ (getD_mem hk)
  have hP0 : pre L 0 = 0 := pre_zero _
  have HK : Hid (∀ k, k < L.length → ∀ u, pkL (L.drop k) u = if u < (L.getD k (0, 0)).2 then (L.getD k (0, 0)).1 else pkL (L.drop (k + 1)) (u - (L.getD k (0, 0)).2)) := fun k hk u => pkL_drop hk u
  obtain ⟨S, hS⟩ := Int.eq_ofNat_of_zero_le (HB.out L.length (Nat.le_refl _)).1
  have hSb := (HB.out L.length (Nat.le_refl _)).2
  have eC : choi p pos L = pkL L (drw p pos S : Nat) := by unfold choi; rw [hS]; rfl
  have hdl := drw_le p pos S
  have HS := hidd hS
  rw [hS] at hSb
  have HA : Hid (∀ w1, Dw.Holds w1 → Calls Tryd.prog 29 #[.int .u64 (p.seed : Int), .int .i64 pos, .int .i64 0] w1 fun e w' => e = .returned (.int .u64 ((Dw.atN p.seed (Dw.num pos) (Dw.num 0) : Nat) : Int)) ∧ Below w1.heap.size w1 w') := fun w1 hd => (Dw.at_any p.seed pos 0 w1 hd).mono fun e w' ⟨h1, h2⟩ => ⟨h1, h2.below⟩
  have HBL : Hid (∀ w1, Calls Tryd.prog 28 #[.int .u64 ((Dw.atN p.seed (Dw.num pos) (Dw.num 0) : Nat) : Int), .int .u64 (S : Int)] w1 fun e w' => e = .returned (.int .u64 ((drw p pos S : Nat) : Int)) ∧ Below w1.heap.size w1 w') := fun w1 => (Dw.below_any _ S w1 Dw.atN_lt (by omega)).mono fun e w' ⟨h1, h2⟩ => ⟨h1, h2.below⟩
  rw [eC]
  clear hbd hS eC
  generalize Dw.atN p.seed (Dw.num pos) (Dw.num 0) = at0 at *
  generalize drw p pos S = U at *
  go_enter Tryd.func9, Tryd.ntmps9
  go_wp2_with fail
  refine (HC.out _ f1).mono ?_
  rintro e w1 ⟨u, c, rfl, hpl, f2⟩
  have c4' := fresh_cell f2 c4
  have HF := hidd (fresh_trans f1 f2)
  have HD := hidd (hD1.out.fresh f2)
  have HL := hidd hpl
  have hls := Own.les hpl
  clear hpl f2 f1 c4 hD1 HC
  go_wp2
  go_loopw [14, 33] (fun v i wr => ∃ k : Nat, k ≤ L.length ∧ i = .int .i64 (k : Int) ∧ v = .int .i64 (pre L k) ∧ Below w1.heap.size w1 wr) (fun _ i _ => L.length - (intOf i).toNat)
  case atStart => exact ⟨0, Nat.zero_le _, by simp, by rw [hP0], Below.refl _ _⟩
  case round =>
    obtain ⟨k, hk, rfl, rfl, hw⟩ := hrel
    have hsw := hw.size
    by_cases hlt : k < L.length
    · obtain ⟨g, rfl, g1, g2, g3, g4⟩ := PL.cells (HL.out.kept hw) (by omega)
      obtain ⟨d0, d1⟩ := g3 k hlt
      have b1 := HW.out k hlt
      have b2 := HB.out k hk
      have hs := HP.out k hlt
      clear g3 g4
      generalize (L.getD k (0, 0)).1 = tk at *
      generalize (L.getD k (0, 0)).2 = wk at *
      have HQ := hidd hs
      clear hs
      have i0 : (0 : Int) ≤ (k : Int) := by omega
      have i1 : (k : Int) < (L.length : Int) := by omega
      go_wp2
      go_roundw
      case rel => exact ⟨k + 1, by omega, by go_num, by rw [HQ.out], hw.alloc hsw _⟩
      case measure => simp [intOf]; omega
    · obtain rfl : k = L.length := by omega
      rw [HS.out]
      have c5 := fresh_cell hw c4'
      have HDw := hidd (HD.out.fresh hw)
      go_wp2_with fail
      refine (HA.out _ HDw.out).mono ?_
      rintro e w2 ⟨rfl, f3⟩
      go_wp2_with fail
      refine (HBL.out _).mono ?_
      rintro e w3 ⟨rfl, f4⟩
      have F3 := hidd (fresh_trans (fresh_trans hw f3) f4)
      clear f3 f4 hw
      go_wp2
      go_loopw [17, 52] (fun v i wr => ∃ (k : Nat) (d : Int), k ≤ L.length ∧ i = .int .i64 (k : Int) ∧ v = .int .i64 d ∧ 0 ≤ d ∧ d ≤ 68719476736 ∧ Hid (pkL (L.drop k) d = pkL L (U : Int)) ∧ Below w1.heap.size w1 wr) (fun _ i _ => L.length - (intOf i).toNat)
      case atStart => exact ⟨0, (U : Int), Nat.zero_le _, by simp, by first | rfl | simp, by omega, by omega, by show pkL (L.drop 0) _ = _; rw [List.drop_zero], F3.out⟩
      case round =>
        obtain ⟨k, d, hk2, rfl, rfl, hd0, hd1, HJ, hw⟩ := hrel
        have hsw := hw.size
        by_cases hlt : k < L.length
        · obtain ⟨g, rfl, g1, g2, g3, g4⟩ := PL.cells (HL.out.kept hw) (by omega)
          obtain ⟨d0, d1⟩ := g3 k hlt
          have b1 := HW.out k hlt
          have hkk := HK.out k hlt d
          rw [HJ.out] at hkk
          clear g3 g4
          generalize (L.getD k (0, 0)).1 = tk at *
          generalize (L.getD k (0, 0)).2 = wk at *
          have i0 : (0 : Int) ≤ (k : Int) := by omega
          have i1 : (k : Int) < (L.length : Int) := by omega
          by_cases q : d < wk
          · rw [if_pos q] at hkk
            have HT := hidd hkk
            clear hkk HJ
            go_wp2
            go_ret2
            exact ⟨(by show Ending.returned (.tuple #[.int .i64 tk, .int .i64 0]) = _; rw [HT.out]), HF.out.trans ((hw.alloc hsw _).mono HF.out.size)⟩
          · rw [if_neg q] at hkk
            have HQ := hidd hkk.symm
            clear hkk HJ
            go_wp2
            go_roundw
            case rel => exact ⟨k + 1, d - wk, by omega, by go_num, by go_num, by omega, by omega, HQ.out, hw.alloc hsw _⟩
            case measure => simp [intOf]; omega
        · obtain rfl : k = L.length := by omega
          have e9 := HJ.out
          rw [List.drop_length] at e9
          have HT : Hid (pkL L (U : Int) = 0) := e9.symm
          clear e9 HJ
          go_wp2
          go_ret2
          exact ⟨(by show Ending.returned (.tuple #[.int .i64 0, .int .i64 0]) = _; rw [HT.out]), HF.out.trans (hw.mono HF.out.size)⟩
end Go.Proofs.YtjjfbpjejhjdiabDoor
