import Derived.Test.YtknfddakpfkcfaaJdN
import Derived.Test.YtknfddakpfkcfaaHeld
import Derived.Deep.RegionLaw
namespace Go.Proofs.Ytknfddakpfkcfaa
open Go.RowKit Go.Shelf Go.Sort
/-! The reference's Plan; eqMoves. -/
theorem nalk_of {Z : Nat → Int} {l : Nat} (h : ∀ i j, i < j → j < l → Z i ≠ Z j) : ¬ alk Z l := fun ⟨i, j, h1, h2, e⟩ => h i j h1 h2 e
set_option maxRecDepth 20000 in
set_option maxHeartbeats 4000000 in
theorem rplan_any {w : World} {ao bo co : Option Addr} {l ns lz ca cb cc : Nat} {W S Z : Nat → Int} (ha : RdA w ao 1 l ca (fun i => .int .i64 (W i))) (hb : RdA w bo 1 ns cb (fun i => .int .i64 (S i))) (hc : RdA w co 1 lz cc (fun i => .int .i64 (Z i))) (hl : l ≤ 8796093022208) :
    Calls Try.prog 12 #[.slice ao l ca, .slice bo ns cb, .slice co lz cc] w (PlP l W ns S lz Z w) := by
  have hn1 : ns ≤ 9223372036854775807 := by have := hb.le; have := hb.top; unfold maxLen at this; omega
  have hn2 : lz ≤ 9223372036854775807 := by have := hc.le; have := hc.top; unfold maxLen at this; omega
  rcases Nat.eq_zero_or_pos l with e0 | hl0
  · subst e0
    have HM : Hid (¬ mayP 0 W ns lz Z) := fun q => absurd q.1 (by omega)
    go_enter Try.func12, Try.ntmps12
    go_wp2
    go_ret2
    exact PlP.bad rfl (Below.refl _ _) HM.out
  have d0 : ((l : Int) == 0) = false := by simp; omega
  by_cases hlz : lz < l
  · have d1 : decide ((lz : Int) < (l : Int)) = true := decide_eq_true (by omega)
    have d1b : decide (lz < l) = true := decide_eq_true hlz
    have HM : Hid (¬ mayP l W ns lz Z) := fun q => absurd q.2.1 (by omega)
    go_enter Try.func12, Try.ntmps12
    go_wp2
    go_ret2
    exact PlP.bad rfl (Below.refl _ _) HM.out
  have d1 : decide ((lz : Int) < (l : Int)) = false := decide_eq_false (by omega)
  have d1b : decide (lz < l) = false := decide_eq_false hlz
  obtain ⟨b1, o1, rfl, h1⟩ := ha.one hl0
  obtain ⟨b3, o3, rfl, h3⟩ := hc.one (by omega)
  have HA := hidd h1
  have HZ := hidd h3
  have HB := hidd hb
  clear ha hb hc h1 h3
  go_enter Try.func12, Try.ntmps12
  go_wp2
  clear d0 d1 d1b
  go_loopw [8, 9] (fun v i wr => ∃ k : Nat, k ≤ l ∧ i = .int .i64 k ∧ Hid (∀ i, i < k → 0 ≤ W i ∧ W i < (ns : Int)) ∧ Hid (∀ i j, i < j → j < k → Z i ≠ Z j) ∧ Hid (Own wr w.heap.size 29 2 v (mvL S W Z k).length (rwF (mvL S W Z k))) ∧ Hid (Below w.heap.size w wr)) (fun _ i _ => l - (intOf i).toNat)
  case atStart => exact ⟨0, by omega, rfl, fun i hi => absurd hi (by omega), fun i j _ hj => absurd hj (by omega), own_nil _ _ _ _ _, Below.refl _ _⟩
  case round =>
    obtain ⟨k, hk, rfl, HN, HD, HO, HF⟩ := hrel
    by_cases hlt : k < l
    · have x1 := fresh_cell HF.out (HA.out k hlt)
      have k0 : (0 : Int) ≤ (k : Int) := by omega
      have k1 : (k : Int) < (l : Int) := by omega
      have k2 : (k : Int) < (lz : Int) := by omega
      obtain ⟨v, HV⟩ : ∃ y, Hid (y = W k) := ⟨_, rfl⟩
      rw [← HV.out] at x1
      by_cases e1 : v < 0
      · have d1 : decide (v < 0) = true := decide_eq_true e1
        have HM : Hid (¬ mayP l W ns lz Z) := fun q => by have := (q.2.2.1 k hlt).1; have := HV.out; omega
        go_wp2
        go_ret2
        exact PlP.bad rfl HF.out HM.out
      · have d1 : decide (v < 0) = false := decide_eq_false e1
        by_cases e2 : (ns : Int) ≤ v
        · have d2 : decide ((ns : Int) ≤ v) = true := decide_eq_true e2
          have HM : Hid (¬ mayP l W ns lz Z) := fun q => by have := (q.2.2.1 k hlt).2; have := HV.out; omega
          go_wp2
          go_ret2
          exact PlP.bad rfl HF.out HM.out
        · obtain ⟨x, rfl⟩ : ∃ x : Nat, v = (x : Int) := ⟨v.toNat, by omega⟩
          have d2 : decide ((ns : Int) ≤ (x : Int)) = false := decide_eq_false e2
          have d2b : decide (ns ≤ x) = false := decide_eq_false (by omega)
          have d1b : decide ((x : Int) < 0) = false := decide_eq_false e1
          have i0 : (0 : Int) ≤ (x : Int) := by omega
          have i1 : (x : Int) < (ns : Int) := by omega
          obtain ⟨b2, o2, hbo, h2⟩ := HB.out.one (by omega)
          have HS := hidd h2
          clear h2
          obtain ⟨u8, uc8, rfl, _⟩ := own_sl HO.out
          go_wp2
          clear d1 d2 d1b d2b x1
          go_loopw [10] (fun i wy => ∃ q : Nat, q ≤ k ∧ i = .int .i64 q ∧ Hid (∀ i, i < q → Z i ≠ Z k) ∧ Hid (Own wy w.heap.size 29 2 (.slice u8 (mvL S W Z k).length uc8) (mvL S W Z k).length (rwF (mvL S W Z k))) ∧ Hid (Below w.heap.size w wy)) (fun i _ => k - (intOf i).toNat)
          case atStart => exact ⟨0, by omega, rfl, fun i hi => absurd hi (by omega), HO, HF⟩
          case round =>
            clear HO HF
            obtain ⟨q, hq, rfl, HE, HO, HF⟩ := hrel
            have x3 := fresh_cell HF.out (HZ.out k (by omega))
            obtain ⟨z, HZ0⟩ : ∃ y, Hid (y = Z k) := ⟨_, rfl⟩
            rw [← HZ0.out] at x3
            by_cases hqk : q < k
            · have x4 := fresh_cell HF.out (HZ.out q (by omega))
              have q0 : (0 : Int) ≤ (q : Int) := by omega
              have q1 : (q : Int) < (k : Int) := by omega
              have q2 : (q : Int) < (lz : Int) := by omega
              obtain ⟨y, HY⟩ : ∃ y, Hid (y = Z q) := ⟨_, rfl⟩
              rw [← HY.out] at x4
              by_cases e : y = z
              · have d1 : (y == z) = true := by simp; exact e
                have HM : Hid (¬ mayP l W ns lz Z) := fun p => p.2.2.2 ⟨q, k, hqk, hlt, by rw [← HY.out, ← HZ0.out]; exact e⟩
                clear e
                go_wp2
                go_quiet (fail)
                go_wp2
                go_ret2
                exact PlP.bad rfl (below_drewN HF.out _) HM.out
              · have d1 : (y == z) = false := by simp; exact e
                have HE1 := hidd e
                clear e
                go_wp2
                go_quiet (fail)
                go_wp2
                go_roundw
                case rel => exact ⟨q + 1, by omega, by go_num, fun i hi => (by
                  by_cases p : i = q
                  · rw [p, ← HY.out, ← HZ0.out]; exact HE1.out
                  · exact HE.out i (by omega)), HO.out.kept (fresh_drewN _ _), below_drewN HF.out _⟩
                case measure => simp [intOf]; omega
            · obtain rfl : q = k := by omega
              subst hbo
              have x2 := fresh_cell HF.out (HS.out x (by omega))
              have x1 := fresh_cell HF.out (HA.out q hlt)
              rw [← HV.out] at x1
              obtain ⟨y, HY⟩ : ∃ y, Hid (y = S x) := ⟨_, rfl⟩
              rw [← HY.out] at x2
              have HSW : Hid (S (W q).toNat = y) := by show _ = _; rw [← HV.out, Int.toNat_natCast, HY.out]
              have HN2 : Hid (∀ i, i < q + 1 → 0 ≤ W i ∧ W i < (ns : Int)) := fun i hi => (by
                by_cases p : i = q
                · rw [p, ← HV.out]; exact ⟨i0, i1⟩
                · exact HN.out i (by omega))
              have HD2 : Hid (∀ i j, i < j → j < q + 1 → Z i ≠ Z j) := fun i j hij hj => (by
                by_cases p : j = q
                · rw [p]; exact HE.out i (by omega)
                · exact HD.out i j hij (by omega))
              by_cases e : y = z
              · have d1 : (y != z) = false := by simp; exact e
                have HME : Hid (mvL S W Z (q + 1) = mvL S W Z q) := mvL_same (by rw [HSW.out, e, HZ0.out])
                clear e
                go_wp2
                go_quiet (fail)
                go_wp2
                go_roundw
                case rel => exact ⟨q + 1, by omega, by go_num, HN2, HD2, by rw [HME.out]; exact HO.out.kept (fresh_drewN _ _), below_drewN HF.out _⟩
                case measure => simp [intOf]; omega
              · have d1 : (y != z) = true := by simp; exact e
                have HME : Hid (mvL S W Z (q + 1) = mvL S W Z q ++ [(y, z)]) := by
                  show _ = _
                  rw [mvL_next (by rw [HSW.out, ← HZ0.out]; exact e), HSW.out, ← HZ0.out]
                have hle := mvL_le S W Z q
                obtain ⟨R, HR⟩ : ∃ R, Hid (R = mvL S W Z q) := ⟨_, rfl⟩
                rw [← HR.out] at HME HO hle ⊢
                have HO1 := hidd (HO.out.congr (cs' := rwF (R ++ [(y, z)])) (fun j hj => (rwF_app R [(y, z)] hj).symm))
                clear e HO
                go_wp2
                go_quiet (fail)
                go_upto_region 15 with fail
                obtain ⟨w5, HW5⟩ : ∃ x, Hid (x = wr.drewN nq) := ⟨_, rfl⟩
                rw [← HW5.out]
                have HB5 : Hid (Below w.heap.size w w5) := by rw [HW5.out]; exact below_drewN HF.out _
                have HO5 : Hid (Own w5 w.heap.size 29 2 (.slice u8 R.length uc8) R.length (rwF (R ++ [(y, z)]))) := by rw [HW5.out]; exact HO1.out.kept (fresh_drewN _ _)
                have t1 : w5.cell? ⟨b1, o1 + q, none⟩ = some (.int .i64 (x : Int)) := by rw [HW5.out]; exact x1
                have t2 : w5.cell? ⟨b2, o2 + x, none⟩ = some (.int .i64 y) := by rw [HW5.out]; exact x2
                have t3 : w5.cell? ⟨b3, o3 + q, none⟩ = some (.int .i64 z) := by rw [HW5.out]; exact x3
                clear x1 x2 x3 HO1 HF
                have HOa : Hid (Own (w5.alloc (.cells #[.int .i64 y, .int .i64 z] 29)).drew w.heap.size 29 2 (.slice u8 R.length uc8) R.length (rwF (R ++ [(y, z)]))) := (HO5.out.kept (fresh_alloc _ _)).kept (Below.refl _ _).drew
                have HX : Hid ((w5.alloc (.cells #[.int .i64 y, .int .i64 z] 29)).cell? ⟨w5.heap.size, 0, none⟩ = some (rwF (R ++ [(y, z)]) (R.length * 2)) ∧ (w5.alloc (.cells #[.int .i64 y, .int .i64 z] 29)).cell? ⟨w5.heap.size, 1, none⟩ = some (rwF (R ++ [(y, z)]) (R.length * 2 + 1))) := by
                  rw [rwF_0, rwF_1, rwF_new]
                  exact ⟨by simp, by simp⟩
                have HON : Hid ((rwF (R ++ [(y, z)]) (R.length * 2)).oneCell' = true ∧ (rwF (R ++ [(y, z)]) (R.length * 2 + 1)).oneCell' = true) := ⟨rwF_one _ _, rwF_one _ _⟩
                have HFN : Hid (∀ (w9 : World) (g' cap' : Nat), App (w5.alloc (.cells #[.int .i64 y, .int .i64 z] 29)).drew w9 (.slice u8 R.length uc8) (.slice (some ⟨g', 0, none⟩) (R.length + 1) cap') → Below w.heap.size w w9) := fun w9 g' cap' ha9 => ha9.below ((HB5.out.alloc HB5.out.size _).drew) HOa.out (Nat.le_refl _) (by have := HB5.out.size; simp; omega)
                have hsz := HB5.out.size
                have HLE : Hid ((mvL S W Z (q + 1)).length = R.length + 1) := by show _ = _; rw [HME.out]; simp
                go_region_law ((refine step_app2 _ (by rfl) _ _ _ (by rfl) w.heap.size 29 (.agg #[.int .i64 0, .int .i64 0]) 16 Try.underlying24 infoM rfl _ R.length (rwF (R ++ [(y, z)])) (by rfl) HOa.out w5.heap.size 1 (by rfl) HX.out.1 HX.out.2 HON.out.1 HON.out.2 (by omega) (by omega) (by simp; omega) ?_; intro g' cap' w9 ho9 ha9; have HO9 := hidd ho9; have HA9 := hidd ha9; clear ho9 ha9))
                all_goals (
                  go_wp2
                  go_roundw
                  case rel => exact ⟨q + 1, by omega, by go_num, HN2, HD2, by rw [HLE.out, HME.out]; exact HO9, HFN.out _ _ _ HA9.out⟩
                  case measure => simp [intOf]; omega)
    · obtain rfl : k = l := by omega
      obtain ⟨u4, uc4, rfl, _⟩ := own_sl HO.out
      have HM : Hid (mayP k W ns lz Z) := ⟨hl0, by omega, HN.out, nalk_of HD.out⟩
      go_wp2
      go_ret2
      exact PlP.ok rfl HF.out HM.out HO.out
end Go.Proofs.Ytknfddakpfkcfaa
