import Derived.Test.YtakekdbclmgeoaaTrC
namespace Go.Proofs.Ytakekdbclmgeoaa
open Go.RowKit
/-! The reference's Check. -/
set_option maxRecDepth 20000 in
set_option maxHeartbeats 3200000 in
theorem rcheck_any {w : World} {ao : Option Addr} {n cap : Nat} {P T D : Nat → Int} (h : RdA w ao 3 n cap (nds P T D)) :
    Calls Try.prog 16 #[.slice ao n cap] w fun e w' => e = .returned (.int .i64 (erT n P T D)) ∧ Below w.heap.size w w' := by
  have hn : n ≤ 9223372036854775807 := by have := h.le; have := h.top; unfold maxLen at this; omega
  have HH := hidd h
  have HBAD : Hid (¬ okT n P T D → erT n P T D = 140) := erT_bad
  have HOK : Hid (okT n P T D → erT n P T D = 0) := erT_ok
  clear h
  by_cases a1 : n < 1
  · have d1 : decide ((n : Int) < 1) = true := decide_eq_true (by omega)
    have d1' : decide (n < 1) = true := decide_eq_true a1
    obtain ⟨er, HER⟩ : ∃ er, Hid (er = erT n P T D) := ⟨_, rfl⟩
    rw [← HER.out] at HBAD HOK ⊢
    obtain rfl := HBAD.out (fun h => by have := h.1; omega)
    go_enter Try.func16, Try.ntmps16
    go_wp2
    go_ret
    exact ⟨rfl, Below.refl _ _⟩
  · have d1 : decide ((n : Int) < 1) = false := decide_eq_false (by omega)
    obtain ⟨b1, o1, hu, h1⟩ := HH.out.node (by omega)
    subst hu
    obtain ⟨c1, _, c3⟩ := h1 0 (by omega)
    rw [show o1 + 0 * 3 = o1 by omega] at c1 c3
    have g0 : (0 : Int) < (n : Int) := by omega
    have g0' : 0 < n := by omega
    have HCL : Hid (∀ wr, Below w.heap.size w wr → ∀ i, i < n → wr.cell? ⟨b1, o1 + i * 3, none⟩ = some (.int .i64 (P i)) ∧ wr.cell? ⟨b1, o1 + i * 3 + 1, none⟩ = some (.int .i64 (T i)) ∧ wr.cell? ⟨b1, o1 + i * 3 + 2, none⟩ = some (.int .i64 (D i))) := fun wr hf i hi => by
      obtain ⟨k1, k2, k3⟩ := h1 i hi
      exact ⟨fresh_cell hf k1, fresh_cell hf k2, fresh_cell hf k3⟩
    clear h1
    obtain ⟨er, HER⟩ : ∃ er, Hid (er = erT n P T D) := ⟨_, rfl⟩
    rw [← HER.out] at HBAD HOK ⊢
    by_cases a2 : 32 < n
    · have d2 : decide ((32 : Int) < (n : Int)) = true := decide_eq_true (by omega)
      obtain rfl := HBAD.out (fun h => by have := h.2.1; omega)
      go_enter Try.func16, Try.ntmps16
      go_wp2
      go_ret
      exact ⟨rfl, Below.refl _ _⟩
    · have d2 : decide ((32 : Int) < (n : Int)) = false := decide_eq_false (by omega)
      obtain ⟨p0, HP0⟩ : ∃ p0, Hid (p0 = P 0) := ⟨_, rfl⟩
      obtain ⟨d0, HD0⟩ : ∃ d0, Hid (d0 = D 0) := ⟨_, rfl⟩
      rw [← HP0.out] at c1
      rw [← HD0.out] at c3
      by_cases a3 : p0 = -1
      · subst a3
        by_cases a4 : d0 = 0
        · subst a4
          go_enter Try.func16, Try.ntmps16
          go_wp2
          go_loopw [3] (fun vi wr => ∃ i : Nat, 1 ≤ i ∧ i ≤ n ∧ vi = .int .i64 i ∧ Hid (∀ k, 1 ≤ k → k < i → okN P T D k) ∧ Hid (Below w.heap.size w wr)) (fun vi _ => n - (intOf vi).toNat)
          case atStart => exact ⟨1, by omega, by omega, rfl, fun k h1 h2 => absurd h1 (by omega), Below.refl _ _⟩
          case round =>
            obtain ⟨i, hi1, hi2, rfl, HK, HF⟩ := hrel
            by_cases hlt : i < n
            · have e1 : decide ((i : Int) < (n : Int)) = true := decide_eq_true (by omega)
              obtain ⟨k1, k2, k3⟩ := HCL.out wr HF.out i hlt
              have g1 : (i : Int) < (n : Int) := by omega
              obtain ⟨p, HPi⟩ : ∃ p, Hid (p = P i) := ⟨_, rfl⟩
              obtain ⟨t, HTi⟩ : ∃ t, Hid (t = T i) := ⟨_, rfl⟩
              obtain ⟨d, HDi⟩ : ∃ d, Hid (d = D i) := ⟨_, rfl⟩
              rw [← HPi.out] at k1
              rw [← HTi.out] at k2
              rw [← HDi.out] at k3
              go_wp2
              obtain ⟨x1, x2, x3⟩ := box3 wr p t d 54
              obtain ⟨w6, HW6⟩ : ∃ w6, Hid (w6 = wr.alloc (.cells #[.int .i64 p, .int .i64 t, .int .i64 d] 54)) := ⟨_, rfl⟩
              have HF6 : Hid (Below w.heap.size w w6) := by rw [HW6.out]; exact HF.out.trans ((fresh_alloc _ _).mono HF.out.size)
              rw [← HW6.out] at x1 x2 x3 ⊢
              obtain ⟨bn, HBN⟩ : ∃ bn, Hid (bn = wr.heap.size) := ⟨_, rfl⟩
              rw [← HBN.out] at x1 x2 x3 ⊢
              clear k1 k2 k3 HW6
              by_cases b1' : p < 0
              · have f1 : decide (p < 0) = true := decide_eq_true b1'
                have HNO : Hid (¬ okN P T D i) := fun h => by
                  have hh : okAt i P T D p t d := by rw [HPi.out, HTi.out, HDi.out]; exact h
                  have := hh.1; omega
                obtain rfl := HBAD.out (fun h => HNO.out (h.2.2.2.2 i hi1 hlt))
                go_quiet (fail)
                go_wp2
                go_ret
                exact ⟨rfl, below_drewN HF6.out _⟩
              · have f1 : decide (p < 0) = false := decide_eq_false b1'
                by_cases b2 : (i : Int) ≤ p
                · have f2 : decide ((i : Int) ≤ p) = true := decide_eq_true b2
                  have HNO : Hid (¬ okN P T D i) := fun h => by
                    have hh : okAt i P T D p t d := by rw [HPi.out, HTi.out, HDi.out]; exact h
                    have := hh.2.1; omega
                  obtain rfl := HBAD.out (fun h => HNO.out (h.2.2.2.2 i hi1 hlt))
                  go_quiet (fail)
                  go_wp2
                  go_ret
                  exact ⟨rfl, below_drewN HF6.out _⟩
                · have f2 : decide ((i : Int) ≤ p) = false := decide_eq_false b2
                  by_cases b3 : t < 1
                  · have f3 : decide (t < 1) = true := decide_eq_true b3
                    have HNO : Hid (¬ okN P T D i) := fun h => by
                      have hh : okAt i P T D p t d := by rw [HPi.out, HTi.out, HDi.out]; exact h
                      have := hh.2.2.1; omega
                    obtain rfl := HBAD.out (fun h => HNO.out (h.2.2.2.2 i hi1 hlt))
                    go_quiet (fail)
                    go_wp2
                    go_ret
                    exact ⟨rfl, below_drewN HF6.out _⟩
                  · have f3 : decide (t < 1) = false := decide_eq_false b3
                    obtain ⟨q, hq⟩ : ∃ q : Nat, p = (q : Int) := ⟨p.toNat, by omega⟩
                    subst hq
                    have hqi : q < i := by omega
                    obtain ⟨_, _, cq⟩ := HCL.out w6 HF6.out q (by omega)
                    obtain ⟨_, _, cl⟩ := HCL.out w6 HF6.out (i - 1) (by omega)
                    have m1 : (q : Int) < (n : Int) := by omega
                    have m2 : IntKind.i64.wrap ((i : Int) - 1) = (i : Int) - 1 := wrap_small _ (by omega) (by omega)
                    have m3 : ((i : Int) - 1).toNat = i - 1 := by omega
                    have m4 : (0 : Int) ≤ (i : Int) - 1 := by omega
                    have m5 : (i : Int) - 1 < (n : Int) := by omega
                    obtain ⟨y, HY⟩ : ∃ y, Hid (y = IntKind.i64.wrap (D q + 1)) := ⟨_, rfl⟩
                    have m6 : IntKind.i64.wrap (D q + 1) = y := HY.out.symm
                    obtain ⟨z, HZ⟩ : ∃ z, Hid (z = D (i - 1)) := ⟨_, rfl⟩
                    rw [← HZ.out] at cl
                    by_cases b4 : d = y
                    · subst b4
                      by_cases b5 : d < z
                      · have f5 : decide (d < z) = true := decide_eq_true b5
                        have HNO : Hid (¬ okN P T D i) := fun h => by
                          have hh : okAt i P T D (q : Int) t d := by rw [HPi.out, HTi.out, HDi.out]; exact h
                          have := hh.2.2.2.2.1; have := HZ.out; omega
                        obtain rfl := HBAD.out (fun h => HNO.out (h.2.2.2.2 i hi1 hlt))
                        go_quiet (fail)
                        go_wp2
                        go_ret
                        exact ⟨rfl, below_drewN HF6.out _⟩
                      · have f5 : decide (d < z) = false := decide_eq_false b5
                        go_quiet (fail)
                        have HW7 := hidd (fresh_drewN w6 nq)
                        go_wp2
                        go_loopw [5] (fun vk wq => ∃ k : Nat, 1 ≤ k ∧ k ≤ i ∧ vk = .int .i64 k ∧ Hid (∀ j, 1 ≤ j → j < k → ¬ (P j = (q : Int) ∧ T j = t)) ∧ Hid (Below w6.heap.size w6 wq)) (fun vk _ => i - (intOf vk).toNat)
                        case atStart => exact ⟨1, by omega, by omega, rfl, fun j h1 h2 => absurd h1 (by omega), HW7⟩
                        case round =>
                          obtain ⟨k, hk1, hk2, rfl, HNK, HFq⟩ := hrel
                          have HFW := hidd (HF6.out.trans (HFq.out.mono HF6.out.size))
                          by_cases hki : k < i
                          · have r1 : decide ((k : Int) < (i : Int)) = true := decide_eq_true (by omega)
                            have r2 : (k : Int) < (n : Int) := by omega
                            obtain ⟨s1, s2, _⟩ := HCL.out wr HFW.out k (by omega)
                            have z1 := fresh_cell HFq.out x1
                            have z2 := fresh_cell HFq.out x2
                            obtain ⟨pk, HPK⟩ : ∃ pk, Hid (pk = P k) := ⟨_, rfl⟩
                            obtain ⟨tk, HTK⟩ : ∃ tk, Hid (tk = T k) := ⟨_, rfl⟩
                            rw [← HPK.out] at s1
                            rw [← HTK.out] at s2
                            have HNX : Hid (¬ (pk = (q : Int) ∧ tk = t) → ∀ j, 1 ≤ j → j < k + 1 → ¬ (P j = (q : Int) ∧ T j = t)) := fun hne j h1 h2 => by
                              by_cases e : j = k
                              · rw [e, ← HPK.out, ← HTK.out]; exact hne
                              · exact HNK.out j h1 (by omega)
                            by_cases e1 : pk = (q : Int)
                            · have HE1 := hidd e1
                              rw [e1] at s1
                              clear e1
                              by_cases e2 : tk = t
                              · have HNO : Hid (¬ okN P T D i) := fun h => by
                                  have hh : okAt i P T D (q : Int) t d := by rw [HPi.out, HTi.out, HDi.out]; exact h
                                  exact hh.2.2.2.2.2 k hk1 hki ⟨by rw [← HPK.out]; exact HE1.out, by rw [← HTK.out]; exact e2⟩
                                obtain rfl := HBAD.out (fun h => HNO.out (h.2.2.2.2 i hi1 hlt))
                                rw [e2] at s2
                                clear e2
                                go_wp2
                                go_quiet (fail)
                                go_wp2
                                go_ret
                                exact ⟨rfl, below_drewN HFW.out _⟩
                              · have HN2 := hidd (HNX.out (fun h => e2 h.2))
                                go_wp2
                                go_quiet (fail)
                                go_wp2
                                go_roundw
                                case rel => exact ⟨k + 1, by omega, by omega, by go_num, HN2, below_drewN HFq.out _⟩
                                case measure => simp [intOf]; omega
                            · have HN2 := hidd (HNX.out (fun h => e1 h.1))
                              go_wp2
                              go_quiet (fail)
                              go_wp2
                              go_roundw
                              case rel => exact ⟨k + 1, by omega, by omega, by go_num, HN2, below_drewN HFq.out _⟩
                              case measure => simp [intOf]; omega
                          · obtain rfl : k = i := by omega
                            have HOI : Hid (okN P T D k) := by
                              show okAt k P T D (P k) (T k) (D k)
                              rw [← HPi.out, ← HTi.out, ← HDi.out]
                              exact ⟨by omega, by omega, by omega, HY.out, by have := HZ.out; omega, HNK.out⟩
                            have HKN := hidd (okT_step HK.out HOI.out)
                            go_wp2
                            go_roundw
                            case rel => exact ⟨k + 1, by omega, by omega, by go_num, HKN, HFW⟩
                            case measure => simp [intOf]; omega
                    · have f4 : decide (d = y) = false := decide_eq_false b4
                      have HNO : Hid (¬ okN P T D i) := fun h => by
                        have hh : okAt i P T D (q : Int) t d := by rw [HPi.out, HTi.out, HDi.out]; exact h
                        exact b4 (by rw [HY.out]; exact hh.2.2.2.1)
                      obtain rfl := HBAD.out (fun h => HNO.out (h.2.2.2.2 i hi1 hlt))
                      go_quiet (fail)
                      go_wp2
                      go_ret
                      exact ⟨rfl, below_drewN HF6.out _⟩
            · obtain rfl : i = n := by omega
              obtain rfl := HOK.out ⟨by omega, by omega, HP0.out.symm, HD0.out.symm, HK.out⟩
              go_wp2
              go_ret
              exact ⟨rfl, HF.out⟩
        · obtain rfl := HBAD.out (fun h => a4 (HD0.out.trans h.2.2.2.1))
          go_enter Try.func16, Try.ntmps16
          go_wp2
          go_ret
          exact ⟨rfl, Below.refl _ _⟩
      · obtain rfl := HBAD.out (fun h => a3 (HP0.out.trans h.2.2.1))
        go_enter Try.func16, Try.ntmps16
        go_wp2
        go_ret
        exact ⟨rfl, Below.refl _ _⟩
end Go.Proofs.Ytakekdbclmgeoaa
