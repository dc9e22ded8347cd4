import Derived.Test.YtknfddakpfkcfaaJdS
namespace Go.Proofs.Ytknfddakpfkcfaa
open Go.RowKit Go.Shelf Go.Sort
/-! JudgeMoves. -/
set_option maxRecDepth 20000 in
set_option maxHeartbeats 4000000 in
theorem moves_law {w : World} {ao : Option Addr} {lw ca : Nat} {V : Nat → Int} (h : RdA w ao 1 lw ca (fun i => .int .i64 (V i))) (slots first goal : Int) :
    Calls Try.prog 3 #[.slice ao lw ca, .int .i64 slots, .int .i64 first, .int .i64 goal] w fun e w' => e = .returned (.bool true) ∧ Below w.heap.size w w' := by
  have hlw : lw ≤ 9223372036854775807 := by have := h.le; have := h.top; unfold maxLen at this; omega
  have HH := hidd h
  have HWO := hidd (works_any w)
  obtain ⟨n0, hn0⟩ : ∃ x, slots.tmod 40 = x := ⟨_, rfl⟩
  obtain ⟨a0, ha0⟩ : ∃ x, first.tmod 100 = x := ⟨_, rfl⟩
  obtain ⟨b0, hb0⟩ : ∃ x, goal.tmod 100 = x := ⟨_, rfl⟩
  have nb : -40 < n0 ∧ n0 < 40 := by rw [← hn0]; exact tmod_bd slots (n := 40) (by omega)
  have ab : -100 < a0 ∧ a0 < 100 := by rw [← ha0]; exact tmod_bd first (n := 100) (by omega)
  have bb : -100 < b0 ∧ b0 < 100 := by rw [← hb0]; exact tmod_bd goal (n := 100) (by omega)
  obtain ⟨nn, HNN⟩ : ∃ n : Nat, Hid ((n : Int) = if n0 < 0 then n0 + 40 else n0) := ⟨(if n0 < 0 then n0 + 40 else n0).toNat, by show _ = _; split <;> omega⟩
  obtain ⟨a, HAA⟩ : ∃ n : Nat, Hid ((n : Int) = if a0 < 0 then -a0 else a0) := ⟨(if a0 < 0 then -a0 else a0).toNat, by show _ = _; split <;> omega⟩
  obtain ⟨b, HBB⟩ : ∃ n : Nat, Hid ((n : Int) = if b0 < 0 then -b0 else b0) := ⟨(if b0 < 0 then -b0 else b0).toNat, by show _ = _; split <;> omega⟩
  have hnn : nn < 40 := by have := HNN.out; split at this <;> omega
  have haa : a < 100 := by have := HAA.out; split at this <;> omega
  have hbb : b < 100 := by have := HBB.out; split at this <;> omega
  obtain ⟨N, hN⟩ : ∃ N, N = nn + 1 := ⟨_, rfl⟩
  have eN : (nn : Int) + 1 = (N : Int) := by omega
  have N0 : 0 < N := by omega
  have N1 : N ≤ 40 := by omega
  clear hN h
  obtain ⟨n00, n01⟩ := nb
  obtain ⟨a00, a01⟩ := ab
  obtain ⟨b00, b01⟩ := bb
  go_enter Try.func3, Try.ntmps3
  go_upto_if 32 with (go_at_call 9; with_reducible refine HWO.out.mono ?_; rintro e w1 ⟨rfl, hb1⟩; have HB1 := hidd hb1; clear HWO hb1)
  go_cut [10] (fun v wx => wx = w1 ∧ v = .int .i64 (nn : Int))
  case first =>
    as_aux_lemma =>
      by_cases c : n0 < 0
      · have HE : Hid ((nn : Int) = n0 + 40) := by show _ = _; rw [HNN.out, if_pos c]
        go_wp2_with fail
        go_meet
        case rel => exact ⟨rfl, by rw [HE.out]⟩
      · have HE : Hid ((nn : Int) = n0) := by show _ = _; rw [HNN.out, if_neg c]
        go_wp2_with fail
        go_meet
        case rel => exact ⟨rfl, by rw [HE.out]⟩
  case rest =>
    as_aux_lemma =>
      obtain ⟨hw, hs⟩ := hcut
      subst hs
      rw [hw]
      clear hw wc
      go_upto_if 42 with fail
      go_cut [11] (fun v wx => wx = w1 ∧ v = .int .i64 (a : Int))
      case first =>
        as_aux_lemma =>
          by_cases c : a0 < 0
          · have HE : Hid ((a : Int) = -a0) := by show _ = _; rw [HAA.out, if_pos c]
            go_wp2_with fail
            go_meet
            case rel => exact ⟨rfl, by rw [HE.out]⟩
          · have HE : Hid ((a : Int) = a0) := by show _ = _; rw [HAA.out, if_neg c]
            go_wp2_with fail
            go_meet
            case rel => exact ⟨rfl, by rw [HE.out]⟩
      case rest =>
        as_aux_lemma =>
          obtain ⟨hw, hs⟩ := hcut
          subst hs
          rw [hw]
          clear hw wc
          go_upto_if 46 with fail
          go_cut [12] (fun v wx => wx = w1 ∧ v = .int .i64 (b : Int))
          case first =>
            as_aux_lemma =>
              by_cases c : b0 < 0
              · have HE : Hid ((b : Int) = -b0) := by show _ = _; rw [HBB.out, if_pos c]
                go_wp2_with fail
                go_meet
                case rel => exact ⟨rfl, by rw [HE.out]⟩
              · have HE : Hid ((b : Int) = b0) := by show _ = _; rw [HBB.out, if_neg c]
                go_wp2_with fail
                go_meet
                case rel => exact ⟨rfl, by rw [HE.out]⟩
          case rest =>
            as_aux_lemma =>
              obtain ⟨hw, hs⟩ := hcut
              subst hs
              rw [hw]
              clear hw wc hn0 ha0 hb0 n00 n01 a00 a01 b00 b01 HNN HAA HBB
              go_wp2
              clear eN
              go_loopw [13, 16] (fun v i wr => ∃ k : Nat, k ≤ N ∧ i = .int .i64 (k : Int) ∧ Hid (Own wr w.heap.size 3 1 v k (fun j => .int .i64 ((a + j : Nat) : Int))) ∧ Hid (Below w.heap.size w wr)) (fun _ i _ => N - (intOf i).toNat)
              case atStart => exact ⟨0, by omega, rfl, own_nil _ _ _ _ _, HB1⟩
              case round =>
                as_aux_lemma =>
                  obtain ⟨k, hk, rfl, HO, HF⟩ := hrel
                  have hsz := HF.out.size
                  by_cases hlt : k < N
                  · have k1 : (k : Int) < (N : Int) := by omega
                    have HX : Hid (∀ (w0 : World) (t : TypeId), (w0.alloc (.cells #[.int .i64 ((a : Int) + (k : Int))] t)).cell? ⟨w0.heap.size, 0, none⟩ = some ((fun j => Value.int .i64 ((a + j : Nat) : Int)) k)) := fun w0 t => new_cell _ _ _
                    go_wp2_with (at_builtin; refine wpList_app1 _ rfl _ _ 22 rfl w.heap.size 3 (.int .i64 0) 8 Try.underlying22 infoI rfl _ k (fun j => .int .i64 ((a + j : Nat) : Int)) rfl (HO.out.kept (fresh_alloc _ _)) _ 1 rfl (HX.out _ _) rfl (by omega) (by omega) (by simp; omega) ?_)
                    intro v' w4 hown' happ
                    have HF4 := hidd (happ.below (HF.out.alloc hsz _) (HO.out.kept (fresh_alloc _ _)) (Nat.le_refl _) (by simp; omega))
                    clear happ
                    go_wp2
                    go_roundw
                    case rel => exact ⟨k + 1, by omega, by go_num, hown', HF4⟩
                    case measure => simp [intOf]; omega
                  · obtain rfl : k = N := by omega
                    obtain ⟨uF, cF, rfl, hrF⟩ := own_sl HO.out
                    have HRF := hidd hrF
                    clear hrF HO
                    rename World => wA
                    go_wp2
                    obtain ⟨m, HMM⟩ : ∃ m, Hid (m = min lw k) := ⟨_, rfl⟩
                    have hm1 : m ≤ lw := by have := HMM.out; omega
                    have hm2 : m ≤ k := by have := HMM.out; omega
                    have HFA := HF
                    clear HF hk hlt
                    go_loopw [14, 15, 17] (fun v u i wr => ∃ j : Nat, j ≤ m ∧ i = .int .i64 (j : Int) ∧ Hid (Own wr wA.heap.size 3 1 v j (fun x => .int .i64 ((b + x : Nat) : Int))) ∧ Hid (Own wr wA.heap.size 3 1 u j (fun x => .int .i64 ((md (V x) k : Nat) : Int))) ∧ Hid (Off u v) ∧ Hid (Below wA.heap.size wA wr)) (fun _ _ i _ => m - (intOf i).toNat)
                    case atStart => exact ⟨0, by omega, rfl, own_nil _ _ _ _ _, own_nil _ _ _ _ _, off_nil _, Below.refl _ _⟩
                    case round =>
                      as_aux_lemma =>
                        obtain ⟨j, hj, rfl, HG, HU, HOF, HF⟩ := hrel
                        have hsz := HF.out.size
                        obtain ⟨tb, HTB⟩ : ∃ b, Hid (b = decide (j < m)) := ⟨_, rfl⟩
                        go_upto_region 18 with fail
                        go_cut [60, 61, 62, 63, 64, 65, 66, 67, 68] (fun _ _ _ _ _ _ _ _ vt wx => wx = wr ∧ vt = .bool tb)
                        case first =>
                          as_aux_lemma =>
                            by_cases c1 : j < lw
                            · have dc1 : decide ((j : Int) < (lw : Int)) = true := decide_eq_true (by omega)
                              have dc1b : decide (j < lw) = true := decide_eq_true c1
                              by_cases c2 : j < k
                              · have dc2 : decide ((j : Int) < (k : Int)) = true := decide_eq_true (by omega)
                                have dc2b : decide (j < k) = true := decide_eq_true c2
                                have ht : tb = true := by rw [HTB.out]; exact decide_eq_true (by have := HMM.out; omega)
                                clear HTB; subst ht
                                go_wp2_with fail
                                go_meet
                                case rel => exact ⟨rfl, rfl⟩
                              · have dc2 : decide ((j : Int) < (k : Int)) = false := decide_eq_false (by omega)
                                have dc2b : decide (j < k) = false := decide_eq_false c2
                                have ht : tb = false := by rw [HTB.out]; exact decide_eq_false (by omega)
                                clear HTB; subst ht
                                go_wp2_with fail
                                go_meet
                                case rel => exact ⟨rfl, rfl⟩
                            · have dc1 : decide ((j : Int) < (lw : Int)) = false := decide_eq_false (by omega)
                              have dc1b : decide (j < lw) = false := decide_eq_false c1
                              have ht : tb = false := by rw [HTB.out]; exact decide_eq_false (by omega)
                              clear HTB; subst ht
                              go_wp2_with fail
                              go_meet
                              case rel => exact ⟨rfl, rfl⟩
                        case rest =>
                          as_aux_lemma =>
                            obtain ⟨hw, hs⟩ := hcut
                            subst hs
                            rw [hw]
                            clear hw wc
                            by_cases hlt : j < m
                            · have ht : tb = true := by rw [HTB.out]; exact decide_eq_true hlt
                              clear HTB; subst ht
                              have HFH := hidd (HFA.out.trans (HF.out.mono HFA.out.size))
                              obtain ⟨b1, o1, rfl, h1⟩ := (HH.out.fresh HFH.out).one (by omega)
                              have x1 := h1 j (by omega)
                              clear h1
                              have j0 : (0 : Int) ≤ (j : Int) := by omega
                              have j1 : (j : Int) < (lw : Int) := by omega
                              obtain ⟨y, HY⟩ : ∃ y, Hid (y = V j) := ⟨_, rfl⟩
                              rw [← HY.out] at x1
                              obtain ⟨r, hr⟩ : ∃ r, y.tmod (k : Int) = r := ⟨_, rfl⟩
                              have rb : -(k : Int) < r ∧ r < (k : Int) := by rw [← hr]; exact tmod_bd y N0
                              obtain ⟨r1, r2⟩ := rb
                              have kz : ¬ (k : Int) = 0 := by omega
                              obtain ⟨d, HD⟩ : ∃ d, Hid (d = md y k) := ⟨_, rfl⟩
                              have hdk : d < k := by rw [HD.out]; exact md_lt y N0
                              go_upto_if 78 with fail
                              go_cut [18] (fun v wx => wx = wr ∧ v = .int .i64 (d : Int))
                              case first =>
                                as_aux_lemma =>
                                  by_cases c : r < 0
                                  · have HE : Hid ((d : Int) = r + (k : Int)) := by show _ = _; rw [HD.out, ← hr]; exact (md_neg N0 (by rw [hr]; exact c)).symm
                                    go_wp2_with fail
                                    go_meet
                                    case rel => exact ⟨rfl, by rw [HE.out]⟩
                                  · have HE : Hid ((d : Int) = r) := by show _ = _; rw [HD.out, ← hr]; exact (md_pos N0 (by rw [hr]; exact c)).symm
                                    go_wp2_with fail
                                    go_meet
                                    case rel => exact ⟨rfl, by rw [HE.out]⟩
                              case rest =>
                                as_aux_lemma =>
                                  obtain ⟨hw, hs⟩ := hcut
                                  subst hs
                                  rw [hw]
                                  clear hw wc hr r1 r2 kz x1
                                  have HX1 : Hid (∀ (w0 : World) (t : TypeId), (w0.alloc (.cells #[.int .i64 (d : Int)] t)).cell? ⟨w0.heap.size, 0, none⟩ = some ((fun x => Value.int .i64 ((md (V x) k : Nat) : Int)) j)) := fun w0 t => by rw [HD.out, HY.out]; exact new_cell _ _ _
                                  have HX2 : Hid (∀ (w0 : World) (t : TypeId), (w0.alloc (.cells #[.int .i64 ((b : Int) + (j : Int))] t)).cell? ⟨w0.heap.size, 0, none⟩ = some ((fun x => Value.int .i64 ((b + x : Nat) : Int)) j)) := fun w0 t => new_cell _ _ _
                                  go_upto_region 24 with (at_builtin; refine wpList_app1 _ rfl _ _ 22 rfl wA.heap.size 3 (.int .i64 0) 8 Try.underlying22 infoI rfl _ j (fun x => Value.int .i64 ((md (V x) k : Nat) : Int)) rfl (HU.out.kept (fresh_alloc _ _)) _ 1 rfl (HX1.out _ _) rfl (by omega) (by omega) (by simp; omega) ?_)
                                  intro v1 w4 hown1 happ1
                                  have HF4 := hidd (happ1.below (HF.out.alloc hsz _) (HU.out.kept (fresh_alloc _ _)) (Nat.le_refl _) (by simp; omega))
                                  have HG4 := hidd (happ1.own (HG.out.kept (fresh_alloc _ _)) HOF.out)
                                  have HOF4 := hidd (happ1.off (HG.out.kept (fresh_alloc _ _)) HOF.out)
                                  have HU4 := hidd hown1
                                  have hsz4 := HF4.out.size
                                  clear happ1 hown1 HG HU HOF HF HX1 hsz
                                  go_wp2_with (at_builtin; refine wpList_app1 _ rfl _ _ 22 rfl wA.heap.size 3 (.int .i64 0) 8 Try.underlying22 infoI rfl _ j (fun x => Value.int .i64 ((b + x : Nat) : Int)) rfl (HG4.out.kept (fresh_alloc _ _)) _ 1 rfl (HX2.out _ _) rfl (by omega) (by omega) (by simp; omega) ?_)
                                  intro v2 w5 hown2 happ2
                                  have HF5 := hidd (happ2.below (HF4.out.alloc hsz4 _) (HG4.out.kept (fresh_alloc _ _)) (Nat.le_refl _) (by simp; omega))
                                  have HU5 := hidd (happ2.own (HU4.out.kept (fresh_alloc _ _)) HOF4.out.symm)
                                  have HOF5 := hidd (happ2.off (HU4.out.kept (fresh_alloc _ _)) HOF4.out.symm).symm
                                  clear happ2 HG4 HU4 HOF4 HF4
                                  go_wp2
                                  go_roundw
                                  case rel => exact ⟨j + 1, by omega, by go_num, hown2, HU5, HOF5, HF5⟩
                                  case measure => simp [intOf]; omega
                            · have ht : tb = false := by rw [HTB.out]; exact decide_eq_false hlt
                              clear HTB; subst ht
                              obtain rfl : j = m := by omega
                              obtain ⟨uG, cG, rfl, hrG⟩ := own_sl HG.out
                              obtain ⟨uW, cW, rfl, hrW⟩ := own_sl HU.out
                              have HRG := hidd hrG
                              have HRW := hidd hrW
                              have HRF2 := hidd (HRF.out.fresh HF.out)
                              have HBW := hidd (HFA.out.trans (HF.out.mono HFA.out.size))
                              have HPL := hidd (plan_any HRW.out HRF2.out HRG.out (show j ≤ 8796093022208 by omega))
                              clear hrG hrW HG HU HOF HF HRF HFA hsz hlt hj
                              rename World => wC
                              go_upto_if 101 with (go_at_call 10; with_reducible refine HPL.out.mono ?_; rintro e w5 k5; obtain ⟨v5, R, er, rfl, q5⟩ := k5.out; clear k5; have HQ5 := hidd q5; have HB5 := hidd (HBW.out.trans (q5.low.mono HBW.out.size)); obtain ⟨u5, c5, rfl, _⟩ := own_sl q5.own; clear HPL q5)
                              by_cases hm0 : j = 0
                              · obtain ⟨_, _, herr⟩ := HQ5.out.bad (fun q => by have := q.1; omega)
                                subst herr hm0
                                go_wp2
                                go_ret
                                exact ⟨rfl, HB5.out⟩
                              · have HMAY : Hid (mayP j (fun x => ((md (V x) k : Nat) : Int)) k j (fun x => ((b + x : Nat) : Int))) := ⟨by omega, Nat.le_refl _, fun i hi => ⟨(by show (0 : Int) ≤ ((md (V i) k : Nat) : Int); omega), (by show ((md (V i) k : Nat) : Int) < (k : Int); have := md_lt (V i) N0; omega)⟩, nalk_of (fun i1 i2 h1 h2 e => by omega)⟩
                                obtain ⟨hR, herr⟩ := HQ5.out.ok HMAY.out
                                subst herr
                                have HRR := hidd hR
                                have jz : ¬ (j : Int) = 0 := by omega
                                clear hR
                                obtain ⟨iI, hiI, zI0, zI1, zI2⟩ := info_parts infoI
                                have hmk0 : ∀ w, (Instr.makeSlice 22 (.int .i64 ((256 : Nat) : Int)) (.int .i64 ((256 : Nat) : Int))).run Try.prog w = .ok (.slice (some ⟨w.heap.size, 0, none⟩) 256 256) (w.alloc (.cells (madeCells #[.int .i64 0] 256) 3)) := run_make_row 22 3 iI (.int .i64 0) Try.underlying22 hiI zI0 zI1 rfl .i64 .i64 256 (by rw [zI2]; omega) (by omega)
                                have hmk : ∀ w, (Instr.makeSlice 22 (.int .i64 256) (.int .i64 256)).run Try.prog w = .ok (.slice (some ⟨w.heap.size, 0, none⟩) 256 256) (w.alloc (.cells (madeCells #[.int .i64 0] 256) 3)) := hmk0
                                clear hiI zI0 zI1 zI2 hmk0
                                have r1 := rowIs_fresh (World.rowIs_made w5 (.int .i64 0) 256 3) (fresh_alloc _ (.cells (madeCells #[.int .i64 0] 256) 3))
                                have r2 := World.rowIs_made (w5.alloc (.cells (madeCells #[.int .i64 0] 256) 3)) (.int .i64 0) 256 3
                                have eg2 : (w5.alloc (.cells (madeCells #[.int .i64 0] 256) 3)).heap.size = w5.heap.size + 1 := by simp
                                rw [eg2] at r2
                                have HR1 := hidd r1
                                have HR2 := hidd r2
                                have HB7 := hidd (fresh_trans (fresh_alloc w5 (.cells (madeCells #[.int .i64 0] 256) 3)) (fresh_alloc _ (.cells (madeCells #[.int .i64 0] 256) 3)))
                                clear r1 r2 eg2
                                obtain ⟨g1, HG1⟩ : ∃ g, Hid (g = w5.heap.size) := ⟨_, rfl⟩
                                obtain ⟨g2, HG2⟩ : ∃ g, Hid (g = w5.heap.size + 1) := ⟨_, rfl⟩
                                have hg12 : g1 ≠ g2 := by rw [HG1.out, HG2.out]; omega
                                go_wp2
                                clear hmk jz
                                rw [← HG2.out, ← HG1.out]
                                rw [← HG1.out] at HR1 HB7
                                rw [← HG2.out] at HR2
                                have HLE1 : Hid (g1 ≤ g1 ∧ g1 ≤ g2) := ⟨Nat.le_refl _, by rw [HG1.out, HG2.out]; omega⟩
                                go_loopw [23] (fun i wr => ∃ q : Nat, q ≤ 256 ∧ i = .int .i64 (q : Int) ∧ Hid (wr.rowIs g1 3 256 (fun x => .int .i64 (if x < q then 1000 + (x : Int) else 0))) ∧ Hid (wr.rowIs g2 3 256 (fun x => .int .i64 (if x < q then 1000 + (x : Int) else 0))) ∧ Hid (Below g1 w5 wr)) (fun i _ => 256 - (intOf i).toNat)
                                case atStart => exact ⟨0, by omega, rfl, HR1.out.congr (fun x _ => by rw [if_neg (by omega)]), HR2.out.congr (fun x _ => by rw [if_neg (by omega)]), HB7⟩
                                case round =>
                                  as_aux_lemma =>
                                    clear HR1 HR2 HB7
                                    obtain ⟨q, hq, rfl, HR1, HR2, HF⟩ := hrel
                                    by_cases hlt : q < 256
                                    · have c1 := HR1.out.cell (i := q) hlt
                                      have f1 := HR1.out.frozen
                                      have r1 := HR1.out.set q (.int .i64 (1000 + (q : Int)))
                                      have r2 := rowIs_other (o := q) (v := .int .i64 (1000 + (q : Int))) HR2.out hg12.symm
                                      have c2 := r2.cell (i := q) hlt
                                      have f2 := r2.frozen
                                      have HS1 := hidd (rowIs_other (o := q) (v := .int .i64 (1000 + (q : Int))) r1 hg12)
                                      have HS2 := hidd (r2.set q (.int .i64 (1000 + (q : Int))))
                                      have HF2 := hidd ((HF.out.setCell (p := ⟨g1, q, none⟩) HLE1.out.1 (.int .i64 (1000 + (q : Int)))).setCell (p := ⟨g2, q, none⟩) HLE1.out.2 (.int .i64 (1000 + (q : Int))))
                                      clear r1 r2
                                      have q0 : (0 : Int) ≤ (q : Int) := by omega
                                      have q1 : (q : Int) < 256 := by omega
                                      go_wp2
                                      go_roundw
                                      case rel =>
                                        refine ⟨q + 1, by omega, by go_num, HS1.out.congr (fun x _ => ?_), HS2.out.congr (fun x _ => ?_), HF2⟩
                                        all_goals (
                                          by_cases e : x = q
                                          · subst e; rw [if_pos rfl, if_pos (by omega)]
                                          · rw [if_neg e]
                                            by_cases e2 : x < q
                                            · rw [if_pos e2, if_pos (by omega)]
                                            · rw [if_neg e2, if_neg (by omega)])
                                      case measure => simp [intOf]; omega
                                    · have hge : 256 ≤ q := by omega
                                      have dq : decide ((q : Int) < 256) = false := decide_eq_false (by omega)
                                      have dq2 : ¬ (q : Int) < 256 := by omega
                                      have HR1a : Hid (wr.rowIs g1 3 256 (fun x => .int .i64 (1000 + (x : Int)))) := HR1.out.congr (fun x hx => by rw [if_pos (by omega)])
                                      have HR2a : Hid (wr.rowIs g2 3 256 (fun x => .int .i64 (aftF R 0 x))) := HR2.out.congr (fun x hx => by rw [if_pos (by omega)]; rfl)
                                      have HFa := HF
                                      clear HR1 HR2 HF
                                      rename World => wD
                                      have HMV : Hid (∀ p ∈ R, ∃ x z : Nat, p = ((x : Int), (z : Int)) ∧ x < 256 ∧ z < 256 ∧ x ≠ z) := by
                                        rw [HRR.out]
                                        refine mv_mem (q := fun p => ∃ x z : Nat, p = ((x : Int), (z : Int)) ∧ x < 256 ∧ z < 256 ∧ x ≠ z) j (fun i hi hne => ⟨a + md (V i) k, b + i, ?_, ?_, by omega, ?_⟩)
                                        · rw [Int.toNat_natCast]
                                        · have := md_lt (V i) N0; omega
                                        · intro e; apply hne; rw [Int.toNat_natCast, e]
                                      have hRl : R.length ≤ 40 := by rw [HRR.out]; exact Nat.le_trans (mvL_le _ _ _ _) (by omega)
                                      go_wp2
                                      clear dq dq2 hge hq hlt
                                      go_loopw [24] (fun i wr => ∃ q : Nat, q ≤ R.length ∧ i = .int .i64 (q : Int) ∧ Hid (wr.rowIs g1 3 256 (fun x => .int .i64 (1000 + (x : Int)))) ∧ Hid (wr.rowIs g2 3 256 (fun x => .int .i64 (aftF R q x))) ∧ Hid (Below g1 w5 wr)) (fun i _ => R.length - (intOf i).toNat)
                                      case atStart => exact ⟨0, by omega, rfl, HR1a, HR2a, HFa⟩
                                      case round =>
                                        as_aux_lemma =>
                                          clear HR1a HR2a HFa
                                          obtain ⟨q, hq, rfl, HR1, HR2, HF⟩ := hrel
                                          by_cases hlt : q < R.length
                                          · obtain ⟨x, z, hp, hx, hz, hxz⟩ := HMV.out (R.getD q (0, 0)) (by rw [List.getD_eq_getElem?_getD, List.getElem?_eq_getElem hlt]; exact List.getElem_mem _)
                                            obtain ⟨bM, oM, rfl, hM⟩ := rd_moves ((own_rda HQ5.out.own).fresh (show Below w5.heap.size w5 wr by rw [← HG1.out]; exact HF.out)) (by omega)
                                            obtain ⟨m1, m2⟩ := hM q hlt
                                            rw [hp] at m1 m2
                                            have HP := hidd hp
                                            clear hM hp
                                            have q0 : (0 : Int) ≤ (q : Int) := by omega
                                            have q1 : (q : Int) < (R.length : Int) := by omega
                                            have x0 : (0 : Int) ≤ (x : Int) := by omega
                                            have x1 : (x : Int) < 256 := by omega
                                            have z0 : (0 : Int) ≤ (z : Int) := by omega
                                            have z1 : (z : Int) < 256 := by omega
                                            have d1 : ((x : Int) == (z : Int)) = false := by simp; omega
                                            have d2 : decide ((x : Int) < 0) = false := decide_eq_false (by omega)
                                            have d3 : decide ((256 : Int) ≤ (x : Int)) = false := decide_eq_false (by omega)
                                            have d3b : decide (256 ≤ x) = false := decide_eq_false (by omega)
                                            have d4 : decide ((z : Int) < 0) = false := decide_eq_false (by omega)
                                            have d5 : decide ((256 : Int) ≤ (z : Int)) = false := decide_eq_false (by omega)
                                            have d5b : decide (256 ≤ z) = false := decide_eq_false (by omega)
                                            have c1 := HR1.out.cell (i := x) hx
                                            have c2 := HR2.out.cell (i := z) hz
                                            have f2 := HR2.out.frozen
                                            go_wp2
                                            go_quiet (fail)
                                            go_upto_region 40 with fail
                                            obtain ⟨wE, HWE⟩ : ∃ x, Hid (x = wr.drewN nq) := ⟨_, rfl⟩
                                            rw [← HWE.out]
                                            have HE1 : Hid (wE.rowIs g1 3 256 (fun x => .int .i64 (1000 + (x : Int)))) := by rw [HWE.out]; exact rowIs_fresh HR1.out (fresh_drewN _ _)
                                            have HE2 : Hid (wE.rowIs g2 3 256 (fun x => .int .i64 (aftF R q x))) := by rw [HWE.out]; exact rowIs_fresh HR2.out (fresh_drewN _ _)
                                            have HEF : Hid (Below g1 w5 wE) := by rw [HWE.out]; exact HF.out.trans ((fresh_drewN wr nq).mono (by have := HR1.out.lt; omega))
                                            have m1 : wE.cell? ⟨bM, oM + q * 2, none⟩ = some (.int .i64 (x : Int)) := by rw [HWE.out]; exact m1
                                            have m2 : wE.cell? ⟨bM, oM + q * 2 + 1, none⟩ = some (.int .i64 (z : Int)) := by rw [HWE.out]; exact m2
                                            have c1 := HE1.out.cell (i := x) hx
                                            have c2 := HE2.out.cell (i := z) hz
                                            have f2 := HE2.out.frozen
                                            clear HR1 HR2 HF d1 d2 d3 d3b d4 d5 d5b HWE
                                            go_region
                                            have HS1 := hidd (rowIs_fresh (rowIs_other (o := z) (v := .int .i64 (1000 + (x : Int))) HE1.out hg12) (fresh_drewN _ 1))
                                            have HS2 := hidd (rowIs_fresh (HE2.out.set z (.int .i64 (1000 + (x : Int)))) (fresh_drewN _ 1))
                                            have HFE := hidd ((HEF.out.setCell (p := ⟨g2, z, none⟩) HLE1.out.2 (.int .i64 (1000 + (x : Int)))).drew)
                                            clear c1 c2 f2 m1 m2
                                            go_wp2
                                            go_roundw
                                            case rel =>
                                              refine ⟨q + 1, by omega, by go_num, HS1, HS2.out.congr (fun x' _ => ?_), HFE⟩
                                              show _ = Value.int .i64 (if (x' : Int) = (R.getD q (0, 0)).2 then 1000 + (R.getD q (0, 0)).1 else aftF R q x')
                                              rw [HP.out]
                                              by_cases e : x' = z
                                              · rw [if_pos e, if_pos (by show (x' : Int) = (z : Int); omega)]
                                              · rw [if_neg e, if_neg (by show ¬ (x' : Int) = (z : Int); omega)]
                                            case measure => simp [intOf]; omega
                                          · obtain rfl : q = R.length := by omega
                                            have HR2b : Hid (wr.rowIs g2 3 256 (fun x => .int .i64 (if b ≤ x ∧ x < b + j then 1000 + ((a + md (V (x - b)) k : Nat) : Int) else 1000 + (x : Int)))) := HR2.out.congr (fun x _ => by
                                              have := aft_mv (S := fun x => ((a + x : Nat) : Int)) (W := fun x => ((md (V x) k : Nat) : Int)) (Z := fun x => ((b + x : Nat) : Int)) (b := b) (fun _ => rfl) j x
                                              rw [← HRR.out] at this
                                              rw [this]
                                              simp only [Int.toNat_natCast])
                                            have HR1b := HR1
                                            have HFb := HF
                                            clear HR1 HR2 HF hlt hq HMV HMAY
                                            rename World => wE
                                            have HFw : Hid (Below w5.heap.size w5 wE) := by rw [← HG1.out]; exact HFb.out
                                            have HBE := hidd (HB5.out.trans (HFw.out.mono HB5.out.size))
                                            have HRGe := hidd ((HRG.out.fresh HQ5.out.low).fresh HFw.out)
                                            have HRWe := hidd ((HRW.out.fresh HQ5.out.low).fresh HFw.out)
                                            have HRFe := hidd ((HRF2.out.fresh HQ5.out.low).fresh HFw.out)
                                            clear HRG HRW HRF2
                                            go_wp2
                                            go_loopw [25] (fun i wr => ∃ q : Nat, q ≤ j ∧ i = .int .i64 (q : Int) ∧ Hid (Below wE.heap.size wE wr)) (fun i _ => j - (intOf i).toNat)
                                            case atStart => exact ⟨0, by omega, rfl, Below.refl _ _⟩
                                            case round =>
                                              as_aux_lemma =>
                                                obtain ⟨q, hq, rfl, HF⟩ := hrel
                                                by_cases hlt : q < j
                                                · obtain ⟨bG, oG, rfl, h1⟩ := (HRGe.out.fresh HF.out).one (by omega)
                                                  obtain ⟨bW, oW, rfl, h2⟩ := (HRWe.out.fresh HF.out).one (by omega)
                                                  obtain ⟨bF, oF, rfl, h3⟩ := (HRFe.out.fresh HF.out).one (by omega)
                                                  obtain ⟨d, HD⟩ : ∃ d, Hid (d = md (V q) k) := ⟨_, rfl⟩
                                                  have hdk : d < k := by rw [HD.out]; exact md_lt _ N0
                                                  have x1 := h1 q hlt
                                                  have x2 := h2 q hlt
                                                  rw [← HD.out] at x2
                                                  have x3 := h3 d hdk
                                                  have y1 := (rowIs_fresh HR2b.out HF.out).cell (i := b + q) (by omega)
                                                  rw [if_pos (by omega), Nat.add_sub_cancel_left, ← HD.out] at y1
                                                  have y2 := (rowIs_fresh HR1b.out HF.out).cell (i := a + d) (by omega)
                                                  clear h1 h2 h3
                                                  obtain ⟨bq, HBQ⟩ : ∃ x, Hid (x = b + q) := ⟨_, rfl⟩
                                                  obtain ⟨ad, HAD⟩ : ∃ x, Hid (x = a + d) := ⟨_, rfl⟩
                                                  rw [← HBQ.out] at x1 y1
                                                  rw [← HAD.out] at x3 y1 y2
                                                  have q0 : (0 : Int) ≤ (q : Int) := by omega
                                                  have q1 : (q : Int) < (j : Int) := by omega
                                                  have i0 : (0 : Int) ≤ (d : Int) := by omega
                                                  have i1 : (d : Int) < (k : Int) := by omega
                                                  have b0 : (0 : Int) ≤ (bq : Int) := by omega
                                                  have b1 : (bq : Int) < 256 := by have := HBQ.out; omega
                                                  have a0 : (0 : Int) ≤ (ad : Int) := by omega
                                                  have a1 : (ad : Int) < 256 := by have := HAD.out; omega
                                                  go_wp2
                                                  go_quiet (fail)
                                                  go_wp2
                                                  go_roundw
                                                  case rel => exact ⟨q + 1, by omega, by go_num, below_drewN HF.out _⟩
                                                  case measure => simp [intOf]; omega
                                                · obtain rfl : q = j := by omega
                                                  have HBF := hidd (HBE.out.trans (HF.out.mono HBE.out.size))
                                                  have HR1c := hidd (rowIs_fresh HR1b.out HF.out)
                                                  have HR2c := hidd (rowIs_fresh HR2b.out HF.out)
                                                  clear HR1b HR2b HF HRGe HRWe HRFe hlt hq
                                                  rename World => wF
                                                  go_wp2
                                                  go_loopw [26] (fun i wr => ∃ y : Nat, y ≤ 256 ∧ i = .int .i64 (y : Int) ∧ Hid (Below wF.heap.size wF wr)) (fun i _ => 256 - (intOf i).toNat)
                                                  case atStart => exact ⟨0, by omega, rfl, Below.refl _ _⟩
                                                  case round =>
                                                    as_aux_lemma =>
                                                      obtain ⟨y, hy, rfl, HF⟩ := hrel
                                                      by_cases hlt : y < 256
                                                      · have y1 := (rowIs_fresh HR2c.out HF.out).cell (i := y) hlt
                                                        have y2 := (rowIs_fresh HR1c.out HF.out).cell (i := y) hlt
                                                        have i0 : (0 : Int) ≤ (y : Int) := by omega
                                                        have i1 : (y : Int) < 256 := by omega
                                                        by_cases c1 : b ≤ y
                                                        · have dc1 : decide ((b : Int) ≤ (y : Int)) = true := decide_eq_true (by omega)
                                                          have dc1b : decide (b ≤ y) = true := decide_eq_true c1
                                                          by_cases c2 : y < b + q
                                                          · have dc2 : decide ((y : Int) < (b : Int) + (q : Int)) = true := decide_eq_true (by omega)
                                                            have dc2b : decide (y < b + q) = true := decide_eq_true c2
                                                            clear y1 y2
                                                            go_wp2
                                                            go_quiet (fail)
                                                            go_wp2
                                                            go_roundw
                                                            case rel => exact ⟨y + 1, by omega, by go_num, below_drewN HF.out _⟩
                                                            case measure => simp [intOf]; omega
                                                          · have dc2 : decide ((y : Int) < (b : Int) + (q : Int)) = false := decide_eq_false (by omega)
                                                            have dc2b : decide (y < b + q) = false := decide_eq_false c2
                                                            rw [if_neg (by omega)] at y1
                                                            go_wp2
                                                            go_quiet (fail)
                                                            go_wp2
                                                            go_roundw
                                                            case rel => exact ⟨y + 1, by omega, by go_num, below_drewN HF.out _⟩
                                                            case measure => simp [intOf]; omega
                                                        · have dc1 : decide ((b : Int) ≤ (y : Int)) = false := decide_eq_false (by omega)
                                                          have dc1b : decide (b ≤ y) = false := decide_eq_false c1
                                                          rw [if_neg (by omega)] at y1
                                                          go_wp2
                                                          go_quiet (fail)
                                                          go_wp2
                                                          go_roundw
                                                          case rel => exact ⟨y + 1, by omega, by go_num, below_drewN HF.out _⟩
                                                          case measure => simp [intOf]; omega
                                                      · obtain rfl : y = 256 := by omega
                                                        have HBG := hidd (HBF.out.trans (HF.out.mono HBF.out.size))
                                                        go_wp2
                                                        go_ret
                                                        exact ⟨rfl, HBG.out⟩
end Go.Proofs.Ytknfddakpfkcfaa
