import Derived.Test.YtakekdbclmgeoaaClSrD
namespace Go.Proofs.Ytakekdbclmgeoaa.Cl
open Go.RowKit
/-! symMerge: one element on the left. -/
theorem half_u {s : Nat} (h : s ≤ 2097152) : IntKind.i64.wrap (IntKind.u64.wrap ((s : Int) / 2)) = ((s / 2 : Nat) : Int) := by
  rw [IntKind.wrap_u64, IntKind.wrap_i64]
  omega
set_option maxRecDepth 20000 in
set_option maxHeartbeats 4000000 in
theorem symm_one {w : World} {g N c : Nat} {d : Nat → Nat} {bx M : Nat} {K : Nat → Int} {nb o nc : Nat} {a m b : Nat} (h : w.rowIs g 3 N (fun i => .int .i64 ((d i : Nat) : Int))) (hN : N ≤ 1048576) (hk : NdK w bx M K nb o nc) (h1 : bx ≠ g) (h2 : nb ≠ g) (ham : m = a + 1) (hmb : m < b) (hbN : b ≤ N) (hd : ∀ i, i < N → d i < M) (hlr : ∀ v, m ≤ v → v < b → d a < d v) (hR : Srt K d m b) :
    Calls Try.prog 53 #[.slice (some ⟨g, 0, none⟩) N c, .int .i64 (a : Int), .int .i64 (m : Int), .int .i64 (b : Int), .func (.func 48) #[] #[.pointer (some ⟨bx, 0, none⟩)]] w fun e w' => e = .returned (.tuple #[]) ∧ ∃ d', Rw w g N d' w' ∧ Fr d d' a b ∧ Srt K d' a b := by
  have H0 := hidd (Rw.start h)
  have HK := hidd hk
  have HD := hidd hd
  have HLR := hidd hlr
  have HSR := hidd hR
  have HAM := hidd ham
  have e0 : IntKind.i64.wrap ((m : Int) - (a : Int)) = 1 := by rw [IntKind.wrap_i64]; omega
  have ham2 : a < m := by omega
  clear h hk hd hlr hR ham
  go_enter Try.func53, Try.ntmps53
  go_wp2
  go_loopw [10, 11, 12] (fun vi vj _ wr => ∃ i j : Nat, vi = .int .i64 (i : Int) ∧ vj = .int .i64 (j : Int) ∧ m ≤ i ∧ i ≤ j ∧ j ≤ b ∧ Hid (∀ t, m ≤ t → t < i → ltK K (d t) (d a)) ∧ Hid (∀ t, j ≤ t → t < b → ltK K (d a) (d t)) ∧ Hid (Rw w g N d wr)) (fun vi vj _ _ => (intOf vj).toNat - (intOf vi).toNat)
  case atStart => exact ⟨m, b, rfl, rfl, Nat.le_refl _, by omega, Nat.le_refl _, (fun t t1 t2 => absurd t2 (by omega)), (fun t t1 t2 => absurd t2 (by omega)), H0⟩
  case round =>
    obtain ⟨i, j, rfl, rfl, hmi, hij, hjb, HA, HB, HR⟩ := hrel
    by_cases hlt : i < j
    · have i1 : (i : Int) < (j : Int) := by omega
      obtain ⟨s, HS⟩ : ∃ s, Hid (s = i + j) := ⟨_, rfl⟩
      have s1 : IntKind.i64.wrap ((i : Int) + (j : Int)) = (s : Int) := by rw [IntKind.wrap_i64]; have := HS.out; omega
      obtain ⟨hh, HH⟩ : ∃ hh, Hid (hh = s / 2) := ⟨_, rfl⟩
      have hs2 : s ≤ 2097152 := by have := HS.out; omega
      have s2 : IntKind.u64.wrap (s : Int) = (s : Int) := by rw [IntKind.wrap_u64]; omega
      have s3 : (s : Int) / 2 = (hh : Int) := by have := HH.out; omega
      have hih : i ≤ hh := by have := HH.out; have := HS.out; omega
      have hhj : hh < j := by have := HH.out; have := HS.out; omega
      have s4 : IntKind.u64.wrap (hh : Int) = (hh : Int) := by rw [IntKind.wrap_u64]; omega
      have s5 : IntKind.i64.wrap (hh : Int) = (hh : Int) := by rw [IntKind.wrap_i64]; omega
      have c1 := HR.out.row.cell (i := hh) (by omega)
      have c2 := HR.out.row.cell (i := a) (by omega)
      have HCC : Hid (∀ q, Calls Try.prog 48 #[.int .i64 ((d hh : Nat) : Int), .int .i64 ((d a : Nat) : Int), .pointer (some ⟨bx, 0, none⟩)] (wr.drewN q) fun e w' => e = .returned (.int .i64 (cmpV (K (d hh)) (K (d a)))) ∧ ∃ m, w' = (wr.drewN q).drewN m) := fun q => cmpD_q (HK.out.rw HR.out h1 h2) (HD.out hh (by omega)) (HD.out a (by omega)) q
      have hcn := cmpV_neg (K (d hh)) (K (d a))
      generalize hrr : cmpV (K (d hh)) (K (d a)) = r at HCC hcn
      clear hrr
      have g0 : (0 : Int) ≤ (hh : Int) := by omega
      have g1 : (hh : Int) < (N : Int) := by omega
      have g2 : (0 : Int) ≤ (a : Int) := by omega
      have g3 : (a : Int) < (N : Int) := by omega
      by_cases hKlt : K (d hh) < K (d a)
      · have r1 : r < 0 := hcn.2 hKlt
        have r2 : decide (r < 0) = true := decide_eq_true r1
        have HA2 : Hid (∀ t, m ≤ t → t < hh + 1 → ltK K (d t) (d a)) := fun t t1 t2 => by
          have k1 : ltK K (d hh) (d a) := .inl hKlt
          by_cases e : t = hh
          · rw [e]; exact k1
          · exact (HSR.out t hh t1 (by omega) (by omega)).trans k1
        clear hcn hKlt HA
        go_wp2
        go_quiet (exact Calls.quiet_of (HCC.out _))
        go_wp2
        go_roundw
        case rel => exact ⟨hh + 1, j, by go_num, rfl, by omega, by omega, hjb, HA2, HB, HR.out.drewN _⟩
        case measure => simp [intOf]; omega
      · have r1 : ¬ r < 0 := fun q => hKlt (hcn.1 q)
        have r2 : decide (r < 0) = false := decide_eq_false r1
        have HB2 : Hid (∀ t, hh ≤ t → t < b → ltK K (d a) (d t)) := fun t t1 t2 => by
          have k1 : ltK K (d a) (d hh) := ltK_of (HLR.out hh (by omega) (by omega)) hKlt
          by_cases e : t = hh
          · rw [e]; exact k1
          · exact k1.trans (HSR.out hh t (by omega) (by omega) t2)
        clear hcn hKlt HB
        go_wp2
        go_quiet (exact Calls.quiet_of (HCC.out _))
        go_wp2
        go_roundw
        case rel => exact ⟨i, hh, rfl, rfl, hmi, hih, by omega, HA, HB2, HR.out.drewN _⟩
        case measure => simp [intOf]; omega
    · obtain rfl : i = j := by omega
      have hnl : ¬ ((i : Int) < (i : Int)) := by omega
      obtain ⟨i', HI⟩ : ∃ i', Hid (i' = i - 1) := ⟨_, rfl⟩
      have s1 : IntKind.i64.wrap ((i : Int) - 1) = (i' : Int) := by rw [IntKind.wrap_i64]; have := HI.out; omega
      have hai : a ≤ i' := by have := HI.out; omega
      have hib : i' < b := by have := HI.out; omega
      have HEN : Hid (Fr d (upD d a i') a b ∧ Srt K (upD d a i') a b) := ⟨upD_fr d hai hib, by rw [HI.out]; exact upD_srt (by omega) (by omega) (by rw [← HAM.out]; exact HSR.out) (by rw [← HAM.out]; exact HA.out) HB.out⟩
      clear HA HB
      go_wp2
      go_loopw [13] (fun vk wx => ∃ k : Nat, vk = .int .i64 (k : Int) ∧ a ≤ k ∧ k ≤ i' ∧ Hid (Rw w g N (upD d a k) wx)) (fun vk _ => i' - (intOf vk).toNat)
      case atStart => exact ⟨a, rfl, Nat.le_refl _, hai, by rw [upD_zero]; exact HR⟩
      case round =>
        obtain ⟨k, rfl, hak, hki, HRk⟩ := hrel
        by_cases hkl : k < i'
        · have k1 : (k : Int) < (i' : Int) := by omega
          have s2 : IntKind.i64.wrap ((k : Int) + 1) = ((k + 1 : Nat) : Int) := by rw [IntKind.wrap_i64]; omega
          obtain ⟨k', HKK⟩ : ∃ k', Hid (k' = k + 1) := ⟨_, rfl⟩
          rw [← HKK.out] at s2
          have hk'b : k' < N := by have := HKK.out; omega
          have c1 := HRk.out.row.cell (i := k) (by omega)
          have c2 := HRk.out.row.cell (i := k') hk'b
          have fr := HRk.out.row.frozen
          generalize hx : upD d a k k = x at c1
          generalize hy : upD d a k k' = y at c2
          have HX := hidd hx
          have HY := hidd hy
          clear hx hy
          have g0 : (0 : Int) ≤ (k : Int) := by omega
          have g1 : (k : Int) < (N : Int) := by omega
          have g2 : (0 : Int) ≤ (k' : Int) := by omega
          have g3 : (k' : Int) < (N : Int) := by omega
          have hne : k ≠ k' := by have := HKK.out; omega
          go_wp2
          go_region
          all_goals
            have HSW : Hid (Rw w g N (upD d a (k + 1)) (((wr.setCell ⟨g, k, none⟩ (.int .i64 (y : Int))).setCell ⟨g, k', none⟩ (.int .i64 (x : Int))).drew)) := HRk.out.swap HX.out HY.out (fun t => by rw [HKK.out]; exact upD_step d hak t)
            go_wp2
            go_roundw
            case rel => exact ⟨k + 1, by rw [HKK.out], by omega, by omega, HSW⟩
            case measure => simp [intOf]; have := HKK.out; omega
        · obtain rfl : k = i' := by omega
          have hnl : ¬ ((k : Int) < (k : Int)) := by omega
          go_wp2
          refine bodyPost_ret (results_none rfl _ _ _) rfl ?_
          exact ⟨rfl, _, HRk.out, HEN.out.1, HEN.out.2⟩
end Go.Proofs.Ytakekdbclmgeoaa.Cl
