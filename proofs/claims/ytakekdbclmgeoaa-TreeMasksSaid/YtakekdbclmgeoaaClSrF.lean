import Derived.Test.YtakekdbclmgeoaaClSrE
namespace Go.Proofs.Ytakekdbclmgeoaa.Cl
open Go.RowKit
/-! symMerge: one element on the right. -/
set_option maxRecDepth 20000 in
set_option maxHeartbeats 4000000 in
theorem symm_two {w : World} {g N c : Nat} {d : Nat → Nat} {bx M : Nat} {K : Nat → Int} {nb o nc : Nat} {a m b : Nat} (h : w.rowIs g 3 N (fun i => .int .i64 ((d i : Nat) : Int))) (hN : N ≤ 1048576) (hk : NdK w bx M K nb o nc) (h1 : bx ≠ g) (h2 : nb ≠ g) (ham : a + 1 < m) (hmb : b = m + 1) (hbN : b ≤ N) (hd : ∀ i, i < N → d i < M) (hlr : ∀ v, a ≤ v → v < m → d v < d m) (hL : Srt K d a m) :
    Calls Try.prog 53 #[.slice (some ⟨g, 0, none⟩) N c, .int .i64 (a : Int), .int .i64 (m : Int), .int .i64 (b : Int), .func (.func 48) #[] #[.pointer (some ⟨bx, 0, none⟩)]] w fun e w' => e = .returned (.tuple #[]) ∧ ∃ d', Rw w g N d' w' ∧ Fr d d' a b ∧ Srt K d' a b := by
  have H0 := hidd (Rw.start h)
  have HK := hidd hk
  have HD := hidd hd
  have HLR := hidd hlr
  have HSL := hidd hL
  have HMB := hidd hmb
  obtain ⟨z, HZ⟩ : ∃ z, Hid (z = m - a) := ⟨_, rfl⟩
  have e0 : IntKind.i64.wrap ((m : Int) - (a : Int)) = (z : Int) := by rw [IntKind.wrap_i64]; have := HZ.out; omega
  have e1 : ((z : Int) == 1) = false := by have := HZ.out; simp; omega
  have e1' : decide ((z : Int) = 1) = false := decide_eq_false (by have := HZ.out; omega)
  have e1'' : ¬ ((z : Int) = 1) := by have := HZ.out; omega
  have e1n : ¬ (z = 1) := by have := HZ.out; omega
  have e2 : IntKind.i64.wrap ((b : Int) - (m : Int)) = 1 := by rw [IntKind.wrap_i64]; omega
  have hmN : m < N := by omega
  clear h hk hd hlr hL hmb
  go_enter Try.func53, Try.ntmps53
  go_wp2
  go_loopw [14, 15, 16] (fun vi vj _ wr => ∃ i j : Nat, vi = .int .i64 (i : Int) ∧ vj = .int .i64 (j : Int) ∧ a ≤ i ∧ i ≤ j ∧ j ≤ m ∧ Hid (∀ t, a ≤ t → t < i → ltK K (d t) (d m)) ∧ Hid (∀ t, j ≤ t → t < m → ltK K (d m) (d t)) ∧ Hid (Rw w g N d wr)) (fun vi vj _ _ => (intOf vj).toNat - (intOf vi).toNat)
  case atStart => exact ⟨a, m, rfl, rfl, Nat.le_refl _, by omega, Nat.le_refl _, (fun t t1 t2 => absurd t2 (by omega)), (fun t t1 t2 => absurd t2 (by omega)), H0⟩
  case round =>
    obtain ⟨i, j, rfl, rfl, hmi, hij, hjb, HA, HB, HR⟩ := hrel
    by_cases hlt : i < j
    · have i1 : (i : Int) < (j : Int) := by omega
      obtain ⟨s, HS⟩ : ∃ s, Hid (s = i + j) := ⟨_, rfl⟩
      have s1 : IntKind.i64.wrap ((i : Int) + (j : Int)) = (s : Int) := by rw [IntKind.wrap_i64]; have := HS.out; omega
      obtain ⟨hh, HH⟩ : ∃ hh, Hid (hh = s / 2) := ⟨_, rfl⟩
      have hs2 : s ≤ 2097152 := by have := HS.out; omega
      have s2 : IntKind.u64.wrap (s : Int) = (s : Int) := by rw [IntKind.wrap_u64]; omega
      have s3 : (s : Int) / 2 = (hh : Int) := by have := HH.out; omega
      have hih : i ≤ hh := by have := HH.out; have := HS.out; omega
      have hhj : hh < j := by have := HH.out; have := HS.out; omega
      have s4 : IntKind.u64.wrap (hh : Int) = (hh : Int) := by rw [IntKind.wrap_u64]; omega
      have s5 : IntKind.i64.wrap (hh : Int) = (hh : Int) := by rw [IntKind.wrap_i64]; omega
      have c1 := HR.out.row.cell (i := hh) (by omega)
      have c2 := HR.out.row.cell (i := m) (by omega)
      have HCC : Hid (∀ q, Calls Try.prog 48 #[.int .i64 ((d m : Nat) : Int), .int .i64 ((d hh : Nat) : Int), .pointer (some ⟨bx, 0, none⟩)] (wr.drewN q) fun e w' => e = .returned (.int .i64 (cmpV (K (d m)) (K (d hh)))) ∧ ∃ m, w' = (wr.drewN q).drewN m) := fun q => cmpD_q (HK.out.rw HR.out h1 h2) (HD.out m (by omega)) (HD.out hh (by omega)) q
      have hcn := cmpV_neg (K (d m)) (K (d hh))
      generalize hrr : cmpV (K (d m)) (K (d hh)) = r at HCC hcn
      clear hrr
      have g0 : (0 : Int) ≤ (hh : Int) := by omega
      have g1 : (hh : Int) < (N : Int) := by omega
      have g2 : (0 : Int) ≤ (m : Int) := by omega
      have g3 : (m : Int) < (N : Int) := by omega
      by_cases hKlt : K (d m) < K (d hh)
      · have r1 : r < 0 := hcn.2 hKlt
        have r2 : decide (r < 0) = true := decide_eq_true r1
        have HB2 : Hid (∀ t, hh ≤ t → t < m → ltK K (d m) (d t)) := fun t t1 t2 => by
          have k1 : ltK K (d m) (d hh) := .inl hKlt
          by_cases e : t = hh
          · rw [e]; exact k1
          · exact k1.trans (HSL.out hh t (by omega) (by omega) t2)
        clear hcn hKlt HB
        go_wp2
        go_quiet (exact Calls.quiet_of (HCC.out _))
        go_wp2
        go_roundw
        case rel => exact ⟨i, hh, rfl, rfl, hmi, hih, by omega, HA, HB2, HR.out.drewN _⟩
        case measure => simp [intOf]; omega
      · have r1 : ¬ r < 0 := fun q => hKlt (hcn.1 q)
        have r2 : decide (r < 0) = false := decide_eq_false r1
        have HA2 : Hid (∀ t, a ≤ t → t < hh + 1 → ltK K (d t) (d m)) := fun t t1 t2 => by
          have k1 : ltK K (d hh) (d m) := ltK_of (HLR.out hh (by omega) (by omega)) hKlt
          by_cases e : t = hh
          · rw [e]; exact k1
          · exact (HSL.out t hh t1 (by omega) (by omega)).trans k1
        clear hcn hKlt HA
        go_wp2
        go_quiet (exact Calls.quiet_of (HCC.out _))
        go_wp2
        go_roundw
        case rel => exact ⟨hh + 1, j, by go_num, rfl, by omega, by omega, hjb, HA2, HB, HR.out.drewN _⟩
        case measure => simp [intOf]; omega
    · obtain rfl : i = j := by omega
      have hnl : ¬ ((i : Int) < (i : Int)) := by omega
      have HEN : Hid (Fr d (dnD d i m) a b ∧ Srt K (dnD d i m) a b) := ⟨dnD_fr d hmi (by omega) (by have := HMB.out; omega), by rw [HMB.out]; exact dnD_srt hmi (by omega) HSL.out HA.out HB.out⟩
      clear HA HB
      go_wp2
      go_loopw [17] (fun vk wx => ∃ k : Nat, vk = .int .i64 (k : Int) ∧ i ≤ k ∧ k ≤ m ∧ Hid (Rw w g N (dnD d k m) wx)) (fun vk _ => (intOf vk).toNat)
      case atStart => exact ⟨m, rfl, by omega, Nat.le_refl _, by rw [dnD_zero]; exact HR⟩
      case round =>
        obtain ⟨k, rfl, hak, hki, HRk⟩ := hrel
        by_cases hkl : i < k
        · have k1 : (i : Int) < (k : Int) := by omega
          have k2 : decide ((i : Int) < (k : Int)) = true := decide_eq_true k1
          obtain ⟨k', HKK⟩ : ∃ k', Hid (k' = k - 1) := ⟨_, rfl⟩
          have s2 : IntKind.i64.wrap ((k : Int) - 1) = (k' : Int) := by rw [IntKind.wrap_i64]; have := HKK.out; omega
          have hk'b : k' < N := by have := HKK.out; omega
          have hk'k : k' + 1 = k := by have := HKK.out; omega
          have HK1 := hidd hk'k
          have c1 := HRk.out.row.cell (i := k) (by omega)
          have c2 := HRk.out.row.cell (i := k') hk'b
          have fr := HRk.out.row.frozen
          generalize hx : dnD d k m k = x at c1
          generalize hy : dnD d k m k' = y at c2
          have HX := hidd hx
          have HY := hidd hy
          have g0 : (0 : Int) ≤ (k : Int) := by omega
          have g1 : (k : Int) < (N : Int) := by omega
          have g2 : (0 : Int) ≤ (k' : Int) := by omega
          have g3 : (k' : Int) < (N : Int) := by omega
          have hne : k ≠ k' := by omega
          clear hx hy hk'k
          go_wp2
          go_region
          all_goals
            have HSW : Hid (Rw w g N (dnD d k' m) (((wr.setCell ⟨g, k, none⟩ (.int .i64 (y : Int))).setCell ⟨g, k', none⟩ (.int .i64 (x : Int))).drew)) := HRk.out.swap HX.out HY.out (fun t => by have := dnD_step d (k := k') (m := m) (by have := HK1.out; omega) t; rw [HK1.out] at this; exact this)
            go_wp2
            go_roundw
            case rel => exact ⟨k', rfl, by have := HK1.out; omega, by have := HK1.out; omega, HSW⟩
            case measure => simp [intOf]; have := HK1.out; omega
        · obtain rfl : i = k := by omega
          have hnl : ¬ ((i : Int) < (i : Int)) := by omega
          go_wp2
          refine bodyPost_ret (results_none rfl _ _ _) rfl ?_
          exact ⟨rfl, _, HRk.out, HEN.out.1, HEN.out.2⟩
end Go.Proofs.Ytakekdbclmgeoaa.Cl
