import Derived.Test.YtakekdbclmgeoaaClSrF
import Derived.Deep.DeepCutAuto
namespace Go.Proofs.Ytakekdbclmgeoaa.Cl
open Go.RowKit
/-! symMerge. -/
theorem rot_id {d : Nat → Nat} {s m e : Nat} (h : s = m ∨ e = m) (he : m ≤ e) : rot d s m e = d := by
  funext t
  unfold rot
  repeat' split
  all_goals first | rfl | (congr 1; omega) | omega
theorem Cut.left {K : Nat → Int} {d : Nat → Nat} {a m b mid s : Nat} (h : Cut K d a m b mid s) (hlr : ∀ u v, a ≤ u → u < m → m ≤ v → v < b → d u < d v) : ∀ u v, a ≤ u → u < s → s ≤ v → v < mid → rot d s m (mid + m - s) u < rot d s m (mid + m - s) v := fun u v h1 h2 h3 h4 => by
  have hs := h.sm
  have he := h.eb
  have e1 : rot d s m (mid + m - s) u = d u := by unfold rot; rw [if_neg (by omega), if_neg (by omega)]
  have e2 : rot d s m (mid + m - s) v = d (m + (v - s)) := by unfold rot; rw [if_pos (by omega)]
  rw [e1, e2]
  exact hlr _ _ h1 (by omega) (by omega) (by omega)
theorem Cut.right {K : Nat → Int} {d : Nat → Nat} {a m b mid s : Nat} (h : Cut K d a m b mid s) (hlr : ∀ u v, a ≤ u → u < m → m ≤ v → v < b → d u < d v) : ∀ u v, mid ≤ u → u < mid + m - s → mid + m - s ≤ v → v < b → rot d s m (mid + m - s) u < rot d s m (mid + m - s) v := fun u v h1 h2 h3 h4 => by
  have hs := h.sm
  have hsm := h.smid
  have ha := h.ge
  have e1 : rot d s m (mid + m - s) u = d (u - (mid - s)) := by unfold rot; rw [if_neg (by omega), if_pos (by omega)]; congr 1; omega
  have e2 : rot d s m (mid + m - s) v = d v := by unfold rot; rw [if_neg (by omega), if_neg (by omega)]
  rw [e1, e2]
  exact hlr _ _ (by omega) (by omega) (by omega) h4
/-- the two halves behind the cut, each in order: the whole -/
theorem Cut.whole {K : Nat → Int} {d f1 f2 : Nat → Nat} {a m b mid s : Nat} (h : Cut K d a m b mid s) (hm1 : a ≤ mid) (hm2 : mid ≤ b) (hL : Srt K d a m) (hR : Srt K d m b) (g1 : Fr (rot d s m (mid + m - s)) f1 a mid) (s1 : Srt K f1 a mid) (g2 : Fr f1 f2 mid b) (s2 : Srt K f2 mid b) : Fr d f2 a b ∧ Srt K f2 a b := by
  have hs := h.sm
  have ha := h.ge
  have hsm := h.smid
  have he := h.eb
  refine ⟨(((rot_fr d hs (by omega)).wide ha he).trans (g1.wide (Nat.le_refl _) hm2)).trans (g2.wide hm1 (Nat.le_refl _)), ?_⟩
  refine Srt.join (mid := mid) (s1.congr (fun u _ hu => g2.out u (by omega))) s2 (fun u v h1 h2 h3 h4 => ?_)
  obtain ⟨_, _, _, _, hx⟩ := h.parts hm1 hm2 hL hR
  rw [g2.out u (by omega)]
  obtain ⟨j, j1, j2, ej⟩ := g1.inn u h1 h2
  obtain ⟨l, l1, l2, el⟩ := g2.inn v h3 h4
  rw [ej, el, g1.out l (by omega)]
  exact hx j l j1 j2 l1 l2
set_option maxRecDepth 20000 in
set_option maxHeartbeats 16000000 in
theorem symm_any {g N c bx M : Nat} {K : Nat → Int} {nb o nc : Nat} (hN : N ≤ 1048576) (h1 : bx ≠ g) (h2 : nb ≠ g) : ∀ (k a m b : Nat), b - a = k → a < m → m < b → b ≤ N → ∀ {w : World} {d : Nat → Nat}, w.rowIs g 3 N (fun i => .int .i64 ((d i : Nat) : Int)) → NdK w bx M K nb o nc → (∀ i, i < N → d i < M) → (∀ u v, a ≤ u → u < m → m ≤ v → v < b → d u < d v) → Srt K d a m → Srt K d m b →
    Calls Try.prog 53 #[.slice (some ⟨g, 0, none⟩) N c, .int .i64 (a : Int), .int .i64 (m : Int), .int .i64 (b : Int), .func (.func 48) #[] #[.pointer (some ⟨bx, 0, none⟩)]] w fun e w' => e = .returned (.tuple #[]) ∧ ∃ d', Rw w g N d' w' ∧ Fr d d' a b ∧ Srt K d' a b := by
  intro k
  induction k using Nat.strongRecOn with
  | ind k ih =>
    intro a m b hkk ham hmb hbN w d h hk hd hlr hL hR
    by_cases hone : m = a + 1
    · exact symm_one h hN hk h1 h2 hone hmb hbN hd (fun v v1 v2 => hlr a v (Nat.le_refl _) ham v1 v2) hR
    by_cases htwo : b = m + 1
    · exact symm_two h hN hk h1 h2 (by omega) htwo hbN hd (fun v v1 v2 => hlr v m v1 v2 (Nat.le_refl _) hmb) hL
    have H0 := hidd (Rw.start h)
    have HK := hidd hk
    have HD := hidd hd
    have HLR := hidd hlr
    have HSL := hidd hL
    have HSR := hidd hR
    have HIH := hidd ih
    have HKK := hidd hkk
    obtain ⟨z1, HZ1⟩ : ∃ z, Hid (z = m - a) := ⟨_, rfl⟩
    obtain ⟨z2, HZ2⟩ : ∃ z, Hid (z = b - m) := ⟨_, rfl⟩
    have e0 : IntKind.i64.wrap ((m : Int) - (a : Int)) = (z1 : Int) := by rw [IntKind.wrap_i64]; have := HZ1.out; omega
    have e1 : ¬ ((z1 : Int) = 1) := by have := HZ1.out; omega
    have e1' : decide ((z1 : Int) = 1) = false := decide_eq_false e1
    have e1n : ¬ (z1 = 1) := by have := HZ1.out; omega
    have e2 : IntKind.i64.wrap ((b : Int) - (m : Int)) = (z2 : Int) := by rw [IntKind.wrap_i64]; have := HZ2.out; omega
    have e3 : ¬ ((z2 : Int) = 1) := by have := HZ2.out; omega
    have e3' : decide ((z2 : Int) = 1) = false := decide_eq_false e3
    have e3n : ¬ (z2 = 1) := by have := HZ2.out; omega
    obtain ⟨s0, HS0⟩ : ∃ s, Hid (s = a + b) := ⟨_, rfl⟩
    have f1 : IntKind.i64.wrap ((a : Int) + (b : Int)) = (s0 : Int) := by rw [IntKind.wrap_i64]; have := HS0.out; omega
    have f2 : IntKind.u64.wrap (s0 : Int) = (s0 : Int) := by rw [IntKind.wrap_u64]; have := HS0.out; omega
    obtain ⟨mid, HMD⟩ : ∃ mid, Hid (mid = s0 / 2) := ⟨_, rfl⟩
    have f3 : (s0 : Int) / 2 = (mid : Int) := by have := HMD.out; omega
    have HM2 : Hid (2 * mid ≤ a + b ∧ a + b ≤ 2 * mid + 1) := by have := HMD.out; have := HS0.out; exact ⟨by omega, by omega⟩
    have hmidb : mid < b := by have := HM2.out; omega
    have hamid : a < mid := by have := HM2.out; omega
    have f4 : IntKind.u64.wrap (mid : Int) = (mid : Int) := by rw [IntKind.wrap_u64]; omega
    have f5 : IntKind.i64.wrap (mid : Int) = (mid : Int) := by rw [IntKind.wrap_i64]; omega
    obtain ⟨nn, HNN⟩ : ∃ nn, Hid (nn = mid + m) := ⟨_, rfl⟩
    have f6 : IntKind.i64.wrap ((mid : Int) + (m : Int)) = (nn : Int) := by rw [IntKind.wrap_i64]; have := HNN.out; omega
    obtain ⟨lo, HLO⟩ : ∃ lo, Hid (lo = if mid < m then mid + m - b else a) := ⟨_, rfl⟩
    obtain ⟨hi, HHI⟩ : ∃ hi, Hid (hi = if mid < m then mid else m) := ⟨_, rfl⟩
    have HLH : Hid (lo ≤ hi ∧ a ≤ lo ∧ hi ≤ m ∧ hi ≤ mid ∧ mid + m - lo ≤ b ∧ (lo = a ∨ mid + m - lo = b) ∧ (hi = m ∨ hi = mid) ∧ lo ≤ mid + m) := by
      have q1 := HLO.out
      have q2 := HHI.out
      have q3 := HM2.out
      by_cases q : mid < m
      · rw [if_pos q] at q1 q2; refine ⟨by omega, by omega, by omega, by omega, by omega, .inr (by omega), .inr q2, by omega⟩
      · rw [if_neg q] at q1 q2; refine ⟨by omega, by omega, by omega, by omega, by omega, .inl q1, .inl q2, by omega⟩
    obtain ⟨p, HP⟩ : ∃ p, Hid (p = nn - 1) := ⟨_, rfl⟩
    have hnn1 : 1 ≤ nn := by have := HNN.out; omega
    have hnnN : nn ≤ 2097152 := by have := HNN.out; omega
    have f7 : IntKind.i64.wrap ((nn : Int) - 1) = (p : Int) := by rw [IntKind.wrap_i64]; have := HP.out; omega
    clear h hk hd hlr hL hR ih hkk hone htwo
    go_enter Try.func53, Try.ntmps53
    go_upto_if 140 with fail
    go_cut [20, 21, 141, 142, 143, 144, 145, 146] (fun vs vr _ _ _ _ _ _ wx => wx = w ∧ vs = .int .i64 (lo : Int) ∧ vr = .int .i64 (hi : Int))
    case first =>
      as_aux_lemma =>
        by_cases q : mid < m
        · have d1 : decide ((mid : Int) < (m : Int)) = true := decide_eq_true (by omega)
          have d2 : decide (mid < m) = true := decide_eq_true q
          have d3 : IntKind.i64.wrap ((nn : Int) - (b : Int)) = (lo : Int) := by rw [IntKind.wrap_i64]; have q1 := HLO.out; rw [if_pos q] at q1; have := HNN.out; have := HM2.out; omega
          have HE : Hid (hi = mid) := by show _ = _; rw [HHI.out, if_pos q]
          go_wp2_with fail
          go_meet
          case rel => exact ⟨rfl, rfl, by rw [HE.out]⟩
        · have d1 : decide ((mid : Int) < (m : Int)) = false := decide_eq_false (by omega)
          have d2 : decide (mid < m) = false := decide_eq_false q
          have HE : Hid (hi = m) := by show _ = _; rw [HHI.out, if_neg q]
          have HE2 : Hid (lo = a) := by show _ = _; rw [HLO.out, if_neg q]
          go_wp2_with fail
          go_meet
          case rel => exact ⟨rfl, by rw [HE2.out], by rw [HE.out]⟩
    case rest =>
      as_aux_lemma =>
        obtain ⟨hw, hs1, hs2⟩ := hcut
        subst hs1 hs2
        rw [hw]
        clear hw HLO HHI
        go_wp2
        go_loopw [20, 21, 23] (fun vs vr _ wr => ∃ s r : Nat, vs = .int .i64 (s : Int) ∧ vr = .int .i64 (r : Int) ∧ lo ≤ s ∧ s ≤ r ∧ r ≤ hi ∧ Hid (s = lo ∨ ltK K (d (s - 1)) (d (nn - s))) ∧ Hid (r = hi ∨ ltK K (d (nn - 1 - r)) (d r)) ∧ Hid (Rw w g N d wr)) (fun vs vr _ _ => (intOf vr).toNat - (intOf vs).toNat)
        case atStart => exact ⟨lo, hi, rfl, rfl, Nat.le_refl _, HLH.out.1, Nat.le_refl _, .inl rfl, .inl rfl, H0⟩
        case round =>
          as_aux_lemma =>
            obtain ⟨s, r, rfl, rfl, hls, hsr, hrh, HA, HB, HR⟩ := hrel
            have hi1 : hi ≤ m := HLH.out.2.2.1
            have hi2 : hi ≤ mid := HLH.out.2.2.2.1
            have hi3 : a ≤ lo := HLH.out.2.1
            by_cases hlt : s < r
            · have i1 : (s : Int) < (r : Int) := by omega
              obtain ⟨t, HT⟩ : ∃ t, Hid (t = s + r) := ⟨_, rfl⟩
              have s1 : IntKind.i64.wrap ((s : Int) + (r : Int)) = (t : Int) := by rw [IntKind.wrap_i64]; have := HT.out; omega
              obtain ⟨cc, HC⟩ : ∃ cc, Hid (cc = t / 2) := ⟨_, rfl⟩
              have s2 : IntKind.u64.wrap (t : Int) = (t : Int) := by rw [IntKind.wrap_u64]; have := HT.out; omega
              have s3 : (t : Int) / 2 = (cc : Int) := by have := HC.out; omega
              have hsc : s ≤ cc := by have := HC.out; have := HT.out; omega
              have hcr : cc < r := by have := HC.out; have := HT.out; omega
              have s4 : IntKind.u64.wrap (cc : Int) = (cc : Int) := by rw [IntKind.wrap_u64]; omega
              have s5 : IntKind.i64.wrap (cc : Int) = (cc : Int) := by rw [IntKind.wrap_i64]; omega
              obtain ⟨pc, HPC⟩ : ∃ pc, Hid (pc = nn - 1 - cc) := ⟨_, rfl⟩
              have hpcm : m ≤ pc := by have := HPC.out; have := HNN.out; omega
              have hpcb : pc < b := by have := HPC.out; have := HNN.out; have := HLH.out.2.2.2.2.1; omega
              have s6 : IntKind.i64.wrap ((p : Int) - (cc : Int)) = (pc : Int) := by rw [IntKind.wrap_i64]; have := HPC.out; have := HP.out; have := HNN.out; omega
              have c1 := HR.out.row.cell (i := pc) (by omega)
              have c2 := HR.out.row.cell (i := cc) (by omega)
              have HCC : Hid (∀ q, Calls Try.prog 48 #[.int .i64 ((d pc : Nat) : Int), .int .i64 ((d cc : Nat) : Int), .pointer (some ⟨bx, 0, none⟩)] (wr.drewN q) fun e w' => e = .returned (.int .i64 (cmpV (K (d pc)) (K (d cc)))) ∧ ∃ m, w' = (wr.drewN q).drewN m) := fun q => cmpD_q (HK.out.rw HR.out h1 h2) (HD.out pc (by omega)) (HD.out cc (by omega)) q
              have hcn := cmpV_neg (K (d pc)) (K (d cc))
              generalize hrr : cmpV (K (d pc)) (K (d cc)) = rr at HCC hcn
              clear hrr
              have g0 : (0 : Int) ≤ (pc : Int) := by omega
              have g1 : (pc : Int) < (N : Int) := by omega
              have g2 : (0 : Int) ≤ (cc : Int) := by omega
              have g3 : (cc : Int) < (N : Int) := by omega
              by_cases hKlt : K (d pc) < K (d cc)
              · as_aux_lemma =>
                  have r1 : rr < 0 := hcn.2 hKlt
                  have r2 : decide (rr < 0) = true := decide_eq_true r1
                  have HB2 : Hid (cc = hi ∨ ltK K (d (nn - 1 - cc)) (d cc)) := .inr (by rw [← HPC.out]; exact .inl hKlt)
                  clear hcn hKlt HB
                  go_wp2
                  go_quiet (exact Calls.quiet_of (HCC.out _))
                  go_wp2
                  go_roundw
                  case rel => exact ⟨s, cc, rfl, rfl, hls, hsc, by omega, HA, HB2, HR.out.drewN _⟩
                  case measure => simp [intOf]; omega
              · as_aux_lemma =>
                  have r1 : ¬ rr < 0 := fun q => hKlt (hcn.1 q)
                  have r2 : decide (rr < 0) = false := decide_eq_false r1
                  have HA2 : Hid (cc + 1 = lo ∨ ltK K (d (cc + 1 - 1)) (d (nn - (cc + 1)))) := .inr (by
                    rw [Nat.add_sub_cancel, show nn - (cc + 1) = pc by have := HPC.out; omega]
                    exact ltK_of (HLR.out cc pc (by omega) (by omega) hpcm hpcb) hKlt)
                  clear hcn hKlt HA
                  go_wp2
                  go_quiet (exact Calls.quiet_of (HCC.out _))
                  go_wp2
                  go_roundw
                  case rel => exact ⟨cc + 1, r, by go_num, rfl, by omega, by omega, hrh, HA2, HB, HR.out.drewN _⟩
                  case measure => simp [intOf]; omega
            · obtain rfl : s = r := by omega
              have hnl : ¬ ((s : Int) < (s : Int)) := by omega
              obtain ⟨en, HEN⟩ : ∃ en, Hid (en = nn - s) := ⟨_, rfl⟩
              have t1 : IntKind.i64.wrap ((nn : Int) - (s : Int)) = (en : Int) := by rw [IntKind.wrap_i64]; have := HEN.out; have := HNN.out; omega
              have HEM : Hid (en = mid + m - s) := by show _ = _; rw [HEN.out, HNN.out]
              have HCUT : Hid (Cut K d a m b mid s) := by
                have k1 := HLH.out
                refine ⟨by omega, by omega, by omega, by omega, fun q1 q2 => ?_, fun q1 q2 => ?_⟩
                · rcases HA.out with e | e
                  · exfalso; have := k1.2.2.2.2.2.1; omega
                  · rw [HNN.out] at e; exact e
                · rcases HB.out with e | e
                  · exfalso; have := k1.2.2.2.2.2.2.1; omega
                  · rw [HNN.out] at e; exact e
              have hen1 : m ≤ en := by have := HEM.out; omega
              have hen2 : en ≤ b := by have := HEM.out; have := HCUT.out.eb; omega
              have hen3 : mid ≤ en := by have := HEM.out; omega
              have HPT := hidd (HCUT.out.parts (by omega) (by omega) HSL.out HSR.out)
              rw [← HEM.out] at HPT
              have HRF : Hid (Fr d (rot d s m en) a b) := (rot_fr d (by omega) hen1).wide (by omega) hen2
              have HDR : Hid (∀ i, i < N → rot d s m en i < M) := fun i hi => by
                by_cases q : a ≤ i ∧ i < b
                · obtain ⟨j, _, j2, ej⟩ := HRF.out.inn i q.1 q.2; rw [ej]; exact HD.out j (by omega)
                · rw [HRF.out.out i (by omega)]; exact HD.out i hi
              have HLF := hidd (HCUT.out.left HLR.out)
              have HRG := hidd (HCUT.out.right HLR.out)
              rw [← HEM.out] at HLF HRG
              have HWH : Hid (∀ f1 f2 : Nat → Nat, Fr (rot d s m en) f1 a mid → Srt K f1 a mid → Fr f1 f2 mid b → Srt K f2 mid b → Fr d f2 a b ∧ Srt K f2 a b) := fun f1 f2 q1 q2 q3 q4 => by rw [HEM.out] at q1; exact HCUT.out.whole (by omega) (by omega) HSL.out HSR.out q1 q2 q3 q4
              have hsm : s ≤ m := by omega
              have hsmid : s ≤ mid := by omega
              have has : a ≤ s := by omega
              clear HA HB HCUT HLH HLR HSL HSR HNN HEN HMD HS0 HM2 HP HZ1 HZ2
              rename World => wA
              obtain ⟨tb, HTB⟩ : ∃ t, Hid (t = decide (s < m ∧ m < en)) := ⟨_, rfl⟩
              go_upto_region 39 with fail
              go_cut [178, 179, 180, 181, 182, 183, 184, 185] (fun _ _ _ _ _ _ _ vt wx => wx = wA ∧ vt = .bool tb)
              case first =>
                as_aux_lemma =>
                  by_cases q1 : s < m
                  · have d1 : decide ((s : Int) < (m : Int)) = true := decide_eq_true (by omega)
                    have d2 : decide (s < m) = true := decide_eq_true q1
                    by_cases q2 : m < en
                    · have d4 : decide ((m : Int) < (en : Int)) = true := decide_eq_true (by omega)
                      have d5 : decide (m < en) = true := decide_eq_true q2
                      have ht : tb = true := by rw [HTB.out]; exact decide_eq_true ⟨q1, q2⟩
                      clear HTB
                      subst ht
                      go_wp2_with fail
                      go_meet
                      case rel => exact ⟨rfl, rfl⟩
                    · have d4 : decide ((m : Int) < (en : Int)) = false := decide_eq_false (by omega)
                      have d5 : decide (m < en) = false := decide_eq_false q2
                      have ht : tb = false := by rw [HTB.out]; exact decide_eq_false (fun q => q2 q.2)
                      clear HTB
                      subst ht
                      go_wp2_with fail
                      go_meet
                      case rel => exact ⟨rfl, rfl⟩
                  · have d1 : decide ((s : Int) < (m : Int)) = false := decide_eq_false (by omega)
                    have d2 : decide (s < m) = false := decide_eq_false q1
                    have ht : tb = false := by rw [HTB.out]; exact decide_eq_false (fun q => q1 q.1)
                    clear HTB
                    subst ht
                    go_wp2_with fail
                    go_meet
                    case rel => exact ⟨rfl, rfl⟩
              case rest =>
                as_aux_lemma =>
                  obtain ⟨hw, hv⟩ := hcut
                  subst hv
                  rw [hw]
                  clear hw
                  go_upto_if 185 with fail
                  go_cut [186, 187, 188, 189, 190, 191] (fun _ _ _ _ _ _ wx => Hid (Rw w g N (rot d s m en) wx))
                  case first =>
                    as_aux_lemma =>
                      cases tb with
                      | true =>
                        as_aux_lemma =>
                          have hq : s < m ∧ m < en := of_decide_eq_true HTB.out.symm
                          have HRT := hidd (rotate_any (c := c) HR.out.row hN hq.1 hq.2 (by omega) (.func (.func 48) #[] #[.pointer (some ⟨bx, 0, none⟩)]))
                          clear HTB hq
                          go_wp2_with fail
                          refine HRT.out.mono ?_
                          rintro e w2 ⟨rfl, h2'⟩
                          have HR2 := hidd (HR.out.trans h2')
                          clear h2' HRT
                          go_wp2_with fail
                          go_meet
                          case rel => exact HR2
                      | false =>
                        as_aux_lemma =>
                          have hq : ¬ (s < m ∧ m < en) := of_decide_eq_false HTB.out.symm
                          have HR2 : Hid (Rw w g N (rot d s m en) wA) := by rw [rot_id (by omega) hen1]; exact HR
                          clear HTB hq
                          go_wp2_with fail
                          go_meet
                          case rel => exact HR2
                  case rest =>
                    as_aux_lemma =>
                      rename World => wB
                      have HR2 : Hid (Rw w g N (rot d s m en) wB) := hcut
                      clear hcut HR HTB
                      have HK2 := hidd (HK.out.rw HR2.out h1 h2)
                      obtain ⟨tc, HTC⟩ : ∃ t, Hid (t = decide (a < s ∧ s < mid)) := ⟨_, rfl⟩
                      go_upto_region 41 with fail
                      go_cut [192, 193, 194, 195, 196, 197, 198, 199] (fun _ _ _ _ _ _ _ vt wx => wx = wB ∧ vt = .bool tc)
                      case first =>
                        as_aux_lemma =>
                          by_cases q1 : a < s
                          · have d1 : decide ((a : Int) < (s : Int)) = true := decide_eq_true (by omega)
                            have d2 : decide (a < s) = true := decide_eq_true q1
                            by_cases q2 : s < mid
                            · have d4 : decide ((s : Int) < (mid : Int)) = true := decide_eq_true (by omega)
                              have d5 : decide (s < mid) = true := decide_eq_true q2
                              have ht : tc = true := by rw [HTC.out]; exact decide_eq_true ⟨q1, q2⟩
                              clear HTC
                              subst ht
                              go_wp2_with fail
                              go_meet
                              case rel => exact ⟨rfl, rfl⟩
                            · have d4 : decide ((s : Int) < (mid : Int)) = false := decide_eq_false (by omega)
                              have d5 : decide (s < mid) = false := decide_eq_false q2
                              have ht : tc = false := by rw [HTC.out]; exact decide_eq_false (fun q => q2 q.2)
                              clear HTC
                              subst ht
                              go_wp2_with fail
                              go_meet
                              case rel => exact ⟨rfl, rfl⟩
                          · have d1 : decide ((a : Int) < (s : Int)) = false := decide_eq_false (by omega)
                            have d2 : decide (a < s) = false := decide_eq_false q1
                            have ht : tc = false := by rw [HTC.out]; exact decide_eq_false (fun q => q1 q.1)
                            clear HTC
                            subst ht
                            go_wp2_with fail
                            go_meet
                            case rel => exact ⟨rfl, rfl⟩
                      case rest =>
                        as_aux_lemma =>
                          obtain ⟨hw, hv⟩ := hcut
                          subst hv
                          rw [hw]
                          clear hw
                          go_upto_if 199 with fail
                          go_cut [200, 201, 202, 203, 204, 205] (fun _ _ _ _ _ _ wx => ∃ f1, Hid (Rw w g N f1 wx) ∧ Hid (Fr (rot d s m en) f1 a mid) ∧ Hid (Srt K f1 a mid))
                          case first =>
                            as_aux_lemma =>
                              cases tc with
                              | true =>
                                as_aux_lemma =>
                                  have hq : a < s ∧ s < mid := of_decide_eq_true HTC.out.symm
                                  have HSM := hidd (HIH.out (mid - a) (by have := HKK.out; omega) a s mid rfl hq.1 hq.2 (by omega) HR2.out.row HK2.out HDR.out HLF.out HPT.out.1 HPT.out.2.1)
                                  clear HTC hq
                                  go_wp2_with fail
                                  refine HSM.out.mono ?_
                                  rintro e w2 ⟨rfl, f1, k1, k2, k3⟩
                                  have HR3 := hidd (HR2.out.trans k1)
                                  have HF3 := hidd k2
                                  have HS3 := hidd k3
                                  clear k1 k2 k3 HSM
                                  go_wp2_with fail
                                  go_meet
                                  case rel => exact ⟨f1, HR3, HF3, HS3⟩
                              | false =>
                                as_aux_lemma =>
                                  have hq : ¬ (a < s ∧ s < mid) := of_decide_eq_false HTC.out.symm
                                  have HS3 : Hid (Srt K (rot d s m en) a mid) := by
                                    by_cases q1 : a < s
                                    · have e : mid = s := by omega
                                      rw [e]; exact HPT.out.1
                                    · exact HPT.out.2.1.sub (by omega) (Nat.le_refl _)
                                  clear HTC hq
                                  go_wp2_with fail
                                  go_meet
                                  case rel => exact ⟨_, HR2, Fr.refl _ _ _, HS3⟩
                          case rest =>
                            as_aux_lemma =>
                              rename World => wC
                              obtain ⟨f1, HR3, HF3, HS3⟩ := hcut
                              clear HTC
                              have HK3 := hidd (HK.out.rw HR3.out h1 h2)
                              have HO3 : Hid (∀ u, mid ≤ u → f1 u = rot d s m en u) := fun u hu => HF3.out.out u (by omega)
                              have HD3 : Hid (∀ i, i < N → f1 i < M) := fun i hi => by
                                by_cases q : a ≤ i ∧ i < mid
                                · obtain ⟨j, _, j2, ej⟩ := HF3.out.inn i q.1 q.2; rw [ej]; exact HDR.out j (by omega)
                                · rw [HF3.out.out i (by omega)]; exact HDR.out i hi
                              have HL3 : Hid (Srt K f1 mid en) := HPT.out.2.2.1.congr (fun u u1 u2 => HO3.out u u1)
                              have HE3 : Hid (Srt K f1 en b) := HPT.out.2.2.2.1.congr (fun u u1 u2 => HO3.out u (by omega))
                              obtain ⟨td, HTD⟩ : ∃ t, Hid (t = decide (mid < en ∧ en < b)) := ⟨_, rfl⟩
                              go_upto_region 43 with fail
                              go_cut [206, 207, 208, 209, 210, 211, 212, 213] (fun _ _ _ _ _ _ _ vt wx => wx = wC ∧ vt = .bool td)
                              case first =>
                                as_aux_lemma =>
                                  by_cases q1 : mid < en
                                  · have d1 : decide ((mid : Int) < (en : Int)) = true := decide_eq_true (by omega)
                                    have d2 : decide (mid < en) = true := decide_eq_true q1
                                    by_cases q2 : en < b
                                    · have d4 : decide ((en : Int) < (b : Int)) = true := decide_eq_true (by omega)
                                      have d5 : decide (en < b) = true := decide_eq_true q2
                                      have ht : td = true := by rw [HTD.out]; exact decide_eq_true ⟨q1, q2⟩
                                      clear HTD
                                      subst ht
                                      go_wp2_with fail
                                      go_meet
                                      case rel => exact ⟨rfl, rfl⟩
                                    · have d4 : decide ((en : Int) < (b : Int)) = false := decide_eq_false (by omega)
                                      have d5 : decide (en < b) = false := decide_eq_false q2
                                      have ht : td = false := by rw [HTD.out]; exact decide_eq_false (fun q => q2 q.2)
                                      clear HTD
                                      subst ht
                                      go_wp2_with fail
                                      go_meet
                                      case rel => exact ⟨rfl, rfl⟩
                                  · have d1 : decide ((mid : Int) < (en : Int)) = false := decide_eq_false (by omega)
                                    have d2 : decide (mid < en) = false := decide_eq_false q1
                                    have ht : td = false := by rw [HTD.out]; exact decide_eq_false (fun q => q1 q.1)
                                    clear HTD
                                    subst ht
                                    go_wp2_with fail
                                    go_meet
                                    case rel => exact ⟨rfl, rfl⟩
                              case rest =>
                                as_aux_lemma =>
                                  obtain ⟨hw, hv⟩ := hcut
                                  subst hv
                                  rw [hw]
                                  clear hw
                                  cases td with
                                  | true =>
                                    as_aux_lemma =>
                                      have hq : mid < en ∧ en < b := of_decide_eq_true HTD.out.symm
                                      have HSM := hidd (HIH.out (b - mid) (by have := HKK.out; omega) mid en b rfl hq.1 hq.2 (by omega) HR3.out.row HK3.out HD3.out (fun u v u1 u2 v1 v2 => by rw [HO3.out u u1, HO3.out v (by omega)]; exact HRG.out u v u1 u2 v1 v2) HL3.out HE3.out)
                                      clear HTD hq
                                      go_wp2_with fail
                                      refine HSM.out.mono ?_
                                      rintro e w2 ⟨rfl, f2, k1, k2, k3⟩
                                      have HEND : Hid (Rw w g N f2 w2 ∧ Fr d f2 a b ∧ Srt K f2 a b) := ⟨HR3.out.trans k1, HWH.out f1 f2 HF3.out HS3.out k2 k3⟩
                                      clear k1 k2 k3 HSM
                                      go_wp2
                                      go_end0
                                      exact ⟨rfl, f2, HEND.out⟩
                                  | false =>
                                    as_aux_lemma =>
                                      have hq : ¬ (mid < en ∧ en < b) := of_decide_eq_false HTD.out.symm
                                      have HEND : Hid (Fr d f1 a b ∧ Srt K f1 a b) := by
                                        by_cases q1 : mid < en
                                        · exact HWH.out f1 f1 HF3.out HS3.out (Fr.refl _ _ _) (HL3.out.sub (Nat.le_refl _) (by omega))
                                        · exact HWH.out f1 f1 HF3.out HS3.out (Fr.refl _ _ _) (HE3.out.sub (by omega) (Nat.le_refl _))
                                      clear HTD hq
                                      go_wp2
                                      go_end0
                                      exact ⟨rfl, f1, HR3.out, HEND.out.1, HEND.out.2⟩
end Go.Proofs.Ytakekdbclmgeoaa.Cl
