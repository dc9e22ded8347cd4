import Derived.Test.YtakekdbclmgeoaaClSrC
namespace Go.Proofs.Ytakekdbclmgeoaa.Cl
open Go.RowKit
/-! The insertion sort. -/
theorem NdK.rw {w wr : World} {bx M : Nat} {K : Nat → Int} {nb o c g N : Nat} {d : Nat → Nat} (h : NdK w bx M K nb o c) (k : Rw w g N d wr) (h1 : bx ≠ g) (h2 : nb ≠ g) : NdK wr bx M K nb o c := by
  have e : ∀ b p, b ≠ g → wr.cell? ⟨b, p, none⟩ = w.cell? ⟨b, p, none⟩ := fun b p hb => by unfold World.cell?; simp only [k.blk b hb]
  exact ⟨(e bx _ h1).trans h.box, fun i hi => (e nb _ h2).trans (h.at_ i hi)⟩
theorem NdK.drewN {w : World} {bx M : Nat} {K : Nat → Int} {nb o c : Nat} (h : NdK w bx M K nb o c) (q : Nat) : NdK (w.drewN q) bx M K nb o c := ⟨h.box, h.at_⟩
/-- the comparison, wherever draws have been -/
theorem cmpD_q {w : World} {bx n : Nat} {K : Nat → Int} {nb o c : Nat} (h : NdK w bx n K nb o c) {x y : Nat} (hx : x < n) (hy : y < n) (q : Nat) :
    Calls Try.prog 48 #[.int .i64 (x : Int), .int .i64 (y : Int), .pointer (some ⟨bx, 0, none⟩)] (w.drewN q) fun e w' => e = .returned (.int .i64 (cmpV (K x) (K y))) ∧ ∃ m, w' = (w.drewN q).drewN m := cmpD_any (h.drewN q) hx hy
set_option maxRecDepth 20000 in
set_option maxHeartbeats 4000000 in
theorem insert_any {w : World} {g N c : Nat} {d : Nat → Nat} {bx M : Nat} {K : Nat → Int} {nb o nc : Nat} {a b : Nat} (h : w.rowIs g 3 N (fun i => .int .i64 ((d i : Nat) : Int))) (hN : N ≤ 1048576) (hk : NdK w bx M K nb o nc) (h1 : bx ≠ g) (h2 : nb ≠ g) (hab : a ≤ b) (hbN : b ≤ N) (hd : ∀ i, i < N → d i < M) (hord : ∀ u v, a ≤ u → u < v → v < b → d u < d v) :
    Calls Try.prog 52 #[.slice (some ⟨g, 0, none⟩) N c, .int .i64 (a : Int), .int .i64 (b : Int), .func (.func 48) #[] #[.pointer (some ⟨bx, 0, none⟩)]] w fun e w' => e = .returned (.tuple #[]) ∧ ∃ d', Rw w g N d' w' ∧ Fr d d' a b ∧ Srt K d' a b := by
  have H0 := hidd (Rw.start h)
  have HK := hidd hk
  have HD := hidd hd
  have HO := hidd hord
  clear h hk hd hord
  have e1 : IntKind.i64.wrap ((a : Int) + 1) = ((a + 1 : Nat) : Int) := by rw [IntKind.wrap_i64]; omega
  go_enter Try.func52, Try.ntmps52
  go_wp2
  go_loopw [8, 9] (fun vi _ wr => ∃ (i : Nat) (f : Nat → Nat), vi = .int .i64 (i : Int) ∧ a + 1 ≤ i ∧ (i ≤ b ∨ i = a + 1) ∧ Hid (Fr d f a i) ∧ Hid (Srt K f a i) ∧ Hid (Rw w g N f wr)) (fun vi _ _ => b - (intOf vi).toNat)
  case atStart => exact ⟨a + 1, d, (by first | rfl | simp), Nat.le_refl _, .inr rfl, Fr.refl _ _ _, (fun u v h3 h4 h5 => absurd h4 (by omega)), H0⟩
  case round =>
    obtain ⟨i, f, rfl, hai, hib, HF, HS, HR⟩ := hrel
    by_cases hlt : i < b
    · have i1 : (i : Int) < (b : Int) := by omega
      have HFI : Hid (f i = d i) := HF.out.out i (by omega)
      go_wp2
      go_loopw [9] (fun vj wx => ∃ j : Nat, vj = .int .i64 (j : Int) ∧ a ≤ j ∧ j ≤ i ∧ Hid (∀ t, j ≤ t → t < i → ltK K (f i) (f t)) ∧ Hid (Rw w g N (dnD f j i) wx)) (fun vj _ => (intOf vj).toNat)
      case atStart => exact ⟨i, rfl, by omega, Nat.le_refl _, (fun t h3 h4 => absurd h4 (by omega)), by rw [dnD_zero]; exact HR⟩
      case round =>
        obtain ⟨j, rfl, haj, hji, HL, HRj⟩ := hrel
        by_cases hja : a < j
        · have g1 : decide ((a : Int) < (j : Int)) = true := decide_eq_true (by omega)
          have g2 : decide (a < j) = true := decide_eq_true hja
          have g3 : (a : Int) < (j : Int) := by omega
          have s1 : IntKind.i64.wrap ((j : Int) - 1) = ((j - 1 : Nat) : Int) := by rw [IntKind.wrap_i64]; omega
          obtain ⟨j', HJ⟩ : ∃ j', Hid (j' = j - 1) := ⟨_, rfl⟩
          rw [← HJ.out] at s1
          have hj' : j' < j := by have := HJ.out; omega
          have haj' : a ≤ j' := by have := HJ.out; omega
          have c1 := HRj.out.row.cell (i := j) (by omega)
          have c2 := HRj.out.row.cell (i := j') (by omega)
          have q1 : dnD f j i j = f i := by unfold dnD; rw [if_neg (by omega), if_pos rfl]
          have q2 : dnD f j i j' = f j' := by unfold dnD; rw [if_neg (by omega), if_neg (by omega)]
          rw [q1] at c1
          rw [q2] at c2
          have hxM : f i < M := by rw [HFI.out]; exact HD.out i (by omega)
          have HYX : Hid (f j' < f i ∧ f j' < M) := by
            obtain ⟨t, t1, t2, t3⟩ := HF.out.inn j' haj' (by omega)
            rw [t3, HFI.out]
            exact ⟨HO.out t i t1 t2 hlt, HD.out t (by omega)⟩
          have HCC : Hid (∀ q, Calls Try.prog 48 #[.int .i64 ((f i : Nat) : Int), .int .i64 ((f j' : Nat) : Int), .pointer (some ⟨bx, 0, none⟩)] (wr.drewN q) fun e w' => e = .returned (.int .i64 (cmpV (K (f i)) (K (f j')))) ∧ ∃ m, w' = (wr.drewN q).drewN m) := fun q => cmpD_q (HK.out.rw HRj.out h1 h2) hxM HYX.out.2 q
          have hcn := cmpV_neg (K (f i)) (K (f j'))
          generalize hrr : cmpV (K (f i)) (K (f j')) = r at HCC hcn
          clear hrr
          by_cases hKlt : K (f i) < K (f j')
          · have r1 : r < 0 := hcn.2 hKlt
            have r2 : decide (r < 0) = true := decide_eq_true r1
            have HL2 : Hid (∀ t, j' ≤ t → t < i → ltK K (f i) (f t)) := fun t t1 t2 => by
              by_cases e : t = j'
              · rw [e]; exact .inl hKlt
              · exact HL.out t (by have := HJ.out; omega) t2
            have g4 : (0 : Int) ≤ (j : Int) := by omega
            have g5 : (j : Int) < (N : Int) := by omega
            have g6 : (0 : Int) ≤ (j' : Int) := by omega
            have g7 : (j' : Int) < (N : Int) := by omega
            have HQ1 := hidd q1
            have HQ2 := hidd q2
            have fr := HRj.out.row.frozen
            clear q1 q2 hcn hKlt HL HYX
            generalize hu : f i = u at c1 HCC HQ1 HL2
            generalize hv : f j' = v at c2 HCC HQ2
            have HU := hidd hu
            clear hu hv
            go_wp2
            go_quiet (exact Calls.quiet_of (HCC.out _))
            obtain ⟨wB, hwB⟩ : ∃ wB, wB = wr.drewN nq := ⟨_, rfl⟩
            have HR2 : Hid (Rw w g N (dnD f j i) wB) := by rw [hwB]; exact HRj.out.drewN nq
            rw [← hwB]
            have d1 : wB.cell? ⟨g, j, none⟩ = some (.int .i64 (u : Int)) := by rw [hwB]; exact c1
            have d2 : wB.cell? ⟨g, j', none⟩ = some (.int .i64 (v : Int)) := by rw [hwB]; exact c2
            have fr2 := HR2.out.row.frozen
            clear hwB c1 c2 fr HRj HCC
            go_wp2
            go_region
            all_goals
              have HSW : Hid (Rw w g N (dnD f j' i) (((wB.setCell ⟨g, j, none⟩ (.int .i64 (v : Int))).setCell ⟨g, j', none⟩ (.int .i64 (u : Int))).drew)) := HR2.out.swap HQ1.out HQ2.out (fun t => by have := dnD_step f (k := j') (m := i) (by omega) t; rw [show j' + 1 = j by have := HJ.out; omega] at this; exact this)
              go_wp2
              go_roundw
              case rel => exact ⟨j', rfl, haj', by omega, HL2, HSW⟩
              case measure => simp [intOf]; omega
          · have r1 : ¬ r < 0 := fun q => hKlt (hcn.1 q)
            have r2 : decide (r < 0) = false := decide_eq_false r1
            have HEF : Hid (Fr d (dnD f j i) a (i + 1)) := (HF.out.wide (Nat.le_refl _) (by omega)).trans (dnD_fr f haj hji (by omega))
            have HES : Hid (Srt K (dnD f j i) a (i + 1)) := by
              refine dnD_srt haj hji HS.out (fun t t1 t2 => ?_) HL.out
              have k1 := ltK_of (K := K) HYX.out.1 hKlt
              by_cases e : t = j'
              · rw [e]; exact k1
              · exact (HS.out t j' t1 (by have := HJ.out; omega) (by omega)).trans k1
            clear q1 q2 hcn hKlt HYX
            go_wp2
            go_quiet (exact Calls.quiet_of (HCC.out _))
            go_wp2
            go_roundw
            case rel => exact ⟨i + 1, _, by go_num, by omega, .inl (by omega), HEF, HES, HRj.out.drewN _⟩
            case measure => simp [intOf]; omega
        · obtain rfl : j = a := by omega
          have g1 : decide ((j : Int) < (j : Int)) = false := decide_eq_false (by omega)
          have g3 : ¬ ((j : Int) < (j : Int)) := by omega
          have HEF : Hid (Fr d (dnD f j i) j (i + 1)) := (HF.out.wide (Nat.le_refl _) (by omega)).trans (dnD_fr f (Nat.le_refl _) hji (by omega))
          have HES : Hid (Srt K (dnD f j i) j (i + 1)) := dnD_srt (Nat.le_refl _) hji HS.out (fun t h3 h4 => absurd h4 (by omega)) HL.out
          go_wp2
          go_quiet (fail)
          go_wp2
          go_roundw
          case rel => exact ⟨i + 1, _, by go_num, by omega, .inl (by omega), HEF, HES, HRj.out.drewN _⟩
          case measure => simp [intOf]; omega
    · have hnl : ¬ ((i : Int) < (b : Int)) := by omega
      have HEN : Hid (Fr d f a b ∧ Srt K f a b) := by
        by_cases e : i = b
        · subst e; exact ⟨HF.out, HS.out⟩
        · have : b ≤ a + 1 := by omega
          refine ⟨⟨fun t ht => ?_, fun t t1 t2 => ?_⟩, fun u v u1 u2 u3 => absurd u3 (by omega)⟩
          · by_cases q : t < a ∨ i ≤ t
            · exact HF.out.out t q
            · obtain ⟨s, s1, s2, s3⟩ := HF.out.inn t (by omega) (by omega)
              rw [s3]; congr 1; omega
          · obtain ⟨s, s1, s2, s3⟩ := HF.out.inn t t1 (by omega)
            exact ⟨t, t1, t2, by rw [s3]; congr 1; omega⟩
      go_wp2
      go_end0
      exact ⟨rfl, f, HR.out, HEN.out.1, HEN.out.2⟩
end Go.Proofs.Ytakekdbclmgeoaa.Cl
