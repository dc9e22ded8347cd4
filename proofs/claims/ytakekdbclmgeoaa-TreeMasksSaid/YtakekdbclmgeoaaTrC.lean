import Derived.Test.YtakekdbclmgeoaaTrB
namespace Go.Proofs.Ytakekdbclmgeoaa
open Go.RowKit
/-! fits, Check. -/
def okAt (i : Nat) (P T D : Nat → Int) (p t d : Int) : Prop := 0 ≤ p ∧ p < (i : Int) ∧ 1 ≤ t ∧ d = IntKind.i64.wrap (D p.toNat + 1) ∧ D (i - 1) ≤ d ∧ ∀ k, 1 ≤ k → k < i → ¬ (P k = p ∧ T k = t)
def okN (P T D : Nat → Int) (i : Nat) : Prop := okAt i P T D (P i) (T i) (D i)
def okT (n : Nat) (P T D : Nat → Int) : Prop := 1 ≤ n ∧ n ≤ 32 ∧ P 0 = -1 ∧ D 0 = 0 ∧ ∀ i, 1 ≤ i → i < n → okN P T D i
open Classical in
noncomputable def erT (n : Nat) (P T D : Nat → Int) : Int := if okT n P T D then 0 else 140
theorem erT_ok {n : Nat} {P T D : Nat → Int} (h : okT n P T D) : erT n P T D = 0 := if_pos h
theorem erT_bad {n : Nat} {P T D : Nat → Int} (h : ¬ okT n P T D) : erT n P T D = 140 := if_neg h
theorem amg_iff {i : Nat} {P T D : Nat → Int} {p t d : Int} (h0 : P 0 = -1) (hpre : ∀ k, 1 ≤ k → k < i → okN P T D k) (hp : 0 ≤ p) (hd : d = IntKind.i64.wrap (D p.toNat + 1)) : Amg i P T D p t d ↔ ∃ k, 1 ≤ k ∧ k < i ∧ P k = p ∧ T k = t := by
  constructor
  · rintro ⟨k, h1, h2, h3, _⟩
    refine ⟨k, ?_, h1, h2, h3⟩
    by_cases e : k = 0
    · rw [e, h0] at h2; omega
    · omega
  · rintro ⟨k, h1, h2, h3, h4⟩
    refine ⟨k, h2, h3, h4, ?_⟩
    rw [(hpre k h1 h2).2.2.2.1, h3, hd]
set_option maxRecDepth 20000 in
set_option maxHeartbeats 1600000 in
theorem fits_any {w : World} {ao : Option Addr} {i cap : Nat} {P T D : Nat → Int} (h : RdA w ao 3 i cap (nds P T D)) (hi : 1 ≤ i) (h0 : P 0 = -1) (hpre : ∀ k, 1 ≤ k → k < i → okN P T D k) (p t d : Int) {r : Bool} (hr : r = true ↔ okAt i P T D p t d) :
    Calls Try.prog 30 #[.slice ao i cap, .agg #[.int .i64 p, .int .i64 t, .int .i64 d]] w fun e w' => e = .returned (.bool r) ∧ Below w.heap.size w w' := by
  have hn : i ≤ 9223372036854775807 := by have := h.le; have := h.top; unfold maxLen at this; omega
  obtain ⟨c1, c2, c3⟩ := box3 w p t d 54
  have HH := hidd (h.fresh (fresh_alloc w (.cells #[.int .i64 p, .int .i64 t, .int .i64 d] 54)))
  obtain ⟨w0, HW0⟩ : ∃ w0, Hid (w0 = w.alloc (.cells #[.int .i64 p, .int .i64 t, .int .i64 d] 54)) := ⟨_, rfl⟩
  have HB0 : Hid (Below w.heap.size w w0) := by rw [HW0.out]; exact fresh_alloc _ _
  rw [← HW0.out] at c1 c2 c3 HH
  have HP := hidd hpre
  have HP0 := hidd h0
  have HR := hidd hr
  clear h hpre hr h0
  have HF : Hid (¬ okAt i P T D p t d → r = false) := fun h => by
    cases r with
    | false => rfl
    | true => exact absurd (HR.out.1 rfl) h
  have alo : w.alloc (.cells #[.int .i64 p, .int .i64 t, .int .i64 d] 54) = w0 := HW0.out.symm
  by_cases a1 : p < 0
  · obtain rfl := HF.out (fun h => by have := h.1; omega)
    have d1 : decide (p < 0) = true := decide_eq_true a1
    go_enter Try.func30, Try.ntmps30
    go_wp2
    go_ret
    exact ⟨rfl, HB0.out⟩
  · have d1 : decide (p < 0) = false := decide_eq_false a1
    by_cases a2 : (i : Int) ≤ p
    · obtain rfl := HF.out (fun h => by have := h.2.1; omega)
      have d2 : decide ((i : Int) ≤ p) = true := decide_eq_true a2
      go_enter Try.func30, Try.ntmps30
      go_wp2
      go_ret
      exact ⟨rfl, HB0.out⟩
    · have d2 : decide ((i : Int) ≤ p) = false := decide_eq_false a2
      by_cases a3 : t < 1
      · obtain rfl := HF.out (fun h => by have := h.2.2.1; omega)
        have d3 : decide (t < 1) = true := decide_eq_true a3
        go_enter Try.func30, Try.ntmps30
        go_wp2
        go_ret
        exact ⟨rfl, HB0.out⟩
      · have d3 : decide (t < 1) = false := decide_eq_false a3
        obtain ⟨q, hq⟩ : ∃ q : Nat, p = (q : Int) := ⟨p.toNat, by omega⟩
        subst hq
        have hqi : q < i := by omega
        obtain ⟨b1, o1, hu, h1⟩ := HH.out.node (by omega)
        subst hu
        obtain ⟨_, _, cq⟩ := h1 q hqi
        obtain ⟨_, _, cl⟩ := h1 (i - 1) (by omega)
        have g1 : (q : Int) < (i : Int) := by omega
        have g2 : IntKind.i64.wrap ((i : Int) - 1) = (i : Int) - 1 := wrap_small _ (by omega) (by omega)
        have g3 : ((i : Int) - 1).toNat = i - 1 := by omega
        have g4 : (0 : Int) ≤ (i : Int) - 1 := by omega
        have g5 : (i : Int) - 1 < (i : Int) := by omega
        clear h1
        obtain ⟨y, HY⟩ : ∃ y, Hid (y = IntKind.i64.wrap (D q + 1)) := ⟨_, rfl⟩
        have g6 : IntKind.i64.wrap (D q + 1) = y := HY.out.symm
        obtain ⟨z, HZ⟩ : ∃ z, Hid (z = D (i - 1)) := ⟨_, rfl⟩
        rw [← HZ.out] at cl
        by_cases a4 : d = y
        · subst a4
          by_cases a5 : d < z
          · obtain rfl := HF.out (fun h => by have := h.2.2.2.2.1; have := HZ.out; omega)
            have d5 : decide (d < z) = true := decide_eq_true a5
            go_enter Try.func30, Try.ntmps30
            go_wp2
            go_quiet (fail)
            go_wp2
            go_ret
            exact ⟨rfl, below_drewN HB0.out _⟩
          · have d5 : decide (d < z) = false := decide_eq_false a5
            have HAM : Hid ((!r) = true ↔ Amg i P T D (q : Int) t d) := by
              show (!r) = true ↔ _
              rw [amg_iff HP0.out HP.out (by omega) (show d = IntKind.i64.wrap (D (q : Int).toNat + 1) from HY.out)]
              constructor
              · intro hh
                by_cases e : ∃ k, 1 ≤ k ∧ k < i ∧ P k = (q : Int) ∧ T k = t
                · exact e
                · have : r = true := HR.out.2 ⟨by omega, by omega, by omega, HY.out, by have := HZ.out; omega, fun k k1 k2 k3 => e ⟨k, k1, k2, k3.1, k3.2⟩⟩
                  rw [this] at hh
                  cases hh
              · rintro ⟨k, k1, k2, k3, k4⟩
                have : r = false := HF.out (fun h => h.2.2.2.2.2 k k1 k2 ⟨k3, k4⟩)
                rw [this]
                rfl
            have HCO : Hid (∀ m, Calls Try.prog 41 #[.slice (some ⟨b1, o1, none⟩) i cap, .agg #[.int .i64 (q : Int), .int .i64 t, .int .i64 d]] (w0.drewN m) fun e w' => e = .returned (.bool (!r)) ∧ Below (w0.drewN m).heap.size (w0.drewN m) w') := fun m => contains_any (HH.out.fresh (fresh_drewN w0 m)) _ _ _ HAM.out
            obtain ⟨rb, HRB⟩ : ∃ rb, Hid (rb = !r) := ⟨_, rfl⟩
            rw [← HRB.out] at HCO
            have hrb : (!rb) = r := by rw [HRB.out]; cases r <;> rfl
            clear HAM HF HR
            go_enter Try.func30, Try.ntmps30
            go_wp2
            go_quiet (fail)
            go_wp2_with (go_at_call 41; with_reducible refine (HCO.out _).mono ?_; rintro e w2 ⟨rfl, hb2⟩; have HB2 := hidd ((below_drewN HB0.out nq).trans (hb2.mono (below_drewN HB0.out nq).size)); clear hb2)
            go_ret
            exact ⟨by first | rfl | (rw [← hrb]; rfl), HB2.out⟩
        · obtain rfl := HF.out (fun h => a4 (by rw [HY.out]; exact h.2.2.2.1))
          have d4 : decide (d = y) = false := decide_eq_false a4
          go_enter Try.func30, Try.ntmps30
          go_wp2
          go_quiet (fail)
          go_wp2
          go_ret
          exact ⟨rfl, below_drewN HB0.out _⟩
theorem okT_step {i : Nat} {P T D : Nat → Int} (h : ∀ k, 1 ≤ k → k < i → okN P T D k) (hi : okN P T D i) : ∀ k, 1 ≤ k → k < i + 1 → okN P T D k := fun k h1 h2 => by
  by_cases e : k = i
  · rw [e]; exact hi
  · exact h k h1 (by omega)
set_option maxRecDepth 20000 in
set_option maxHeartbeats 1600000 in
theorem check_any {w : World} {ao : Option Addr} {n cap : Nat} {P T D : Nat → Int} (h : RdA w ao 3 n cap (nds P T D)) :
    Calls Try.prog 15 #[.slice ao n cap] w fun e w' => e = .returned (.int .i64 (erT n P T D)) ∧ Below w.heap.size w w' := by
  have hn : n ≤ 9223372036854775807 := by have := h.le; have := h.top; unfold maxLen at this; omega
  have HH := hidd h
  have HBAD : Hid (¬ okT n P T D → erT n P T D = 140) := erT_bad
  have HOK : Hid (okT n P T D → erT n P T D = 0) := erT_ok
  clear h
  by_cases a1 : n < 1
  · have d1 : decide ((n : Int) < 1) = true := decide_eq_true (by omega)
    have d1' : decide (n < 1) = true := decide_eq_true a1
    obtain ⟨er, HER⟩ : ∃ er, Hid (er = erT n P T D) := ⟨_, rfl⟩
    rw [← HER.out] at HBAD HOK ⊢
    obtain rfl := HBAD.out (fun h => by have := h.1; omega)
    go_enter Try.func15, Try.ntmps15
    go_wp2
    go_ret
    exact ⟨rfl, Below.refl _ _⟩
  · have d1 : decide ((n : Int) < 1) = false := decide_eq_false (by omega)
    obtain ⟨b1, o1, hu, h1⟩ := HH.out.node (by omega)
    subst hu
    obtain ⟨c1, _, c3⟩ := h1 0 (by omega)
    rw [show o1 + 0 * 3 = o1 by omega] at c1 c3
    have g0 : (0 : Int) < (n : Int) := by omega
    have g0' : 0 < n := by omega
    clear h1
    obtain ⟨er, HER⟩ : ∃ er, Hid (er = erT n P T D) := ⟨_, rfl⟩
    rw [← HER.out] at HBAD HOK ⊢
    by_cases a2 : 32 < n
    · have d2 : decide ((32 : Int) < (n : Int)) = true := decide_eq_true (by omega)
      obtain rfl := HBAD.out (fun h => by have := h.2.1; omega)
      go_enter Try.func15, Try.ntmps15
      go_wp2
      go_ret
      exact ⟨rfl, Below.refl _ _⟩
    · have d2 : decide ((32 : Int) < (n : Int)) = false := decide_eq_false (by omega)
      obtain ⟨p0, HP0⟩ : ∃ p0, Hid (p0 = P 0) := ⟨_, rfl⟩
      obtain ⟨d0, HD0⟩ : ∃ d0, Hid (d0 = D 0) := ⟨_, rfl⟩
      rw [← HP0.out] at c1
      rw [← HD0.out] at c3
      by_cases a3 : p0 = -1
      · subst a3
        by_cases a4 : d0 = 0
        · subst a4
          go_enter Try.func15, Try.ntmps15
          go_wp2
          go_loopw [3] (fun vi wr => ∃ i : Nat, 1 ≤ i ∧ i ≤ n ∧ vi = .int .i64 i ∧ Hid (∀ k, 1 ≤ k → k < i → okN P T D k) ∧ Hid (Below w.heap.size w wr)) (fun vi _ => n - (intOf vi).toNat)
          case atStart => exact ⟨1, by omega, by omega, rfl, fun k h1 h2 => absurd h1 (by omega), Below.refl _ _⟩
          case round =>
            obtain ⟨i, hi1, hi2, rfl, HK, HF⟩ := hrel
            by_cases hlt : i < n
            · have e1 : decide ((i : Int) < (n : Int)) = true := decide_eq_true (by omega)
              obtain ⟨b2, o2, hu2, h2⟩ := (HH.out.fresh HF.out).node (by omega)
              cases hu2
              obtain ⟨k1, k2, k3⟩ := h2 i hlt
              have l1 := later_cell k1
              have l2 := later_cell k2
              have l3 := later_cell k3
              have hle := HH.out.le
              have g1 : (i : Int) < (n : Int) := by omega
              have g2 : (i : Int) ≤ (cap : Int) := by omega
              have ne := later_some wr
              clear h2 k1 k2 k3
              by_cases hok : okN P T D i
              · have HFT : Hid (∀ x : Later wr, Calls Try.prog 30 #[.slice (some ⟨b1, o1, none⟩) i cap, .agg #[.int .i64 (P i), .int .i64 (T i), .int .i64 (D i)]] x.val fun e w' => e = .returned (.bool true) ∧ Below x.val.heap.size x.val w') := fun x => fits_any (((HH.out.fresh HF.out).fresh x.fresh).firsts (by omega)) hi1 HP0.out.symm HK.out _ _ _ ⟨fun _ => hok, fun _ => rfl⟩
                have HKN := hidd (okT_step HK.out hok)
                clear hok
                go_wp2
                refine wp_region_later (by kernel_rfl) (by kernel_rfl) ?_
                repeat (go_big_quiet_step (fail))
                go_big_quiet_step (exact later_of (HFT.out _))
                repeat (go_big_quiet_step (fail))
                refine wpQuiet_nil ?_
                rintro _ ⟨z, rfl⟩
                have HZ := hidd (HF.out.trans (z.fresh.mono HF.out.size))
                go_wp2
                go_roundw
                case rel => exact ⟨i + 1, by omega, by omega, by go_num, HKN, HZ⟩
                case measure => simp [intOf]; omega
              · have HFT : Hid (∀ x : Later wr, Calls Try.prog 30 #[.slice (some ⟨b1, o1, none⟩) i cap, .agg #[.int .i64 (P i), .int .i64 (T i), .int .i64 (D i)]] x.val fun e w' => e = .returned (.bool false) ∧ Below x.val.heap.size x.val w') := fun x => fits_any (((HH.out.fresh HF.out).fresh x.fresh).firsts (by omega)) hi1 HP0.out.symm HK.out _ _ _ ⟨fun h => absurd h (by simp), fun h => absurd h hok⟩
                obtain rfl := HBAD.out (fun h => hok (h.2.2.2.2 i hi1 hlt))
                clear hok
                go_wp2
                refine wp_region_later (by kernel_rfl) (by kernel_rfl) ?_
                repeat (go_big_quiet_step (fail))
                go_big_quiet_step (exact later_of (HFT.out _))
                repeat (go_big_quiet_step (fail))
                refine wpQuiet_nil ?_
                rintro _ ⟨z, rfl⟩
                have HZ := hidd (HF.out.trans (z.fresh.mono HF.out.size))
                go_wp2
                go_ret
                exact ⟨rfl, HZ.out⟩
            · obtain rfl : i = n := by omega
              obtain rfl := HOK.out ⟨by omega, by omega, HP0.out.symm, HD0.out.symm, HK.out⟩
              go_wp2
              go_ret
              exact ⟨rfl, HF.out⟩
        · obtain rfl := HBAD.out (fun h => a4 (HD0.out.trans h.2.2.2.1))
          go_enter Try.func15, Try.ntmps15
          go_wp2
          go_ret
          exact ⟨rfl, Below.refl _ _⟩
      · obtain rfl := HBAD.out (fun h => a3 (HP0.out.trans h.2.2.1))
        go_enter Try.func15, Try.ntmps15
        go_wp2
        go_ret
        exact ⟨rfl, Below.refl _ _⟩
end Go.Proofs.Ytakekdbclmgeoaa
