import Derived.Test.YtknfddakpfkcfabDoorJdE
namespace Go.Proofs.YtknfddakpfkcfabDoor
open Go.RowKit
/-! isWay on both sides. -/
def isW (n : Nat) (P : Nat → Int) (l : Nat) (W : Nat → Int) : Prop := 1 ≤ l ∧ W 0 = 0 ∧ ∀ i, i + 1 < l → 0 ≤ W (i + 1) ∧ W (i + 1) < (n : Int) ∧ P (W (i + 1)).toNat = W i
set_option maxRecDepth 20000 in
set_option maxHeartbeats 1600000 in
theorem isWay_any {w : World} {ao bo : Option Addr} {n l ca cb : Nat} {P T D W : Nat → Int} (h : RdA w ao 3 n ca (nds P T D)) (hc : RdA w bo 1 l cb (fun i => .int .i64 (W i))) (h1 : 1 ≤ n) (h2 : n ≤ 32) :
    Calls Tryd.prog 23 #[.slice ao n ca, .slice bo l cb] w fun e w' => (∃ r : Bool, e = .returned (.bool r) ∧ (r = true ↔ isW n P l W)) ∧ Below w.heap.size w w' := by
  have hle := hc.le
  have hl : cb ≤ 9223372036854775807 := by have := hc.top; unfold maxLen at this; omega
  rcases Nat.eq_zero_or_pos l with e0 | hl0
  · subst e0
    go_enter Tryd.func23, Tryd.ntmps23
    go_wp2
    go_ret
    exact ⟨⟨false, rfl, ⟨fun q => (by cases q), fun q => absurd q.1 (by omega)⟩⟩, Below.refl _ _⟩
  obtain ⟨b1, o1, rfl, hA⟩ := h.node (by omega)
  obtain ⟨b2, o2, rfl, hC⟩ := hc.one (by omega)
  have HA := hidd hA
  have HC := hidd hC
  have c0 := hC 0 hl0
  clear hA hC h hc
  obtain ⟨y0, HY0⟩ : ∃ y, Hid (y = W 0) := ⟨_, rfl⟩
  rw [← HY0.out, Nat.add_zero] at c0
  have l0 : ((l : Int) == 0) = false := by simp; omega
  have l1 : (0 : Int) < (l : Int) := by omega
  by_cases e0 : y0 = 0
  · subst e0
    by_cases hk1 : l = 1
    · subst hk1
      have HI : Hid (isW n P 1 W) := ⟨Nat.le_refl _, HY0.out.symm, fun i hi => absurd hi (by omega)⟩
      by_cases hc1 : cb = 1
      · subst hc1
        go_enter Tryd.func23, Tryd.ntmps23
        go_wp2
        go_loopw [19] (fun i wr => i = .int .i64 0 ∧ wr = w) (fun _ _ => 0)
        case atStart => exact ⟨rfl, rfl⟩
        case round =>
          obtain ⟨rfl, rfl⟩ := hrel
          go_wp2
          go_ret
          exact ⟨⟨true, rfl, ⟨fun _ => HI.out, fun _ => rfl⟩⟩, Below.refl _ _⟩
      · go_enter Tryd.func23, Tryd.ntmps23
        go_wp2
        go_loopw [19] (fun i wr => i = .int .i64 0 ∧ wr = w) (fun _ _ => 0)
        case atStart => exact ⟨rfl, rfl⟩
        case round =>
          obtain ⟨rfl, rfl⟩ := hrel
          go_wp2
          go_ret
          exact ⟨⟨true, rfl, ⟨fun _ => HI.out, fun _ => rfl⟩⟩, Below.refl _ _⟩
    · obtain ⟨k, HK⟩ : ∃ k, Hid (k = l - 1) := ⟨l - 1, rfl⟩
      have hc1 : ¬ cb = 1 := by omega
      have e2 : l - 1 = k := HK.out.symm
      have e1 : (l : Int) - 1 = (k : Int) := by omega
      have l2 : (1 : Int) ≤ (l : Int) := by omega
      have hkl : k < l := by omega
      have hkl2 : l ≤ k + 1 := by omega
      go_enter Tryd.func23, Tryd.ntmps23
      go_wp2
      clear e1 e2 l2 l1 l0 c0 hk1
      go_loopw [19] (fun i wr => ∃ j : Nat, j ≤ k ∧ i = .int .i64 j ∧ Hid (∀ i, i < j → 0 ≤ W (i + 1) ∧ W (i + 1) < (n : Int) ∧ P (W (i + 1)).toNat = W i) ∧ Hid (Below w.heap.size w wr)) (fun i _ => k - (intOf i).toNat)
      case atStart => exact ⟨0, by omega, rfl, fun i hi => absurd hi (by omega), Below.refl _ _⟩
      case round =>
        obtain ⟨j, hj, rfl, HI, HF⟩ := hrel
        by_cases hlt : j < k
        · have j0 : (0 : Int) ≤ (j : Int) := by omega
          have j1 : (j : Int) < (k : Int) := by omega
          have j2 : (j : Int) < (l : Int) := by omega
          have x1 := fresh_cell HF.out (HC.out (j + 1) (by omega))
          rw [show o2 + (j + 1) = o2 + 1 + j by omega] at x1
          have x0 := fresh_cell HF.out (HC.out j (by omega))
          obtain ⟨v, HV⟩ : ∃ y, Hid (y = W (j + 1)) := ⟨_, rfl⟩
          obtain ⟨u, HU⟩ : ∃ y, Hid (y = W j) := ⟨_, rfl⟩
          rw [← HV.out] at x1
          rw [← HU.out] at x0
          by_cases hv0 : v < 0
          · have d1 : decide (v < 0) = true := decide_eq_true hv0
            have HE : Hid (¬ isW n P l W) := fun q => by have := (q.2.2 j (by omega)).1; have := HV.out; omega
            clear x0
            go_wp2
            go_quiet (fail)
            go_wp2
            go_ret
            exact ⟨⟨false, rfl, ⟨fun q => (by cases q), fun q => absurd q HE.out⟩⟩, below_drewN HF.out _⟩
          · have d1 : decide (v < 0) = false := decide_eq_false hv0
            by_cases hvn : (n : Int) ≤ v
            · have d2 : decide ((n : Int) ≤ v) = true := decide_eq_true hvn
              have HE : Hid (¬ isW n P l W) := fun q => by have := (q.2.2 j (by omega)).2.1; have := HV.out; omega
              clear x0
              go_wp2
              go_quiet (fail)
              go_wp2
              go_ret
              exact ⟨⟨false, rfl, ⟨fun q => (by cases q), fun q => absurd q HE.out⟩⟩, below_drewN HF.out _⟩
            · obtain ⟨x, rfl⟩ : ∃ x : Nat, v = (x : Int) := ⟨v.toNat, by omega⟩
              have hx : x < n := by omega
              have d2 : decide ((n : Int) ≤ (x : Int)) = false := decide_eq_false hvn
              have d1b : decide ((x : Int) < 0) = false := decide_eq_false hv0
              have d2b : decide (n ≤ x) = false := decide_eq_false (by omega)
              have i0 : (0 : Int) ≤ (x : Int) := by omega
              have i1 : (x : Int) < (n : Int) := by omega
              have x2 := fresh_cell HF.out (HA.out x hx).1
              obtain ⟨p, HP⟩ : ∃ y, Hid (y = P x) := ⟨_, rfl⟩
              rw [← HP.out] at x2
              by_cases e : p = u
              · have d3 : (p != u) = false := by simp; exact e
                have HE := hidd e
                clear e
                go_wp2
                go_quiet (fail)
                go_wp2
                go_roundw
                case rel => exact ⟨j + 1, by omega, by go_num, fun i hi => (by
                  by_cases q : i = j
                  · rw [q, ← HV.out, ← HU.out]
                    exact ⟨i0, i1, by rw [Int.toNat_natCast, ← HP.out]; exact HE.out⟩
                  · exact HI.out i (by omega)), below_drewN HF.out _⟩
                case measure => simp [intOf]; omega
              · have d3 : (p != u) = true := by simp; exact e
                have HE : Hid (¬ isW n P l W) := fun q => by
                  have := (q.2.2 j (by omega)).2.2
                  rw [← HV.out, Int.toNat_natCast, ← HP.out, ← HU.out] at this
                  exact e this
                clear e
                go_wp2
                go_quiet (fail)
                go_wp2
                go_ret
                exact ⟨⟨false, rfl, ⟨fun q => (by cases q), fun q => absurd q HE.out⟩⟩, below_drewN HF.out _⟩
        · obtain rfl : j = k := by omega
          have HE : Hid (isW n P l W) := ⟨by omega, HY0.out.symm, fun i hi => HI.out i (by omega)⟩
          go_wp2
          go_ret
          exact ⟨⟨true, rfl, ⟨fun _ => HE.out, fun _ => rfl⟩⟩, HF.out⟩
  · have d0 : (y0 == 0) = false := by simp; exact e0
    have d1 : (y0 != 0) = true := by simp; exact e0
    have HE := hidd e0
    clear e0
    go_enter Tryd.func23, Tryd.ntmps23
    go_wp2
    go_ret
    exact ⟨⟨false, rfl, ⟨fun q => (by cases q), fun q => absurd (HY0.out.trans q.2.1) HE.out⟩⟩, Below.refl _ _⟩
end Go.Proofs.YtknfddakpfkcfabDoor
