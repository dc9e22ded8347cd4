import Derived.Test.YtknfddakpfkcfabDoorJdJ
namespace Go.Proofs.YtknfddakpfkcfabDoor
open Go.RowKit Go.Shelf Go.Sort
set_option maxRecDepth 20000 in
set_option maxHeartbeats 1600000 in
theorem hasAlike_any {w : World} {b o n cap : Nat} {f : Nat → Int} (h : RdA w (some ⟨b, o, none⟩) 1 n cap (fun i => .int .i64 (f i))) (h0 : 0 < n) (hn : n ≤ 17592186043904) :
    Calls Tryd.prog 26 #[.slice (some ⟨b, o, none⟩) n cap] w fun e w' => (∃ r : Bool, e = .returned (.bool r) ∧ (r = true ↔ alk f n)) ∧ Below w.heap.size w w' := by
  have HCL := hidd (cloneI_any h h0 hn)
  have HAL := hidd (alk_iff f n)
  clear h
  go_enter Tryd.func26, Tryd.ntmps26
  go_wp2_with (first
    | (go_at_call 31; with_reducible refine HCL.out.mono ?_; rintro e w1 ⟨g, c, rfl, hg, ho, hb⟩; have HB1 := hidd hb; have HSO := hidd (sortI_any (w0 := w) ho hn hb hb.size); clear HCL ho hb)
    | (go_at_call 32; with_reducible refine HSO.out.mono ?_; rintro e w2 ⟨rfl, ho2, hb2⟩; have HB2 := hidd hb2; have HO2 := hidd ho2; clear HSO ho2 hb2))
  obtain ⟨gb, go, he, hcell⟩ := (own_rda HO2.out).one h0
  cases he
  have HCe := hidd hcell
  clear hcell
  go_loopw [4] (fun i wr => ∃ k : Nat, 1 ≤ k ∧ k ≤ n ∧ i = .int .i64 k ∧ Hid (∀ i, i + 1 < k → ¬ srt f n i = srt f n (i + 1)) ∧ Hid (Below w2.heap.size w2 wr)) (fun i _ => n - (intOf i).toNat)
  case atStart => exact ⟨1, by omega, by omega, rfl, fun i hi => absurd hi (by omega), Below.refl _ _⟩
  case round =>
    obtain ⟨k, hk1, hk, rfl, HN, HF⟩ := hrel
    have HG := hidd (HB2.out.trans (HF.out.mono HB2.out.size))
    by_cases hlt : k < n
    · obtain ⟨q, HQ⟩ : ∃ q, Hid (k = q + 1) := ⟨k - 1, by show k = _; omega⟩
      have e1 : (k : Int) - 1 = (q : Int) := by have := HQ.out; omega
      have x1 := fresh_cell HF.out (HCe.out k hlt)
      have x2 := fresh_cell HF.out (HCe.out q (by have := HQ.out; omega))
      simp only [Nat.zero_add] at x1 x2
      obtain ⟨y, HY⟩ : ∃ y, Hid (y = srt f n k) := ⟨_, rfl⟩
      obtain ⟨z, HZ⟩ : ∃ y, Hid (y = srt f n q) := ⟨_, rfl⟩
      rw [← HY.out] at x1
      rw [← HZ.out] at x2
      have k0 : (0 : Int) ≤ (k : Int) := by omega
      have k1 : (k : Int) < (n : Int) := by omega
      have q0 : (0 : Int) ≤ (q : Int) := by omega
      have q1 : (q : Int) < (n : Int) := by omega
      by_cases e : y = z
      · have d1 : (y == z) = true := by simp; exact e
        have HE : Hid (alk f n) := HAL.out.2 ⟨q, by have := HQ.out; omega, by rw [← HQ.out, ← HY.out, ← HZ.out]; exact e.symm⟩
        clear e
        go_wp2
        go_quiet (fail)
        go_wp2
        go_ret
        first
          | exact ⟨⟨true, rfl, ⟨fun _ => HE.out, fun _ => rfl⟩⟩, below_drewN HG.out _⟩
          | exact ⟨.inr ⟨rfl, HE.out⟩, below_drewN HG.out _⟩
      · have d1 : (y == z) = false := by simp; exact e
        have HE := hidd e
        clear e
        go_wp2
        go_quiet (fail)
        go_wp2
        go_roundw
        case rel => exact ⟨k + 1, by omega, by omega, by go_num, fun i hi => (by
          by_cases p : i + 1 = k
          · have pq : i = q := by have := HQ.out; omega
            rw [p, pq, ← HY.out, ← HZ.out]
            exact fun h => HE.out h.symm
          · exact HN.out i (by omega)), below_drewN HF.out _⟩
        case measure => simp [intOf]; omega
    · obtain rfl : k = n := by omega
      have HE : Hid (¬ alk f k) := fun h => by
        obtain ⟨i, hi, e⟩ := HAL.out.1 h
        exact HN.out i hi e
      go_wp2
      go_ret
      first
        | exact ⟨⟨false, rfl, ⟨fun q => (by cases q), fun q => absurd q HE.out⟩⟩, HG.out⟩
        | exact ⟨.inl ⟨rfl, HE.out⟩, HG.out⟩
/-- each is one of a list of m -/
def plc (f : Nat → Int) (n m : Nat) : Prop := ∀ i, i < n → 0 ≤ f i ∧ f i < (m : Int)
set_option maxRecDepth 20000 in
set_option maxHeartbeats 1600000 in
theorem arePlaces_any {w : World} {ao : Option Addr} {n cap m : Nat} {f : Nat → Int} (h : RdA w ao 1 n cap (fun i => .int .i64 (f i))) :
    Calls Tryd.prog 25 #[.slice ao n cap, .int .i64 (m : Int)] w fun e w' => (∃ r : Bool, e = .returned (.bool r) ∧ (r = true ↔ plc f n m)) ∧ Below w.heap.size w w' := by
  have hn : n ≤ 9223372036854775807 := by have := h.le; have := h.top; unfold maxLen at this; omega
  go_enter Tryd.func25, Tryd.ntmps25
  go_wp2
  go_loopw [9] (fun i wr => ∃ k : Nat, k ≤ n ∧ i = .int .i64 k ∧ Hid (∀ i, i < k → 0 ≤ f i ∧ f i < (m : Int)) ∧ Hid (Below w.heap.size w wr)) (fun i _ => n - (intOf i).toNat)
  case atStart => exact ⟨0, by omega, rfl, fun i hi => absurd hi (by omega), Below.refl _ _⟩
  case round =>
    obtain ⟨k, hk, rfl, HN, HF⟩ := hrel
    by_cases hlt : k < n
    · obtain ⟨b1, o1, rfl, h1⟩ := (h.fresh HF.out).one (by omega)
      have x1 := h1 k hlt
      clear h1
      obtain ⟨y, HY⟩ : ∃ y, Hid (y = f k) := ⟨_, rfl⟩
      rw [← HY.out] at x1
      have k0 : (0 : Int) ≤ (k : Int) := by omega
      have k1 : (k : Int) < (n : Int) := by omega
      by_cases e : y < 0
      · have d1 : decide (y < 0) = true := decide_eq_true e
        have HE : Hid (¬ plc f n m) := fun q => by have := (q k hlt).1; have := HY.out; omega
        go_wp2
        go_ret
        first
          | exact ⟨⟨false, rfl, ⟨fun q => (by cases q), fun q => absurd q HE.out⟩⟩, HF.out⟩
          | exact ⟨.inl ⟨rfl, HE.out⟩, HF.out⟩
      · have d1 : decide (y < 0) = false := decide_eq_false e
        by_cases e2 : (m : Int) ≤ y
        · have d2 : decide ((m : Int) ≤ y) = true := decide_eq_true e2
          have HE : Hid (¬ plc f n m) := fun q => by have := (q k hlt).2; have := HY.out; omega
          go_wp2
          go_ret
          first
            | exact ⟨⟨false, rfl, ⟨fun q => (by cases q), fun q => absurd q HE.out⟩⟩, HF.out⟩
            | exact ⟨.inl ⟨rfl, HE.out⟩, HF.out⟩
        · have d2 : decide ((m : Int) ≤ y) = false := decide_eq_false e2
          have HE : Hid (0 ≤ y ∧ y < (m : Int)) := ⟨by omega, by omega⟩
          go_wp2
          go_roundw
          case rel => exact ⟨k + 1, by omega, by go_num, fun i hi => (by
            by_cases p : i = k
            · rw [p, ← HY.out]; exact HE.out
            · exact HN.out i (by omega)), HF⟩
          case measure => simp [intOf]; omega
    · obtain rfl : k = n := by omega
      have HE : Hid (plc f k m) := HN.out
      go_wp2
      go_ret
      first
        | exact ⟨⟨true, rfl, ⟨fun _ => HE.out, fun _ => rfl⟩⟩, HF.out⟩
        | exact ⟨.inr ⟨rfl, HE.out⟩, HF.out⟩
end Go.Proofs.YtknfddakpfkcfabDoor
