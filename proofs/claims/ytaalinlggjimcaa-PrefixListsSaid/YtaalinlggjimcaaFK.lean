import Derived.Test.YtaalinlggjimcaaMF
namespace Go.Proofs.Ytaalinlggjimcaa
open Go.RowKit
/-! Keep where it answers an error. -/
set_option maxRecDepth 20000 in
set_option maxHeartbeats 1600000 in
/-- too few blocks, or more than there are -/
theorem keep_few {w : World} {c : Ca} {A : Nat → Prop} {L : List Nd} {N : Nat} (h : CacheAt w c A L N) (to bo : Option Addr) {T cap m bcap n : Nat} (hT : T ≤ 9223372036854775807) (_hm : m ≤ 9223372036854775807) (hn : n = T / c.S) (hb : m < n ∨ c.B < n) :
    Calls Try.prog 12 #[.pointer (some ⟨c.C, 0, none⟩), .slice to T cap, .slice bo m bcap] w fun e w' => e = .returned (.int .i64 61) ∧ w' = w := by
  obtain ⟨_, c1, _, _, _, c24, _⟩ := h.cells
  obtain ⟨hS1, hS2⟩ := h.well.hS
  obtain ⟨hB1, hB2⟩ := h.well.hB
  have hz : ¬ (c.S : Int) = 0 := by omega
  have hq : ((T : Int).tdiv (c.S : Int)) = (n : Int) := by rw [Int.tdiv_eq_ediv_of_nonneg (by omega), hn]; push_cast; rfl
  have hdiv : n ≤ T := by rw [hn]; exact Nat.div_le_self _ _
  clear h hn
  by_cases h1 : m < n
  · have d1 : (m : Int) < (n : Int) := by omega
    have e1 : decide ((m : Int) < (n : Int)) = true := decide_eq_true d1
    go_enter Try.func12, Try.ntmps12
    go_wp2
    go_ret
    exact ⟨rfl, rfl⟩
  · have d1 : ¬ (m : Int) < (n : Int) := by omega
    have e1 : decide ((m : Int) < (n : Int)) = false := decide_eq_false d1
    have d2 : (c.B : Int) < (n : Int) := by omega
    have e2 : decide ((c.B : Int) < (n : Int)) = true := decide_eq_true d2
    go_enter Try.func12, Try.ntmps12
    go_wp2
    go_ret
    exact ⟨rfl, rfl⟩
set_option maxRecDepth 20000 in
set_option maxHeartbeats 1600000 in
/-- one of the blocks is not in use -/
theorem keep_free {w : World} {c : Ca} {A : Nat → Prop} {L : List Nd} {N : Nat} (h : CacheAt w c A L N) {cb nb Y W S : Nat} {cnt : Nat → Nat} {num : Nat → Int} (hp : PoolAt w c.pg cb nb Y W c.B S cnt num) (to : Option Addr) {bo : Option Addr} {T cap m bcap n : Nat} {g : Nat → Int} (hT : T ≤ 9223372036854775807) (hb : RdA w bo 1 m bcap (fun i => .int .i64 (g i))) (hn : n = T / c.S) (hnm : n ≤ m) (hnB : n ≤ c.B) (hno : ∃ i, i < n ∧ cntI cnt c.B (g i) = 0) :
    Calls Try.prog 12 #[.pointer (some ⟨c.C, 0, none⟩), .slice to T cap, .slice bo m bcap] w fun e w' => e = .returned (.int .i64 61) ∧ w' = w := by
  obtain ⟨_, c1, _, _, _, c24, _⟩ := h.cells
  obtain ⟨hS1, hS2⟩ := h.well.hS
  obtain ⟨hB1, hB2⟩ := h.well.hB
  have hz : ¬ (c.S : Int) = 0 := by omega
  have hq : ((T : Int).tdiv (c.S : Int)) = (n : Int) := by rw [Int.tdiv_eq_ediv_of_nonneg (by omega), hn]; push_cast; rfl
  have hdiv : n ≤ T := by rw [hn]; exact Nat.div_le_self _ _
  have hbc := hb.le
  have hbt : bcap ≤ 9223372036854775807 := by have := hb.top; unfold maxLen at this; omega
  obtain ⟨i, hi, hi0⟩ := hno
  obtain ⟨bb, boff, rfl, hcs⟩ := hb.one (by omega)
  have HIN : Hid (Calls Try.prog 39 #[.pointer (some ⟨c.C, 0, none⟩), .slice (some ⟨bb, boff, none⟩) n bcap] w fun e w' => e = .returned (.bool false) ∧ w' = w) := by
    refine (areInUse_any h hp (bo := some ⟨bb, boff, none⟩) (m := n) (cap := bcap) (g := g) ⟨by omega, hb.top, fun hn0 => ⟨bb, boff, rfl, fun j hj => hcs j (by omega)⟩⟩).mono ?_
    rintro e w' ⟨⟨r, rfl, hr⟩, hw⟩
    refine ⟨?_, hw⟩
    cases r with
    | false => rfl
    | true => exact absurd hi0 (hr.1 rfl i hi)
  have d1 : ¬ (m : Int) < (n : Int) := by omega
  have d2 : ¬ (c.B : Int) < (n : Int) := by omega
  have e1 : decide ((m : Int) < (n : Int)) = false := by simpa using d1
  have e2 : decide ((c.B : Int) < (n : Int)) = false := by simpa using d2
  have k2 : (n : Int) ≤ (bcap : Int) := by omega
  have k0 : (0 : Int) ≤ (n : Int) := by omega
  clear h hp hb hn hcs hi hi0
  go_enter Try.func12, Try.ntmps12
  go_wp2_with (go_at_call 39; with_reducible refine HIN.out.mono ?_; rintro e w9 ⟨rfl, h9⟩; rw [h9]; clear h9)
  go_ret
  exact ⟨rfl, rfl⟩
set_option maxRecDepth 20000 in
set_option maxHeartbeats 1600000 in
/-- one of the new ones' blocks is another's, or one of them is there twice -/
theorem keep_taken {w : World} {c : Ca} {A : Nat → Prop} {L : List Nd} {N : Nat} (h : CacheAt w c A L N) {cb nb Y W S : Nat} {cnt : Nat → Nat} {num : Nat → Int} (hp : PoolAt w c.pg cb nb Y W c.B S cnt num) {to : Option Addr} {bo : Option Addr} {T cap m bcap n : Nat} {t : Nat → Int} {gn : Nat → Nat} (ht : RdA w to 1 T cap (fun i => .int .i64 (t i))) (hfit : ∀ i, i < T → fits (t i)) (hb : RdA w bo 1 m bcap (fun i => .int .i64 (gn i : Int))) (hn : n = T / c.S) (hnm : n ≤ m) (hnB : n ≤ c.B) (hblk : ∀ i, i < n → gn i < c.B) (hc0 : ∀ i, i < n → cnt (gn i) ≠ 0) {k0 b0 o0 : Nat} (hl : Long c.C L (pcL t c.S n) k0 b0 o0) (hno : ¬ Nobodys L (fun i => gn (k0 + i)) (n - k0)) :
    Calls Try.prog 12 #[.pointer (some ⟨c.C, 0, none⟩), .slice to T cap, .slice bo m bcap] w fun e w' => e = .returned (.int .i64 61) ∧ Below w.heap.size w w' := by
  obtain ⟨_, c1, _, _, _, c24, _⟩ := h.cells
  obtain ⟨hS1, hS2⟩ := h.well.hS
  obtain ⟨hB1, hB2⟩ := h.well.hB
  have hT : T ≤ 9223372036854775807 := by have := ht.le; have := ht.top; unfold maxLen at this; omega
  have hz : ¬ (c.S : Int) = 0 := by omega
  have hq : ((T : Int).tdiv (c.S : Int)) = (n : Int) := by rw [Int.tdiv_eq_ediv_of_nonneg (by omega), hn]; push_cast; rfl
  have hdiv : n ≤ T := by rw [hn]; exact Nat.div_le_self _ _
  have hnS : n * c.S ≤ T := by rw [hn]; exact Nat.div_mul_le_self T c.S
  have hbc := hb.le
  have hbt : bcap ≤ 9223372036854775807 := by have := hb.top; unfold maxLen at this; omega
  have hk0 : k0 < n := by
    have hle := hl.le
    rw [pcL_len] at hle
    by_cases e : k0 = n
    · refine absurd ⟨fun i hi => absurd hi (by omega), fun i j h1 h2 => absurd h2 (by omega)⟩ hno
    · omega
  obtain ⟨bb, boff, rfl, hcs⟩ := hb.one (by omega)
  have HIN : Hid (Calls Try.prog 39 #[.pointer (some ⟨c.C, 0, none⟩), .slice (some ⟨bb, boff, none⟩) n bcap] w fun e w' => e = .returned (.bool true) ∧ w' = w) := by
    refine (areInUse_any h hp (bo := some ⟨bb, boff, none⟩) (m := n) (cap := bcap) (g := fun i => (gn i : Int)) ⟨by omega, hb.top, fun hn0 => ⟨bb, boff, rfl, fun j hj => hcs j (by omega)⟩⟩).mono ?_
    rintro e w' ⟨⟨r, rfl, hr⟩, hw⟩
    refine ⟨?_, hw⟩
    rw [hr.2 (fun i hi => by rw [cntI_nat cnt (hblk i hi)]; exact hc0 i hi)]
  have HCUT := hidd (cut_any (most := n) ht h.well.hS (by omega) (show n = min (T / c.S) n by rw [← hn]; omega))
  have HNB : Hid (∀ Z, Below w.heap.size w Z → Calls Try.prog 40 #[.pointer (some ⟨c.C, 0, none⟩), .slice (some ⟨bb, boff + k0, none⟩) (n - k0) (bcap - k0)] Z fun e w' => e = .returned (.bool false) ∧ Below Z.heap.size Z w') := fun Z hZ => by
    refine (areNobodys_any (h.fresh hZ) (bo := some ⟨bb, boff + k0, none⟩) (m := n - k0) (cap := bcap - k0) (g := fun i => gn (k0 + i)) ⟨by omega, by unfold maxLen; omega, fun _ => ⟨bb, boff + k0, rfl, fun j hj => ?_⟩⟩ (fun i hi => hblk _ (by omega))).mono ?_
    · have := fresh_cell hZ (hcs (k0 + j) (by omega))
      rw [Nat.add_assoc]; exact this
    · rintro e w' ⟨⟨r, rfl, hr⟩, hf⟩
      cases r with
      | false => exact ⟨rfl, hf⟩
      | true => exact absurd (hr.1 rfl) hno
  have HH := hidd h
  have HL := hidd hl
  have HF := hidd hfit
  have d1 : ¬ (m : Int) < (n : Int) := by omega
  have d2 : ¬ (c.B : Int) < (n : Int) := by omega
  have e1 : decide ((m : Int) < (n : Int)) = false := by simpa using d1
  have e2 : decide ((c.B : Int) < (n : Int)) = false := by simpa using d2
  have k2 : (n : Int) ≤ (bcap : Int) := by omega
  have k1 : (0 : Int) ≤ (k0 : Int) := by omega
  have k4 : (k0 : Int) ≤ (n : Int) := by omega
  have k3 : ¬ bcap = k0 := by omega
  have k5 : (0 : Int) ≤ (n : Int) := by omega
  clear h hp hb hn hcs hl hno ht
  go_enter Try.func12, Try.ntmps12
  go_wp2_with (first
    | (go_at_call 39; refine HIN.out.mono ?_; rintro e w9 ⟨rfl, h9⟩; rw [h9]; clear h9)
    | (go_at_call 36; refine HCUT.out.mono ?_; rintro e w5 ⟨g5, rfl, r5, hg5, f5⟩; have LGC := longest_any (HH.out.fresh f5) (pcL_len t c.S n).symm (pcL_text HF.out hnS r5) (by omega) ⟨Nat.le_refl _, by unfold maxLen; omega⟩)
    | (go_at_call 35; refine LGC.mono ?_; rintro e w6 ⟨⟨k, b, o, rfl, hkn, hadr, hno⟩, f6⟩; obtain rfl : k0 = k := HL.out.uniq ⟨by rw [pcL_len]; exact hkn, hadr, fun j h1 h2 => hno j h1 (by rw [pcL_len] at h2; exact h2)⟩; have f56 := fresh_trans f5 f6; obtain ⟨a0, _, _⟩ := (HH.out.fresh f56).adr hadr; rw [List.length_take, pcL_len, Nat.min_eq_left hkn] at a0; have HNB6 := hidd (HNB.out w6 f56); clear hadr hno)
    | (go_at_call 40; refine HNB6.out.mono ?_; rintro e w7 ⟨rfl, f7⟩))
  go_ret
  exact ⟨rfl, fresh_trans f56 f7⟩
end Go.Proofs.Ytaalinlggjimcaa
