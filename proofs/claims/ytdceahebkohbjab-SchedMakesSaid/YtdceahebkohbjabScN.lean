import Derived.Test.YtdceahebkohbjabScQ
namespace Go.Proofs.Ytdceahebkohbjab
open Go.RowKit
/-! Contains, among. -/
def hasI (f : Nat → Int) (n : Nat) (x : Int) : Bool := (List.range n).any fun j => f j == x
theorem hasI_iff (f : Nat → Int) (n : Nat) (x : Int) : hasI f n x = true ↔ ∃ i, i < n ∧ f i = x := by
  unfold hasI
  simp
def Same (w wr : World) : Prop := wr = w
set_option maxRecDepth 20000 in
set_option maxHeartbeats 1000000 in
theorem index_any {w : World} {ao : Option Addr} {n cap : Nat} {f : Nat → Int} (ha : RdA w ao 1 n cap (fun i => .int .i64 (f i))) (x : Int) :
    Calls Try.prog 40 #[.slice ao n cap, .int .i64 x] w fun e w' => (∃ v : Int, e = .returned (.int .i64 v) ∧ (0 ≤ v ↔ ∃ i, i < n ∧ f i = x)) ∧ w' = w := by
  have hn : n ≤ 9223372036854775807 := by have := ha.le; have := ha.top; unfold maxLen at this; omega
  go_enter Try.func40, Try.ntmps40
  go_wp2
  go_loopw [8] (fun i wr => ∃ m : Nat, m ≤ n ∧ i = .int .i64 m ∧ Hid (∀ i, i < m → f i ≠ x) ∧ Same w wr) (fun i _ => n - (intOf i).toNat)
  case atStart => exact ⟨0, by omega, rfl, fun i hi => absurd hi (by omega), rfl⟩
  case round =>
    obtain ⟨m, hm, rfl, HN, hs⟩ := hrel
    unfold Same at hs
    subst hs
    by_cases hlt : m < n
    · obtain ⟨b1, o1, rfl, h1⟩ := ha.one (by omega)
      have c1 := h1 m (by omega)
      clear h1
      by_cases e : f m = x
      · have E := hidd e
        rw [e] at c1
        clear e
        go_wp2
        go_ret
        exact ⟨⟨_, rfl, ⟨fun _ => ⟨m, hlt, E.out⟩, fun _ => by omega⟩⟩, rfl⟩
      · have E := hidd e
        have e2 : ¬ x = f m := fun h => e h.symm
        go_wp2
        go_roundw
        case rel => exact ⟨m + 1, by omega, by go_num, fun i hi => if h : i = m then h ▸ E.out else HN.out i (by omega), (rfl : _ = _)⟩
        case measure => simp [intOf]; omega
    · obtain rfl : m = n := by omega
      go_wp2
      go_ret
      exact ⟨⟨_, rfl, ⟨fun h => absurd h (by omega), fun ⟨i, hi, e⟩ => absurd e (HN.out i hi)⟩⟩, rfl⟩
set_option maxRecDepth 20000 in
set_option maxHeartbeats 1000000 in
theorem contains_any {w : World} {ao : Option Addr} {n cap : Nat} {f : Nat → Int} (ha : RdA w ao 1 n cap (fun i => .int .i64 (f i))) (x : Int) :
    Calls Try.prog 27 #[.slice ao n cap, .int .i64 x] w fun e w' => e = .returned (.bool (hasI f n x)) ∧ w' = w := by
  obtain ⟨r, HRR⟩ : ∃ r, Hid (r = hasI f n x) := ⟨_, rfl⟩
  have HR : Hid (r = true ↔ ∃ i, i < n ∧ f i = x) := by rw [HRR.out]; exact hasI_iff f n x
  rw [← HRR.out]
  go_enter Try.func27, Try.ntmps27
  go_wp2_with fail
  refine (index_any ha x).mono ?_
  rintro e w2 ⟨⟨v, rfl, hv⟩, hw2⟩
  rw [hw2]
  have HV := hidd hv
  clear hw2 hv
  by_cases h0 : 0 ≤ v
  · obtain rfl : r = true := HR.out.2 (HV.out.1 h0)
    go_wp2
    go_ret
    exact ⟨ret_bool (by go_num), rfl⟩
  · obtain rfl : r = false := by
      cases r with
      | false => rfl
      | true => exact absurd (HV.out.2 (HR.out.1 rfl)) h0
    go_wp2
    go_ret
    exact ⟨ret_bool (by go_num), rfl⟩
set_option maxRecDepth 20000 in
set_option maxHeartbeats 1000000 in
theorem ramong_any {w : World} {ao : Option Addr} {n cap : Nat} {f : Nat → Int} (ha : RdA w ao 1 n cap (fun i => .int .i64 (f i))) (x : Int) :
    Calls Try.prog 30 #[.slice ao n cap, .int .i64 x] w fun e w' => e = .returned (.bool (hasI f n x)) ∧ w' = w := by
  have hn : n ≤ 9223372036854775807 := by have := ha.le; have := ha.top; unfold maxLen at this; omega
  obtain ⟨r, HRR⟩ : ∃ r, Hid (r = hasI f n x) := ⟨_, rfl⟩
  have HR : Hid (r = true ↔ ∃ i, i < n ∧ f i = x) := by rw [HRR.out]; exact hasI_iff f n x
  rw [← HRR.out]
  go_enter Try.func30, Try.ntmps30
  go_wp2
  go_loopw [5] (fun i wr => ∃ m : Nat, m ≤ n ∧ i = .int .i64 m ∧ Hid (∀ i, i < m → f i ≠ x) ∧ Same w wr) (fun i _ => n - (intOf i).toNat)
  case atStart => exact ⟨0, by omega, rfl, fun i hi => absurd hi (by omega), rfl⟩
  case round =>
    obtain ⟨m, hm, rfl, HN, hs⟩ := hrel
    unfold Same at hs
    subst hs
    by_cases hlt : m < n
    · obtain ⟨b1, o1, rfl, h1⟩ := ha.one (by omega)
      have c1 := h1 m (by omega)
      clear h1
      by_cases e : f m = x
      · obtain rfl : r = true := HR.out.2 ⟨m, hlt, e⟩
        rw [e] at c1
        clear e
        go_wp2
        go_ret
        try exact ⟨rfl, rfl⟩
      · have E := hidd e
        go_wp2
        go_roundw
        case rel => exact ⟨m + 1, by omega, by go_num, fun i hi => if h : i = m then h ▸ E.out else HN.out i (by omega), (rfl : _ = _)⟩
        case measure => simp [intOf]; omega
    · obtain rfl : m = n := by omega
      obtain rfl : r = false := by
        rw [Bool.eq_false_iff]
        intro q
        obtain ⟨i, hi, e⟩ := HR.out.1 q
        exact HN.out i hi e
      go_wp2
      go_ret
      try exact ⟨rfl, rfl⟩
end Go.Proofs.Ytdceahebkohbjab
