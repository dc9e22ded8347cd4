import Derived.Test.YteiocgciblogdabVoc
namespace Go.Proofs.Yteiocgciblogdab
open Go.RowKit
def Same (w wr : World) : Prop := wr = w
set_option maxHeartbeats 1000000 in
theorem indexB_any {w : World} {ao : Option Addr} {n cap : Nat} {f : Nat → Int} (ha : RdA w ao 1 n cap (fun i => .int .u8 (f i))) (x : Int) :
    Calls Try.prog 44 #[.slice ao n cap, .int .u8 x] w fun e w' => (∃ v : Int, e = .returned (.int .i64 v) ∧ (0 ≤ v ↔ ∃ i, i < n ∧ f i = x)) ∧ w' = w := by
  have hn : n ≤ 9223372036854775807 := by have := ha.le; have := ha.top; unfold maxLen at this; omega
  go_enter Try.func44, Try.ntmps44
  go_wp2
  go_loopw [8] (fun i wr => ∃ m : Nat, m ≤ n ∧ i = .int .i64 m ∧ Hid (∀ i, i < m → f i ≠ x) ∧ Same w wr) (fun i _ => n - (intOf i).toNat)
  case atStart => exact ⟨0, by omega, rfl, fun i hi => absurd hi (by omega), rfl⟩
  case round =>
    obtain ⟨m, hm, rfl, HN, hs⟩ := hrel
    unfold Same at hs
    subst hs
    by_cases hlt : m < n
    · obtain ⟨b1, o1, rfl, h1⟩ := ha.one (by omega)
      have c1 := h1 m (by omega)
      clear h1
      by_cases e : f m = x
      · have E := hidd e
        rw [e] at c1
        clear e
        go_wp2
        go_ret
        exact ⟨⟨_, rfl, ⟨fun _ => ⟨m, hlt, E.out⟩, fun _ => by omega⟩⟩, rfl⟩
      · have E := hidd e
        have e2 : ¬ x = f m := fun h => e h.symm
        go_wp2
        go_roundw
        case rel => exact ⟨m + 1, by omega, by go_num, fun i hi => if h : i = m then h ▸ E.out else HN.out i (by omega), (rfl : _ = _)⟩
        case measure => simp [intOf]; omega
    · obtain rfl : m = n := by omega
      go_wp2
      go_ret
      exact ⟨⟨_, rfl, ⟨fun h => absurd h (by omega), fun ⟨i, hi, e⟩ => absurd e (HN.out i hi)⟩⟩, rfl⟩
set_option maxHeartbeats 1000000 in
theorem containsB_any {w : World} {ao : Option Addr} {n cap : Nat} {f : Nat → Int} (ha : RdA w ao 1 n cap (fun i => .int .u8 (f i))) (x : Int) (r : Bool) (hr : r = true ↔ ∃ i, i < n ∧ f i = x) :
    Calls Try.prog 41 #[.slice ao n cap, .int .u8 x] w fun e w' => e = .returned (.bool r) ∧ w' = w := by
  have HR := hidd hr
  clear hr
  go_enter Try.func41, Try.ntmps41
  go_wp2_with fail
  refine (indexB_any ha x).mono ?_
  rintro e w2 ⟨⟨v, rfl, hv⟩, hw2⟩
  rw [hw2]
  have HV := hidd hv
  clear hw2 hv
  by_cases h0 : 0 ≤ v
  · obtain rfl : r = true := HR.out.2 (HV.out.1 h0)
    go_wp2
    go_ret
    exact ⟨ret_bool (by go_num), rfl⟩
  · obtain rfl : r = false := by
      cases r with
      | false => rfl
      | true => exact absurd (HV.out.2 (HR.out.1 rfl)) h0
    go_wp2
    go_ret
    exact ⟨ret_bool (by go_num), rfl⟩
set_option maxHeartbeats 1000000 in
theorem indexP_any {w : World} {ao : Option Addr} {n cap : Nat} {C S : Nat → Int} (ha : RdA w ao 2 n cap (tcs C S)) (x y : Int) :
    Calls Try.prog 45 #[.slice ao n cap, .agg #[.int .i64 x, .int .i64 y]] w fun e w' => (∃ v : Int, e = .returned (.int .i64 v) ∧ (0 ≤ v ↔ ∃ i, i < n ∧ C i = x ∧ S i = y)) ∧ Below w.heap.size w w' := by
  have hn : n ≤ 9223372036854775807 := by have := ha.le; have := ha.top; unfold maxLen at this; omega
  go_enter Try.func45, Try.ntmps45
  go_wp2
  have hf0 := fresh_alloc w (.cells #[.int .i64 x, .int .i64 y] 48)
  have K1 := hidd (show (w.alloc (.cells #[.int .i64 x, .int .i64 y] 48)).cell? ⟨w.heap.size, 0, none⟩ = some (.int .i64 x) by simp)
  have K2 := hidd (show (w.alloc (.cells #[.int .i64 x, .int .i64 y] 48)).cell? ⟨w.heap.size, 1, none⟩ = some (.int .i64 y) by simp)
  generalize w.alloc (.cells #[.int .i64 x, .int .i64 y] 48) = w1 at *
  go_loopw [8] (fun i wr => ∃ m : Nat, m ≤ n ∧ i = .int .i64 m ∧ Hid (∀ i, i < m → ¬ (C i = x ∧ S i = y)) ∧ Below w1.heap.size w1 wr) (fun i _ => n - (intOf i).toNat)
  case atStart => exact ⟨0, by omega, rfl, fun i hi => absurd hi (by omega), Below.refl _ _⟩
  case round =>
    obtain ⟨m, hm, rfl, HN, hfb⟩ := hrel
    have hf := fresh_trans hf0 hfb
    have k1 := fresh_cell hfb K1.out
    have k2 := fresh_cell hfb K2.out
    by_cases hlt : m < n
    · obtain ⟨b1, o1, rfl, h1⟩ := (ha.fresh hf).two (by omega)
      obtain ⟨c1, s1⟩ := h1 m (by omega)
      clear h1
      by_cases e : C m = x ∧ S m = y
      · have E := hidd e
        rw [e.1] at c1
        rw [e.2] at s1
        clear e
        have hq := eqP_true x y
        go_wp2
        go_quiet (fail)
        go_wp2
        go_ret
        exact ⟨⟨_, rfl, ⟨fun _ => ⟨m, hlt, E.out⟩, fun _ => by omega⟩⟩, below_drewN hf _⟩
      · have E := hidd e
        have hq := eqP_false (show ¬ (x = C m ∧ y = S m) from fun h => e ⟨h.1.symm, h.2.symm⟩)
        clear e
        go_wp2
        go_quiet (fail)
        go_wp2
        go_roundw
        case rel => exact ⟨m + 1, by omega, by go_num, fun i hi => if h : i = m then h ▸ E.out else HN.out i (by omega), below_drewN hfb _⟩
        case measure => simp [intOf]; omega
    · obtain rfl : m = n := by omega
      go_wp2
      go_ret
      exact ⟨⟨_, rfl, ⟨fun h => absurd h (by omega), fun ⟨i, hi, e⟩ => absurd e (HN.out i hi)⟩⟩, hf⟩
set_option maxHeartbeats 1000000 in
theorem containsP_any {w : World} {ao : Option Addr} {n cap : Nat} {C S : Nat → Int} (ha : RdA w ao 2 n cap (tcs C S)) (x y : Int) (r : Bool) (hr : r = true ↔ ∃ i, i < n ∧ C i = x ∧ S i = y) :
    Calls Try.prog 42 #[.slice ao n cap, .agg #[.int .i64 x, .int .i64 y]] w fun e w' => e = .returned (.bool r) ∧ Below w.heap.size w w' := by
  have HR := hidd hr
  clear hr
  go_enter Try.func42, Try.ntmps42
  go_wp2_with fail
  have hf0 := fresh_alloc w (.cells #[.int .i64 x, .int .i64 y] 48)
  refine (indexP_any (ha.fresh hf0) x y).mono ?_
  rintro e w2 ⟨⟨v, rfl, hv⟩, hw2⟩
  have hf2 := fresh_trans hf0 hw2
  have HV := hidd hv
  clear hw2 hv
  by_cases h0 : 0 ≤ v
  · obtain rfl : r = true := HR.out.2 (HV.out.1 h0)
    go_wp2
    go_ret
    exact ⟨ret_bool (by go_num), hf2⟩
  · obtain rfl : r = false := by
      cases r with
      | false => rfl
      | true => exact absurd (HV.out.2 (HR.out.1 rfl)) h0
    go_wp2
    go_ret
    exact ⟨ret_bool (by go_num), hf2⟩
end Go.Proofs.Yteiocgciblogdab
