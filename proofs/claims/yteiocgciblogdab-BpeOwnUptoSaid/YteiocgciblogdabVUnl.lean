import Derived.Test.YteiocgciblogdabVInd
import Derived.Test.YteiocgciblogdabLat
namespace Go.Proofs.Yteiocgciblogdab
open Go.RowKit
theorem RdA.take {w : World} {ao : Option Addr} {sz n cap m : Nat} {cs : Nat → Value} (h : RdA w ao sz n cap cs) (hm : m ≤ n) : RdA w ao sz m cap cs := by
  refine ⟨Nat.le_trans hm h.le, h.top, fun h0 => ?_⟩
  obtain ⟨b, off, rfl, hc⟩ := h.at_ (by omega)
  exact ⟨b, off, rfl, fun j hj => hc j (Nat.lt_of_lt_of_le hj (Nat.mul_le_mul_right _ hm))⟩
set_option maxHeartbeats 1000000 in
theorem unlikeB_any {w : World} {ao : Option Addr} {n cap : Nat} {f : Nat → Int} (ha : RdA w ao 1 n cap (fun i => .int .u8 (f i))) (r : Bool) (hr : r = true ↔ ∀ k, k < n → ∀ i, i < k → f i ≠ f k) :
    Calls Try.prog 38 #[.slice ao n cap] w fun e w' => e = .returned (.bool r) ∧ w' = w := by
  have hn : n ≤ 9223372036854775807 := by have := ha.le; have := ha.top; unfold maxLen at this; omega
  have HR := hidd hr
  clear hr
  go_enter Try.func38, Try.ntmps38
  go_wp2
  go_loopw [7] (fun i wr => ∃ m : Nat, m ≤ n ∧ i = .int .i64 m ∧ Hid (∀ k, k < m → ∀ i, i < k → f i ≠ f k) ∧ Same w wr) (fun i _ => n - (intOf i).toNat)
  case atStart => exact ⟨0, by omega, rfl, fun i hi => absurd hi (by omega), (rfl : _ = _)⟩
  case round =>
    obtain ⟨m, hm, rfl, HN, hs⟩ := hrel
    unfold Same at hs
    subst hs
    by_cases hlt : m < n
    · have HA := hidd (ha.take hm)
      have hcap := ha.le
      obtain ⟨b1, o1, rfl, h1⟩ := ha.one (by omega)
      have c1 := h1 m (by omega)
      clear h1
      by_cases e : ∃ i, i < m ∧ f i = f m
      · obtain rfl : r = false := by
          cases r with
          | false => rfl
          | true => obtain ⟨i, hi, e⟩ := e; exact absurd e (HR.out.1 rfl m hlt i hi)
        have E := hidd e
        clear e
        go_wp2_with fail
        refine (containsB_any HA.out (f m) true ⟨fun _ => E.out, fun _ => rfl⟩).mono ?_
        rintro e w2 ⟨rfl, hw2⟩
        rw [hw2]
        clear hw2
        go_wp2
        go_ret
        exact ⟨rfl, rfl⟩
      · have E := hidd e
        clear e
        go_wp2_with fail
        refine (containsB_any HA.out (f m) false ⟨(fun h => nomatch h), fun h => absurd h E.out⟩).mono ?_
        rintro e w2 ⟨rfl, hw2⟩
        rw [hw2]
        clear hw2
        go_wp2
        go_roundw
        case rel => exact ⟨m + 1, by omega, by go_num, fun k hk i hi => if h : k = m then fun e => E.out ⟨i, h ▸ hi, h ▸ e⟩ else HN.out k (by omega) i hi, (rfl : _ = _)⟩
        case measure => simp [intOf]; omega
    · obtain rfl : m = n := by omega
      obtain rfl : r = true := HR.out.2 HN.out
      go_wp2
      go_ret
      exact ⟨rfl, rfl⟩
set_option maxHeartbeats 1000000 in
theorem unlikeP_any {w : World} {ao : Option Addr} {n cap : Nat} {C S : Nat → Int} (ha : RdA w ao 2 n cap (tcs C S)) (r : Bool) (hr : r = true ↔ ∀ k, k < n → ∀ i, i < k → ¬ (C i = C k ∧ S i = S k)) :
    Calls Try.prog 39 #[.slice ao n cap] w fun e w' => e = .returned (.bool r) ∧ Below w.heap.size w w' := by
  have hn : n ≤ 9223372036854775807 := by have := ha.le; have := ha.top; unfold maxLen at this; omega
  have HR := hidd hr
  clear hr
  go_enter Try.func39, Try.ntmps39
  go_wp2
  go_loopw [7] (fun i wr => ∃ m : Nat, m ≤ n ∧ i = .int .i64 m ∧ Hid (∀ k, k < m → ∀ i, i < k → ¬ (C i = C k ∧ S i = S k)) ∧ Below w.heap.size w wr) (fun i _ => n - (intOf i).toNat)
  case atStart => exact ⟨0, by omega, rfl, fun i hi => absurd hi (by omega), Below.refl _ _⟩
  case round =>
    obtain ⟨m, hm, rfl, HN, hf⟩ := hrel
    by_cases hlt : m < n
    · have HA := hidd (ha.take hm)
      have hcap := ha.le
      have hsz := hf.size
      obtain ⟨b1, o1, rfl, h1⟩ := (ha.fresh hf).two (by omega)
      obtain ⟨c1, s1⟩ := h1 m (by omega)
      clear h1
      go_wp2
      have hf1 := hf.alloc hsz (.cells #[.int .i64 (C m), .int .i64 (S m)] 48)
      have K1 : (wr.alloc (.cells #[.int .i64 (C m), .int .i64 (S m)] 48)).cell? ⟨wr.heap.size, 0, none⟩ = some (.int .i64 (C m)) := by simp
      have K2 : (wr.alloc (.cells #[.int .i64 (C m), .int .i64 (S m)] 48)).cell? ⟨wr.heap.size, 1, none⟩ = some (.int .i64 (S m)) := by simp
      generalize wr.alloc (.cells #[.int .i64 (C m), .int .i64 (S m)] 48) = w1 at *
      clear c1 s1
      replace K1 := later_cell K1
      replace K2 := later_cell K2
      have ne := later_some w1
      by_cases e : ∃ i, i < m ∧ C i = C m ∧ S i = S m
      · obtain rfl : r = false := by
          cases r with
          | false => rfl
          | true => obtain ⟨i, hi, e⟩ := e; exact absurd e (HR.out.1 rfl m hlt i hi)
        have E := hidd e
        clear e
        refine wp_region_later (by kernel_rfl) (by kernel_rfl) ?_
        repeat (go_big_quiet_step (fail))
        go_big_quiet_step (exact later_of (containsP_any (HA.out.fresh (fresh_trans hf1 (Later.fresh _))) (C m) (S m) true ⟨fun _ => E.out, fun _ => rfl⟩))
        refine wpQuiet_nil ?_
        rintro _ ⟨x, rfl⟩
        have hf2 := fresh_trans hf1 x.fresh
        go_wp2
        go_ret
        exact ⟨rfl, hf2⟩
      · have E := hidd e
        clear e
        refine wp_region_later (by kernel_rfl) (by kernel_rfl) ?_
        repeat (go_big_quiet_step (fail))
        go_big_quiet_step (exact later_of (containsP_any (HA.out.fresh (fresh_trans hf1 (Later.fresh _))) (C m) (S m) false ⟨(fun h => nomatch h), fun h => absurd h E.out⟩))
        refine wpQuiet_nil ?_
        rintro _ ⟨x, rfl⟩
        have hf2 := fresh_trans hf1 x.fresh
        go_wp2
        go_roundw
        case rel => exact ⟨m + 1, by omega, by go_num, fun k hk i hi => if h : k = m then fun e => E.out ⟨i, h ▸ hi, h ▸ e⟩ else HN.out k (by omega) i hi, hf2⟩
        case measure => simp [intOf]; omega
    · obtain rfl : m = n := by omega
      obtain rfl : r = true := HR.out.2 HN.out
      go_wp2
      go_ret
      exact ⟨rfl, hf⟩
end Go.Proofs.Yteiocgciblogdab
