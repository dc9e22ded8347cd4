import Derived.Test.YtmhjpfjhppcfoaaGreatDoorMJ
import Derived.Test.YtmhjpfjhppcfoaaGreatDoorMM
import Derived.Lib.AppendZeros
import Derived.Test.YtmhjpfjhppcfoaaGreatDoorMA
import Derived.Deep.RegionHeld3
import Derived.Deep.AppendLies
import Derived.Deep.DrawnRows
namespace Go.Proofs.YtmhjpfjhppcfoaaGreatDoor
open Go.RowKit
/-! counted, Index, Contains, unlike. -/
set_option maxHeartbeats 1000000 in
theorem counted_any {w : World} {d : VD} {bo po : Option Addr} {cb cp : Nat} (h1 : d.nb ≤ maxLen) (r : Bool) (hr : r = true ↔ d.cnt) :
    Calls Tryz.prog 178 #[.agg #[.slice bo d.nb cb, .slice po d.np cp]] w fun e w' => e = .returned (.bool r) ∧ Below w.heap.size w w' := by
  have HR := hidd hr
  unfold maxLen at h1
  clear hr
  have done : ∀ (s : Bool), (s = true ↔ d.cnt) → s = r := fun s h => by
    have := h.trans HR.out.symm
    cases s <;> cases r <;> simp_all
  have DN := hidd done
  clear done HR
  by_cases a1 : 1 ≤ d.nb
  · by_cases a2 : d.nb ≤ 48
    · by_cases a3 : d.np + d.nb ≤ 63
      · have e := DN.out true ⟨fun _ => ⟨a1, a2, a3⟩, fun _ => rfl⟩
        subst e
        clear DN
        go_enter Tryz.func178, Tryz.ntmps178
        go_wp2
        go_ret
        exact ⟨ret_bool (by go_num), fresh_alloc _ _⟩
      · have e := DN.out false ⟨(fun h => nomatch h), fun h => absurd h.2.2 a3⟩
        subst e
        clear DN
        go_enter Tryz.func178, Tryz.ntmps178
        go_wp2
        go_ret
        exact ⟨ret_bool (by go_num), fresh_alloc _ _⟩
    · have e := DN.out false ⟨(fun h => nomatch h), fun h => absurd h.2.1 a2⟩
      subst e
      clear DN
      go_enter Tryz.func178, Tryz.ntmps178
      go_wp2
      go_ret
      exact ⟨ret_bool (by go_num), fresh_alloc _ _⟩
  · have e := DN.out false ⟨(fun h => nomatch h), fun h => absurd h.1 a1⟩
    subst e
    clear DN
    go_enter Tryz.func178, Tryz.ntmps178
    go_wp2
    go_ret
    exact ⟨ret_bool (by go_num), fresh_alloc _ _⟩
end Go.Proofs.YtmhjpfjhppcfoaaGreatDoor
namespace Go.Proofs.YtmhjpfjhppcfoaaGreatDoor
open Go.RowKit
def Same (w wr : World) : Prop := wr = w
set_option maxHeartbeats 1000000 in
theorem indexB_any {w : World} {ao : Option Addr} {n cap : Nat} {f : Nat → Int} (ha : RdA w ao 1 n cap (fun i => .int .u8 (f i))) (x : Int) :
    Calls Tryz.prog 297 #[.slice ao n cap, .int .u8 x] w fun e w' => (∃ v : Int, e = .returned (.int .i64 v) ∧ (0 ≤ v ↔ ∃ i, i < n ∧ f i = x)) ∧ w' = w := by
  have hn : n ≤ 9223372036854775807 := by have := ha.le; have := ha.top; unfold maxLen at this; omega
  go_enter Tryz.func297, Tryz.ntmps297
  go_wp2
  go_loopw [8] (fun i wr => ∃ m : Nat, m ≤ n ∧ i = .int .i64 m ∧ Hid (∀ i, i < m → f i ≠ x) ∧ Same w wr) (fun i _ => n - (intOf i).toNat)
  case atStart => exact ⟨0, by omega, rfl, fun i hi => absurd hi (by omega), rfl⟩
  case round =>
    obtain ⟨m, hm, rfl, HN, hs⟩ := hrel
    unfold Same at hs
    subst hs
    by_cases hlt : m < n
    · obtain ⟨b1, o1, rfl, h1⟩ := ha.one (by omega)
      have c1 := h1 m (by omega)
      clear h1
      by_cases e : f m = x
      · have E := hidd e
        rw [e] at c1
        clear e
        go_wp2
        go_ret
        exact ⟨⟨_, rfl, ⟨fun _ => ⟨m, hlt, E.out⟩, fun _ => by omega⟩⟩, rfl⟩
      · have E := hidd e
        have e2 : ¬ x = f m := fun h => e h.symm
        go_wp2
        go_roundw
        case rel => exact ⟨m + 1, by omega, by go_num, fun i hi => if h : i = m then h ▸ E.out else HN.out i (by omega), (rfl : _ = _)⟩
        case measure => simp [intOf]; omega
    · obtain rfl : m = n := by omega
      go_wp2
      go_ret
      exact ⟨⟨_, rfl, ⟨fun h => absurd h (by omega), fun ⟨i, hi, e⟩ => absurd e (HN.out i hi)⟩⟩, rfl⟩
set_option maxHeartbeats 1000000 in
theorem containsB_any {w : World} {ao : Option Addr} {n cap : Nat} {f : Nat → Int} (ha : RdA w ao 1 n cap (fun i => .int .u8 (f i))) (x : Int) (r : Bool) (hr : r = true ↔ ∃ i, i < n ∧ f i = x) :
    Calls Tryz.prog 238 #[.slice ao n cap, .int .u8 x] w fun e w' => e = .returned (.bool r) ∧ w' = w := by
  have HR := hidd hr
  clear hr
  go_enter Tryz.func238, Tryz.ntmps238
  go_wp2_with fail
  refine (indexB_any ha x).mono ?_
  rintro e w2 ⟨⟨v, rfl, hv⟩, hw2⟩
  rw [hw2]
  have HV := hidd hv
  clear hw2 hv
  by_cases h0 : 0 ≤ v
  · obtain rfl : r = true := HR.out.2 (HV.out.1 h0)
    go_wp2
    go_ret
    exact ⟨ret_bool (by go_num), rfl⟩
  · obtain rfl : r = false := by
      cases r with
      | false => rfl
      | true => exact absurd (HV.out.2 (HR.out.1 rfl)) h0
    go_wp2
    go_ret
    exact ⟨ret_bool (by go_num), rfl⟩
set_option maxHeartbeats 1000000 in
theorem indexP_any {w : World} {ao : Option Addr} {n cap : Nat} {C S : Nat → Int} (ha : RdA w ao 2 n cap (tcs C S)) (x y : Int) :
    Calls Tryz.prog 298 #[.slice ao n cap, .agg #[.int .i64 x, .int .i64 y]] w fun e w' => (∃ v : Int, e = .returned (.int .i64 v) ∧ (0 ≤ v ↔ ∃ i, i < n ∧ C i = x ∧ S i = y)) ∧ Below w.heap.size w w' := by
  have hn : n ≤ 9223372036854775807 := by have := ha.le; have := ha.top; unfold maxLen at this; omega
  go_enter Tryz.func298, Tryz.ntmps298
  go_wp2
  have hf0 := fresh_alloc w (.cells #[.int .i64 x, .int .i64 y] 88)
  have K1 := hidd (show (w.alloc (.cells #[.int .i64 x, .int .i64 y] 88)).cell? ⟨w.heap.size, 0, none⟩ = some (.int .i64 x) by simp)
  have K2 := hidd (show (w.alloc (.cells #[.int .i64 x, .int .i64 y] 88)).cell? ⟨w.heap.size, 1, none⟩ = some (.int .i64 y) by simp)
  generalize w.alloc (.cells #[.int .i64 x, .int .i64 y] 88) = w1 at *
  go_loopw [8] (fun i wr => ∃ m : Nat, m ≤ n ∧ i = .int .i64 m ∧ Hid (∀ i, i < m → ¬ (C i = x ∧ S i = y)) ∧ Below w1.heap.size w1 wr) (fun i _ => n - (intOf i).toNat)
  case atStart => exact ⟨0, by omega, rfl, fun i hi => absurd hi (by omega), Below.refl _ _⟩
  case round =>
    obtain ⟨m, hm, rfl, HN, hfb⟩ := hrel
    have hf := fresh_trans hf0 hfb
    have k1 := fresh_cell hfb K1.out
    have k2 := fresh_cell hfb K2.out
    by_cases hlt : m < n
    · obtain ⟨b1, o1, rfl, h1⟩ := (ha.fresh hf).two (by omega)
      obtain ⟨c1, s1⟩ := h1 m (by omega)
      clear h1
      by_cases e : C m = x ∧ S m = y
      · have E := hidd e
        rw [e.1] at c1
        rw [e.2] at s1
        clear e
        have hq := eqP_true x y
        go_wp2
        go_quiet (fail)
        go_wp2
        go_ret
        exact ⟨⟨_, rfl, ⟨fun _ => ⟨m, hlt, E.out⟩, fun _ => by omega⟩⟩, below_drewN hf _⟩
      · have E := hidd e
        have hq := eqP_false (show ¬ (x = C m ∧ y = S m) from fun h => e ⟨h.1.symm, h.2.symm⟩)
        clear e
        go_wp2
        go_quiet (fail)
        go_wp2
        go_roundw
        case rel => exact ⟨m + 1, by omega, by go_num, fun i hi => if h : i = m then h ▸ E.out else HN.out i (by omega), below_drewN hfb _⟩
        case measure => simp [intOf]; omega
    · obtain rfl : m = n := by omega
      go_wp2
      go_ret
      exact ⟨⟨_, rfl, ⟨fun h => absurd h (by omega), fun ⟨i, hi, e⟩ => absurd e (HN.out i hi)⟩⟩, hf⟩
set_option maxHeartbeats 1000000 in
theorem containsP_any {w : World} {ao : Option Addr} {n cap : Nat} {C S : Nat → Int} (ha : RdA w ao 2 n cap (tcs C S)) (x y : Int) (r : Bool) (hr : r = true ↔ ∃ i, i < n ∧ C i = x ∧ S i = y) :
    Calls Tryz.prog 239 #[.slice ao n cap, .agg #[.int .i64 x, .int .i64 y]] w fun e w' => e = .returned (.bool r) ∧ Below w.heap.size w w' := by
  have HR := hidd hr
  clear hr
  go_enter Tryz.func239, Tryz.ntmps239
  go_wp2_with fail
  have hf0 := fresh_alloc w (.cells #[.int .i64 x, .int .i64 y] 88)
  refine (indexP_any (ha.fresh hf0) x y).mono ?_
  rintro e w2 ⟨⟨v, rfl, hv⟩, hw2⟩
  have hf2 := fresh_trans hf0 hw2
  have HV := hidd hv
  clear hw2 hv
  by_cases h0 : 0 ≤ v
  · obtain rfl : r = true := HR.out.2 (HV.out.1 h0)
    go_wp2
    go_ret
    exact ⟨ret_bool (by go_num), hf2⟩
  · obtain rfl : r = false := by
      cases r with
      | false => rfl
      | true => exact absurd (HV.out.2 (HR.out.1 rfl)) h0
    go_wp2
    go_ret
    exact ⟨ret_bool (by go_num), hf2⟩
end Go.Proofs.YtmhjpfjhppcfoaaGreatDoor
namespace Go.Proofs.YtmhjpfjhppcfoaaGreatDoor
open Go.RowKit
theorem RdA.take {w : World} {ao : Option Addr} {sz n cap m : Nat} {cs : Nat → Value} (h : RdA w ao sz n cap cs) (hm : m ≤ n) : RdA w ao sz m cap cs := by
  refine ⟨Nat.le_trans hm h.le, h.top, fun h0 => ?_⟩
  obtain ⟨b, off, rfl, hc⟩ := h.at_ (by omega)
  exact ⟨b, off, rfl, fun j hj => hc j (Nat.lt_of_lt_of_le hj (Nat.mul_le_mul_right _ hm))⟩
set_option maxHeartbeats 1000000 in
theorem unlikeB_any {w : World} {ao : Option Addr} {n cap : Nat} {f : Nat → Int} (ha : RdA w ao 1 n cap (fun i => .int .u8 (f i))) (r : Bool) (hr : r = true ↔ ∀ k, k < n → ∀ i, i < k → f i ≠ f k) :
    Calls Tryz.prog 179 #[.slice ao n cap] w fun e w' => e = .returned (.bool r) ∧ w' = w := by
  have hn : n ≤ 9223372036854775807 := by have := ha.le; have := ha.top; unfold maxLen at this; omega
  have HR := hidd hr
  clear hr
  go_enter Tryz.func179, Tryz.ntmps179
  go_wp2
  go_loopw [7] (fun i wr => ∃ m : Nat, m ≤ n ∧ i = .int .i64 m ∧ Hid (∀ k, k < m → ∀ i, i < k → f i ≠ f k) ∧ Same w wr) (fun i _ => n - (intOf i).toNat)
  case atStart => exact ⟨0, by omega, rfl, fun i hi => absurd hi (by omega), (rfl : _ = _)⟩
  case round =>
    obtain ⟨m, hm, rfl, HN, hs⟩ := hrel
    unfold Same at hs
    subst hs
    by_cases hlt : m < n
    · have HA := hidd (ha.take hm)
      have hcap := ha.le
      obtain ⟨b1, o1, rfl, h1⟩ := ha.one (by omega)
      have c1 := h1 m (by omega)
      clear h1
      by_cases e : ∃ i, i < m ∧ f i = f m
      · obtain rfl : r = false := by
          cases r with
          | false => rfl
          | true => obtain ⟨i, hi, e⟩ := e; exact absurd e (HR.out.1 rfl m hlt i hi)
        have E := hidd e
        clear e
        go_wp2_with fail
        refine (containsB_any HA.out (f m) true ⟨fun _ => E.out, fun _ => rfl⟩).mono ?_
        rintro e w2 ⟨rfl, hw2⟩
        rw [hw2]
        clear hw2
        go_wp2
        go_ret
        exact ⟨rfl, rfl⟩
      · have E := hidd e
        clear e
        go_wp2_with fail
        refine (containsB_any HA.out (f m) false ⟨(fun h => nomatch h), fun h => absurd h E.out⟩).mono ?_
        rintro e w2 ⟨rfl, hw2⟩
        rw [hw2]
        clear hw2
        go_wp2
        go_roundw
        case rel => exact ⟨m + 1, by omega, by go_num, fun k hk i hi => if h : k = m then fun e => E.out ⟨i, h ▸ hi, h ▸ e⟩ else HN.out k (by omega) i hi, (rfl : _ = _)⟩
        case measure => simp [intOf]; omega
    · obtain rfl : m = n := by omega
      obtain rfl : r = true := HR.out.2 HN.out
      go_wp2
      go_ret
      exact ⟨rfl, rfl⟩
set_option maxHeartbeats 1000000 in
theorem unlikeP_any {w : World} {ao : Option Addr} {n cap : Nat} {C S : Nat → Int} (ha : RdA w ao 2 n cap (tcs C S)) (r : Bool) (hr : r = true ↔ ∀ k, k < n → ∀ i, i < k → ¬ (C i = C k ∧ S i = S k)) :
    Calls Tryz.prog 180 #[.slice ao n cap] w fun e w' => e = .returned (.bool r) ∧ Below w.heap.size w w' := by
  have hn : n ≤ 9223372036854775807 := by have := ha.le; have := ha.top; unfold maxLen at this; omega
  have HR := hidd hr
  clear hr
  go_enter Tryz.func180, Tryz.ntmps180
  go_wp2
  go_loopw [7] (fun i wr => ∃ m : Nat, m ≤ n ∧ i = .int .i64 m ∧ Hid (∀ k, k < m → ∀ i, i < k → ¬ (C i = C k ∧ S i = S k)) ∧ Below w.heap.size w wr) (fun i _ => n - (intOf i).toNat)
  case atStart => exact ⟨0, by omega, rfl, fun i hi => absurd hi (by omega), Below.refl _ _⟩
  case round =>
    obtain ⟨m, hm, rfl, HN, hf⟩ := hrel
    by_cases hlt : m < n
    · have HA := hidd (ha.take hm)
      have hcap := ha.le
      have hsz := hf.size
      obtain ⟨b1, o1, rfl, h1⟩ := (ha.fresh hf).two (by omega)
      obtain ⟨c1, s1⟩ := h1 m (by omega)
      clear h1
      go_wp2
      have hf1 := hf.alloc hsz (.cells #[.int .i64 (C m), .int .i64 (S m)] 88)
      have K1 : (wr.alloc (.cells #[.int .i64 (C m), .int .i64 (S m)] 88)).cell? ⟨wr.heap.size, 0, none⟩ = some (.int .i64 (C m)) := by simp
      have K2 : (wr.alloc (.cells #[.int .i64 (C m), .int .i64 (S m)] 88)).cell? ⟨wr.heap.size, 1, none⟩ = some (.int .i64 (S m)) := by simp
      generalize wr.alloc (.cells #[.int .i64 (C m), .int .i64 (S m)] 88) = w1 at *
      clear c1 s1
      replace K1 := later_cell K1
      replace K2 := later_cell K2
      have ne := later_some w1
      by_cases e : ∃ i, i < m ∧ C i = C m ∧ S i = S m
      · obtain rfl : r = false := by
          cases r with
          | false => rfl
          | true => obtain ⟨i, hi, e⟩ := e; exact absurd e (HR.out.1 rfl m hlt i hi)
        have E := hidd e
        clear e
        refine wp_region_later (by kernel_rfl) (by kernel_rfl) ?_
        repeat (go_big_quiet_step (fail))
        go_big_quiet_step (exact later_of (containsP_any (HA.out.fresh (fresh_trans hf1 (Later.fresh _))) (C m) (S m) true ⟨fun _ => E.out, fun _ => rfl⟩))
        refine wpQuiet_nil ?_
        rintro _ ⟨x, rfl⟩
        have hf2 := fresh_trans hf1 x.fresh
        go_wp2
        go_ret
        exact ⟨rfl, hf2⟩
      · have E := hidd e
        clear e
        refine wp_region_later (by kernel_rfl) (by kernel_rfl) ?_
        repeat (go_big_quiet_step (fail))
        go_big_quiet_step (exact later_of (containsP_any (HA.out.fresh (fresh_trans hf1 (Later.fresh _))) (C m) (S m) false ⟨(fun h => nomatch h), fun h => absurd h E.out⟩))
        refine wpQuiet_nil ?_
        rintro _ ⟨x, rfl⟩
        have hf2 := fresh_trans hf1 x.fresh
        go_wp2
        go_roundw
        case rel => exact ⟨m + 1, by omega, by go_num, fun k hk i hi => if h : k = m then fun e => E.out ⟨i, h ▸ hi, h ▸ e⟩ else HN.out k (by omega) i hi, hf2⟩
        case measure => simp [intOf]; omega
    · obtain rfl : m = n := by omega
      obtain rfl : r = true := HR.out.2 HN.out
      go_wp2
      go_ret
      exact ⟨rfl, hf⟩
end Go.Proofs.YtmhjpfjhppcfoaaGreatDoor
namespace Go.Proofs.YtmhjpfjhppcfoaaGreatDoor
open Go.RowKit
/-! Grow, Concat. -/
theorem zeroCells_size (n : Nat) : (Builtin.zeroCells (Value.int .u8 0).cells n).size = n := by
  have h1 : (Value.int .u8 0).cells.size = 1 := rfl
  simp [Builtin.zeroCells, h1]
theorem own_zero (w : World) (t : TypeId) (cap : Nat) (cur : Array Value) (hc : cur.size = cap) (hm : cap ≤ maxLen) (cs : Nat → Value) : Own (w.drew.alloc (.cells cur t)) w.heap.size t 1 (.slice (some ⟨w.heap.size, 0, none⟩) 0 cap) 0 cs := by
  refine ⟨by simp, .inr ⟨w.heap.size, cap, cur, rfl, Nat.le_refl _, ?_, Nat.zero_le _, hm, by omega, by simp⟩⟩
  have : w.drew.heap = w.heap := rfl
  simp [World.alloc, this]
set_option maxHeartbeats 1000000 in
theorem grow_nil {w : World} (n : Nat) (hn : n ≤ 1000) (cs : Nat → Value) :
    Calls Tryz.prog 240 #[.slice none 0 0, .int .i64 n] w fun e w' => ∃ v, e = .returned v ∧ Own w' w.heap.size 5 1 v 0 cs ∧ Below w.heap.size w w' := by
  by_cases h0 : n = 0
  · subst h0
    go_enter Tryz.func240, Tryz.ntmps240
    go_wp2
    go_ret
    exact ⟨_, rfl, own_nil _ _ _ _ _, Below.refl _ _⟩
  · obtain ⟨i, hi, hz0, hz1, hz2⟩ := info_parts infoB
    have hr := fun ty => Lib.run_append_nil_zeros (P := Tryz.prog) w 32 3 ty 5 i (.int .u8 0) .i64 .i64 Tryz.underlying32 Tryz.underlying3 hi hz0 n (by omega) (by omega) (by omega) (by rw [hz2]; omega)
    have hGn : n ≤ grownCap w n 0 5 := grownCap_ge w _ _ _
    have hG63 : grownCap w n 0 5 ≤ maxLen := grownCap_le_maxLen w n 0 5 (by unfold maxLen; omega)
    have hsz : (Builtin.zeroCells (Value.int .u8 0).cells n ++ Builtin.zeroCells (Value.int .u8 0).cells (grownCap w n 0 5 - n)).size = grownCap w n 0 5 := by
      rw [Array.size_append, zeroCells_size, zeroCells_size]; omega
    generalize grownCap w n 0 5 = G at *
    generalize Builtin.zeroCells (Value.int .u8 0).cells n ++ Builtin.zeroCells (Value.int .u8 0).cells (G - n) = Z at *
    have HO := hidd (own_zero w 5 G Z hsz hG63 cs)
    have HF := hidd (show Below w.heap.size w (w.drew.alloc (.cells Z 5)) from ((Below.refl _ w).drew).alloc (Nat.le_refl _) _)
    unfold maxLen at hG63
    clear hsz hi hz0 hz1 hz2
    go_enter Tryz.func240, Tryz.ntmps240
    go_wp2_with (at_builtin; refine Lib.wpList_append_run _ rfl _ _ _ _ rfl _ _ rfl rfl _ _ (hr _) ?_)
    all_goals (go_ret; exact ⟨_, rfl, HO.out, HF.out⟩)
theorem grow_to {w : World} (n : Nat) (x : Int) (hx : x = (n : Int)) (hn : n ≤ 1000) (cs : Nat → Value) :
    Calls Tryz.prog 240 #[.slice none 0 0, .int .i64 x] w fun e w' => ∃ v, e = .returned v ∧ Own w' w.heap.size 5 1 v 0 cs ∧ Below w.heap.size w w' := by
  subst hx
  exact grow_nil n hn cs
def cat (n0 : Nat) (f0 f1 : Nat → Int) (j : Nat) : Int := if j < n0 then f0 j else f1 (j - n0)
theorem cat_lo {n0 : Nat} {f0 f1 : Nat → Int} {j : Nat} (h : j < n0) : cat n0 f0 f1 j = f0 j := if_pos h
theorem cat_hi {n0 : Nat} {f0 f1 : Nat → Int} (j : Nat) : cat n0 f0 f1 (n0 + j) = f1 j := by
  unfold cat; rw [if_neg (by omega), show n0 + j - n0 = j by omega]
set_option maxHeartbeats 1000000 in
theorem concat_two {w : World} {gb cg b0 b1 n0 n1 k0 k1 : Nat} {f0 f1 : Nat → Int} (h0 : w.cell? ⟨gb, 0, none⟩ = some (.slice (some ⟨b0, 0, none⟩) n0 k0)) (h1 : w.cell? ⟨gb, 1, none⟩ = some (.slice (some ⟨b1, 0, none⟩) n1 k1))
    (r0 : ∀ j, j < n0 → w.cell? ⟨b0, j, none⟩ = some (.int .u8 (f0 j))) (r1 : ∀ j, j < n1 → w.cell? ⟨b1, j, none⟩ = some (.int .u8 (f1 j))) (p0 : 0 < n0) (p1 : 0 < n1) (s0 : n0 ≤ 16) (s1 : n1 ≤ 16) :
    Calls Tryz.prog 181 #[.slice (some ⟨gb, 0, none⟩) 2 cg] w fun e w' => ∃ v, e = .returned v ∧ Own w' w.heap.size 5 1 v (n0 + n1) (fun j => .int .u8 (cat n0 f0 f1 j)) ∧ Below w.heap.size w w' := by
  have L0 : Hid (∀ w2, Below w.heap.size w w2 → ∀ j, j < n0 * 1 → w2.cell? ⟨b0, j, none⟩ = some ((fun j => Value.int .u8 (cat n0 f0 f1 j)) (0 * 1 + j))) := fun w2 hf j hj => by
    rw [fresh_cell hf (r0 j (by omega)), show 0 * 1 + j = j by omega]
    dsimp only
    rw [cat_lo (by omega)]
  have L1 : Hid (∀ w2, Below w.heap.size w w2 → ∀ j, j < n1 * 1 → w2.cell? ⟨b1, j, none⟩ = some ((fun j => Value.int .u8 (cat n0 f0 f1 j)) (n0 * 1 + j))) := fun w2 hf j hj => by
    rw [fresh_cell hf (r1 j (by omega)), show n0 * 1 + j = n0 + j by omega]
    dsimp only
    rw [cat_hi]
  clear r0 r1
  go_enter Tryz.func181, Tryz.ntmps181
  go_wp2
  refine wp_loop_rounds 3 ?_
  rw [rounds_succ]
  go_wp2
  rw [rounds_succ]
  go_wp2
  rw [rounds_succ]
  go_wp2_with fail
  refine (grow_to (n0 + n1) _ (by omega) (by omega) (fun j => .int .u8 (cat n0 f0 f1 j))).mono ?_
  rintro e w2 ⟨v2, rfl, hown2, hf2⟩
  have h0' := fresh_cell hf2 h0
  have h1' := fresh_cell hf2 h1
  have H1 := hidd h1
  clear h0 h1
  go_wp2
  refine wp_loop_rounds 3 ?_
  rw [rounds_succ]
  go_wp2_with (at_builtin; refine wpList_app _ rfl _ _ 32 rfl w.heap.size 5 (.int .u8 0) 1 1 Tryz.underlying32 infoB rfl (by decide) _ 0 (fun j => .int .u8 (cat n0 f0 f1 j)) rfl hown2 b0 n0 k0 rfl (L0.out w2 hf2) (fun _ _ => rfl) p0 (by unfold maxLen; omega) (by omega) hf2.size ?_)
  intro v3 w3 hown3 happ3
  have hf3 := happ3.below hf2 hown2 (Nat.le_refl _) hf2.size
  have h1' := fresh_cell hf3 H1.out
  clear happ3 hown2 h0'
  go_wp2
  rw [rounds_succ]
  go_wp2_with (at_builtin; refine wpList_app _ rfl _ _ 32 rfl w.heap.size 5 (.int .u8 0) 1 1 Tryz.underlying32 infoB rfl (by decide) _ n0 (fun j => .int .u8 (cat n0 f0 f1 j)) rfl hown3 b1 n1 k1 rfl (L1.out w3 hf3) (fun _ _ => rfl) p1 (by unfold maxLen; omega) (by omega) hf3.size ?_)
  intro v4 w4 hown4 happ4
  have hf4 := happ4.below hf3 hown3 (Nat.le_refl _) hf3.size
  clear happ4 hown3 h1'
  go_wp2
  rw [rounds_succ]
  go_wp2
  go_ret
  exact ⟨_, rfl, hown4, hf4⟩
end Go.Proofs.YtmhjpfjhppcfoaaGreatDoor
namespace Go.Proofs.YtmhjpfjhppcfoaaGreatDoor
open Go.RowKit
/-! One element of one cell more, at a step of a region that draws its order. -/
theorem step_app1 {P : Program} (w : World) {ops : Array Oper} {o : Oper} {a : Act} {K : Act → World → Prop} {Q : Exit → Act → World → Prop} {E : Prop} (hgd : o.guard = none) (s x : Operand) (t : TypeId)
    (ho : o.op = .call { callee := .builtin .append, args := #[s, x], argTypes := #[t, t] })
    (base : Nat) (e : TypeId) (z : Value) (bytes : Nat) (ht : P.underlying t = some (.slice e)) (hinfo : (P.info? e).map (fun i => (i.zero, i.size, i.bytes)) = some (some z, 1, bytes)) (h6 : z.cells.size = 1)
    (v : Value) (n : Nat) (cs : Nat → Value) (hs : a.eval s = v) (hown : Own w base e 1 v n cs)
    (g c : Nat) (hx : a.eval x = .slice (some ⟨g, 0, none⟩) 1 c) (hc : w.cell? ⟨g, 0, none⟩ = some (cs n)) (h1c : (cs n).oneCell' = true)
    (b1 : n < 9223372036854775807) (b2 : (n + 1) * bytes ≤ 140737488355328) (hb : base ≤ w.heap.size)
    (h : ∀ g' cap w', Own w' base e 1 (.slice (some ⟨g', 0, none⟩) (n + 1) cap) (n + 1) cs → App w w' v (.slice (some ⟨g', 0, none⟩) (n + 1) cap) → K (a.put o.dst (.slice (some ⟨g', 0, none⟩) (n + 1) cap)) w') :
    if Region.wanted o (yielded ops a.tmps) = true then Oper.wp P o a w K Q else E := by
  obtain ⟨i, hi, hz0, hz1, hz2⟩ := info_parts hinfo
  refine step_append_lies w hgd s x t ho base e i z 1 bytes ht hi hz0 hz1 hz2 h6 (by decide) v n _ hs hown ⟨g, 0, none⟩ 1 c [cs n] hx rfl ?_ (by simpa using h1c) (by decide) (by unfold maxLen; omega) b2 hb w.heap.size rfl ?_
  · intro j u hj
    match j, hj with
    | 0, hj => simp at hj; subst hj; rw [add_lit0]; exact hc
  · intro g' cap w' h2 h3 h4 h5
    refine h g' cap w' ?_ ⟨h3, fun k hk => ?_⟩
    · unfold Own
      have e1 := news_len n 1 1 cs
      simp only [Nat.mul_one] at e1 ⊢ h2
      rw [← e1]
      simpa using h2
    · simp only [Value.ownBlock, Option.some.injEq] at hk
      subst hk
      rcases h4 with h4 | h4
      · exact .inl h4
      · exact .inr (by omega)
/-- One element of two cells more. -/
theorem step_app2 {P : Program} (w : World) {ops : Array Oper} {o : Oper} {a : Act} {K : Act → World → Prop} {Q : Exit → Act → World → Prop} {E : Prop} (hgd : o.guard = none) (s x : Operand) (t : TypeId)
    (ho : o.op = .call { callee := .builtin .append, args := #[s, x], argTypes := #[t, t] })
    (base : Nat) (e : TypeId) (z : Value) (bytes : Nat) (ht : P.underlying t = some (.slice e)) (hinfo : (P.info? e).map (fun i => (i.zero, i.size, i.bytes)) = some (some z, 2, bytes)) (h6 : z.cells.size = 2)
    (v : Value) (n : Nat) (cs : Nat → Value) (hs : a.eval s = v) (hown : Own w base e 2 v n cs)
    (g c : Nat) (hx : a.eval x = .slice (some ⟨g, 0, none⟩) 1 c) (hc0 : w.cell? ⟨g, 0, none⟩ = some (cs (n * 2))) (hc1 : w.cell? ⟨g, 1, none⟩ = some (cs (n * 2 + 1))) (h1c : (cs (n * 2)).oneCell' = true) (h2c : (cs (n * 2 + 1)).oneCell' = true)
    (b1 : n < 9223372036854775807) (b2 : (n + 1) * bytes ≤ 140737488355328) (hb : base ≤ w.heap.size)
    (h : ∀ g' cap w', Own w' base e 2 (.slice (some ⟨g', 0, none⟩) (n + 1) cap) (n + 1) cs → App w w' v (.slice (some ⟨g', 0, none⟩) (n + 1) cap) → K (a.put o.dst (.slice (some ⟨g', 0, none⟩) (n + 1) cap)) w') :
    if Region.wanted o (yielded ops a.tmps) = true then Oper.wp P o a w K Q else E := by
  obtain ⟨i, hi, hz0, hz1, hz2⟩ := info_parts hinfo
  refine step_append_lies w hgd s x t ho base e i z 2 bytes ht hi hz0 hz1 hz2 h6 (by decide) v n _ hs hown ⟨g, 0, none⟩ 1 c [cs (n * 2), cs (n * 2 + 1)] hx rfl ?_ (by intro u hu; simp at hu; rcases hu with rfl | rfl <;> assumption) (by decide) (by unfold maxLen; omega) b2 hb w.heap.size rfl ?_
  · intro j u hj
    match j, hj with
    | 0, hj => simp at hj; subst hj; rw [add_lit0]; exact hc0
    | 1, hj => simp at hj; subst hj; rw [add_lit0]; exact hc1
  · intro g' cap w' h2 h3 h4 h5
    refine h g' cap w' ?_ ⟨h3, fun k hk => ?_⟩
    · unfold Own
      have e1 := news_len n 1 2 cs
      rw [← e1]
      exact h2
    · simp only [Value.ownBlock, Option.some.injEq] at hk
      subst hk
      rcases h4 with h4 | h4
      · exact .inl h4
      · exact .inr (by omega)
theorem App.cell {w w' : World} {v v' : Value} (h : App w w' v v') {b o : Nat} {x : Value} (hc : w.cell? ⟨b, o, none⟩ = some x) (hb : v.ownBlock ≠ some b) : w'.cell? ⟨b, o, none⟩ = some x :=
  h.grown.cell hc (fun e => hb e.symm)
end Go.Proofs.YtmhjpfjhppcfoaaGreatDoor
