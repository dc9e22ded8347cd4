import Derived.Test.YtlnbbnojkpdccaaRows
import Derived.Test.YtlnbbnojkpdccaaOwn
import Derived.BigQuiet
namespace Go.Proofs.Ytlnbbnojkpdccaa
open Go.RowKit
/-! Layer 9: small facts; EqInts, Or. -/
theorem infoIh : (Try.prog.info? 3).map (fun i => (i.zero, i.size, i.bytes)) = some (some (.int .i64 0), 1, 8) := by kernel_rfl
theorem infoW : (Try.prog.info? 2).map (fun i => (i.zero, i.size, i.bytes)) = some (some (.int .i64 0), 1, 8) := by kernel_rfl
theorem infoB : (Try.prog.info? 4).map (fun i => (i.zero, i.size, i.bytes)) = some (some (.bool false), 1, 1) := by kernel_rfl
theorem infoC : (Try.prog.info? 71).map (fun i => (i.zero, i.size, i.bytes)) = some (some (.agg #[.int .i64 0, .int .i64 0]), 2, 16) := by kernel_rfl
set_option maxRecDepth 20000 in
set_option maxHeartbeats 1600000 in
theorem eqInts_any {w : World} {ao bo : Option Addr} {n m ca cb : Nat} {f g : Nat → Int} (ha : RdA w ao 1 n ca (fun i => .int .i64 (f i))) (hb : RdA w bo 1 m cb (fun i => .int .i64 (g i))) :
    Calls Try.prog 11 #[.slice ao n ca, .slice bo m cb] w fun e w' => (∃ r : Bool, e = .returned (.bool r) ∧ (r = true ↔ n = m ∧ ∀ i, i < n → f i = g i)) ∧ Below w.heap.size w w' := by
  have hn : n ≤ 9223372036854775807 := by have := ha.le; have := ha.top; unfold maxLen at this; omega
  have hm : m ≤ 9223372036854775807 := by have := hb.le; have := hb.top; unfold maxLen at this; omega
  by_cases hnm : n = m
  · subst hnm
    go_enter Try.func11, Try.ntmps11
    go_wp2
    go_loopw [5] (fun i wr => ∃ k : Nat, k ≤ n ∧ i = .int .i64 k ∧ Hid (∀ j, j < k → f j = g j) ∧ Below w.heap.size w wr) (fun i _ => n - (intOf i).toNat)
    case atStart => exact ⟨0, by omega, rfl, fun j hj => absurd hj (by omega), Below.refl _ _⟩
    case round =>
      obtain ⟨k, hk, rfl, HE, hf⟩ := hrel
      by_cases hlt : k < n
      · obtain ⟨b1, o1, rfl, h1⟩ := (ha.fresh hf).one (by omega)
        obtain ⟨b2, o2, rfl, h2⟩ := (hb.fresh hf).one (by omega)
        have c1 := h1 k hlt
        have c2 := h2 k hlt
        clear h1 h2
        by_cases e : f k = g k
        · rw [← e] at c2
          have HE3 := hidd e
          clear e
          go_wp2
          go_quiet (fail)
          go_wp2
          go_roundw
          case rel => exact ⟨k + 1, by omega, by go_num, fun j hj => (by
            by_cases q : j = k
            · rw [q]; exact HE3.out
            · exact HE.out j (by omega)), below_drewN hf _⟩
          case measure => simp [intOf]; omega
        · have x3 : decide (f k = g k) = false := decide_eq_false e
          have HE3 := hidd e
          go_wp2
          go_quiet (fail)
          go_wp2
          go_ret
          exact ⟨⟨false, rfl, ⟨fun q => (by cases q), fun q => absurd (q.2 k hlt) HE3.out⟩⟩, below_drewN hf _⟩
      · obtain rfl : n = k := by omega
        go_wp2
        go_ret
        exact ⟨⟨true, rfl, ⟨fun _ => ⟨(by first | rfl | trivial), HE.out⟩, fun _ => rfl⟩⟩, hf⟩
  · have hne : ¬ (n : Int) = (m : Int) := by omega
    go_enter Try.func11, Try.ntmps11
    go_wp2
    go_ret
    exact ⟨⟨false, rfl, ⟨fun q => (by cases q), fun q => absurd q.1 hnm⟩⟩, Below.refl _ _⟩
theorem eq_rows {w : World} {ao bo : Option Addr} {n ca cb : Nat} {f g : Nat → Int} (ha : RdA w ao 1 n ca (fun i => .int .i64 (f i))) (hb : RdA w bo 1 n cb (fun i => .int .i64 (g i))) (he : ∀ i, i < n → f i = g i) :
    Calls Try.prog 11 #[.slice ao n ca, .slice bo n cb] w fun e w' => e = .returned (.bool true) ∧ Below w.heap.size w w' := by
  refine (eqInts_any ha hb).mono ?_
  rintro e w8 ⟨⟨r, rfl, hr⟩, f8⟩
  have : r = true := hr.2 ⟨rfl, he⟩
  subst this
  exact ⟨rfl, f8⟩
set_option maxRecDepth 20000 in
set_option maxHeartbeats 800000 in
theorem or_any {w : World} {g : Nat} {x y : Int} (h0 : w.cell? ⟨g, 0, none⟩ = some (.int .i64 x)) (h1 : w.cell? ⟨g, 1, none⟩ = some (.int .i64 y)) :
    Calls Try.prog 38 #[.slice (some ⟨g, 0, none⟩) 2 2] w fun e w' => e = .returned (.int .i64 (if x = 0 then y else x)) ∧ w' = w := by
  by_cases hx : x = 0
  · subst hx
    by_cases hy : y = 0
    · subst hy
      go_enter Try.func38, Try.ntmps38
      go_wp2
      refine wp_loop_rounds 3 ?_
      rw [rounds_succ]
      go_wp2
      rw [rounds_succ]
      go_wp2
      rw [rounds_succ]
      go_wp2
      go_ret
      exact ⟨rfl, rfl⟩
    · have hd : (y != 0) = true := by simp [hy]
      go_enter Try.func38, Try.ntmps38
      go_wp2
      refine wp_loop_rounds 2 ?_
      rw [rounds_succ]
      go_wp2
      rw [rounds_succ]
      go_wp2
      go_ret
      exact ⟨rfl, rfl⟩
  · have hd : (x != 0) = true := by simp [hx]
    have HX := hidd hx
    go_enter Try.func38, Try.ntmps38
    go_wp2
    refine wp_loop_rounds 1 ?_
    rw [rounds_succ]
    go_wp2
    go_ret
    exact ⟨by first | rfl | (rw [if_neg HX.out]), rfl⟩
end Go.Proofs.Ytlnbbnojkpdccaa
