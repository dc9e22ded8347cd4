import Derived.Test.YtjjfbpjejhjdiabDoorPkD
namespace Go.Proofs.YtjjfbpjejhjdiabDoor
open Go.RowKit
/-! The reference's order: Ahead, Rank, Order. -/
instance (x y : Int × Int) : Decidable (AheadP x y) := by unfold AheadP; infer_instance
def rkN (f : Nat → Int) (n i : Nat) : Nat := (cand f n).countP fun x => decide (AheadP x ((i : Int), f i))
theorem cand_succ (f : Nat → Int) (k : Nat) : cand f (k + 1) = cand f k ++ [((k : Int), f k)] := by
  unfold cand
  rw [List.range_succ, List.map_append]
  rfl
theorem rkN_succ (f : Nat → Int) (k i : Nat) : rkN f (k + 1) i = rkN f k i + if AheadP ((k : Int), f k) ((i : Int), f i) then 1 else 0 := by
  unfold rkN
  rw [cand_succ, List.countP_append, List.countP_singleton]
  simp
theorem rkN_le (f : Nat → Int) (k i : Nat) : rkN f k i ≤ k := by
  unfold rkN
  have := List.countP_le_length (p := fun x => decide (AheadP x ((i : Int), f i))) (l := cand f k)
  rw [cand_len] at this
  exact this
theorem rkN_sg {f : Nat → Int} {n k : Nat} (hk : k < n) : rkN f n (sg f n k) = k := by
  unfold rkN
  rw [← (ordL_perm f n).countP_eq]
  have hg := (ordL_get (f := f) hk).1
  have hl := ordL_len f n
  rw [← List.take_append_drop k (ordL f n), List.countP_append]
  have hs := List.pairwise_iff_getElem.1 (ordL_sorted f n)
  have hgk : (ordL f n)[k]'(by omega) = ((sg f n k : Int), f (sg f n k)) := by
    rw [List.getElem?_eq_getElem (by omega)] at hg
    exact Option.some.inj hg
  have h1 : ((ordL f n).take k).countP (fun x => decide (AheadP x ((sg f n k : Int), f (sg f n k)))) = k := by
    rw [List.countP_eq_length.2 ?_, List.length_take]
    · omega
    · intro x hx
      obtain ⟨j, hj, rfl⟩ := List.getElem_of_mem hx
      rw [List.length_take] at hj
      have := hs j k (by omega) (by omega) (by omega)
      rw [hgk] at this
      simp only [List.getElem_take]
      exact decide_eq_true this
  have h2 : ((ordL f n).drop k).countP (fun x => decide (AheadP x ((sg f n k : Int), f (sg f n k)))) = 0 := by
    rw [List.countP_eq_zero]
    intro x hx
    obtain ⟨j, hj, rfl⟩ := List.getElem_of_mem hx
    rw [List.length_drop] at hj
    simp only [List.getElem_drop, decide_eq_true_eq]
    intro hA
    by_cases e : j = 0
    · subst e
      simp only [Nat.add_zero] at hA
      rw [hgk] at hA
      unfold AheadP at hA
      simp only at hA
      omega
    · have := hs k (k + j) (by omega) (by omega) (by omega)
      rw [hgk] at this
      unfold AheadP at hA this
      simp only at hA this
      omega
  rw [h1, h2, Nat.add_zero]
set_option maxRecDepth 20000 in
set_option maxHeartbeats 1600000 in
theorem ahead_ref {w : World} {ao : Option Addr} {n cap : Nat} {f : Nat → Int} (h : RdA w ao 1 n cap (fun i => .int .i64 (f i))) {i j : Nat} (hi : i < n) (hj : j < n) :
    Calls Tryd.prog 65 #[.slice ao n cap, .int .i64 (i : Int), .int .i64 (j : Int)] w fun e w' => e = .returned (.bool (decide (AheadP ((i : Int), f i) ((j : Int), f j)))) ∧ Below w.heap.size w w' := by
  obtain ⟨b1, o1, rfl, hc⟩ := h.one (by omega)
  have d1 := hc i hi
  have d2 := hc j hj
  have hle := h.le
  have htop := h.top
  unfold maxLen at htop
  clear hc h
  have i0 : (0 : Int) ≤ (i : Int) := by omega
  have i1 : (i : Int) < (n : Int) := by omega
  have j0 : (0 : Int) ≤ (j : Int) := by omega
  have j1 : (j : Int) < (n : Int) := by omega
  by_cases c1 : f j < f i
  · have e0 : decide (AheadP ((i : Int), f i) ((j : Int), f j)) = true := decide_eq_true (.inl c1)
    have c1' : decide (f j < f i) = true := decide_eq_true c1
    rw [e0]
    clear e0
    go_enter Tryd.func65, Tryd.ntmps65
    go_wp2
    go_quiet (fail)
    go_wp2
    go_ret
    exact ⟨rfl, below_drewN (Below.refl _ _) _⟩
  · have c1' : decide (f j < f i) = false := decide_eq_false c1
    by_cases c2 : f i = f j
    · by_cases c3 : (i : Int) < (j : Int)
      · have e0 : decide (AheadP ((i : Int), f i) ((j : Int), f j)) = true := decide_eq_true (.inr ⟨c2, c3⟩)
        have c3' : decide ((i : Int) < (j : Int)) = true := decide_eq_true c3
        rw [e0]
        rw [c2] at d1 c1'
        clear e0 c2 c1
        go_enter Tryd.func65, Tryd.ntmps65
        go_wp2
        go_quiet (fail)
        go_wp2
        go_ret
        exact ⟨by first | rfl | simp [c3], below_drewN (Below.refl _ _) _⟩
      · have e0 : decide (AheadP ((i : Int), f i) ((j : Int), f j)) = false := decide_eq_false (by unfold AheadP; simp only; omega)
        have c3' : decide ((i : Int) < (j : Int)) = false := decide_eq_false c3
        have c3n : ¬ i < j := by omega
        rw [e0]
        rw [c2] at d1 c1'
        clear e0 c2 c1
        go_enter Tryd.func65, Tryd.ntmps65
        go_wp2
        go_quiet (fail)
        go_wp2
        go_ret
        exact ⟨by first | rfl | simp [c3] | simp [c3n], below_drewN (Below.refl _ _) _⟩
    · have e0 : decide (AheadP ((i : Int), f i) ((j : Int), f j)) = false := decide_eq_false (by unfold AheadP; simp only; omega)
      have c2' : (f i == f j) = false := by simpa using c2
      have c2n : decide (f i = f j) = false := decide_eq_false c2
      rw [e0]
      clear e0
      go_enter Tryd.func65, Tryd.ntmps65
      go_wp2
      go_quiet (fail)
      go_wp2
      go_ret
      exact ⟨rfl, below_drewN (Below.refl _ _) _⟩
end Go.Proofs.YtjjfbpjejhjdiabDoor
