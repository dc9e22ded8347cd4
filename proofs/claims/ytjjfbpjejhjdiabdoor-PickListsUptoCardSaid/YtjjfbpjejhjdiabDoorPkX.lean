import Derived.Test.YtjjfbpjejhjdiabDoorPkS
import Derived.Test.YtjjfbpjejhjdiabDoorPkV
namespace Go.Proofs.YtjjfbpjejhjdiabDoor
open Go.RowKit
/-! PickSound: what the chances are. -/
theorem getD_take {A : List (Int × Int)} {m k : Nat} (h : k < m) : (A.take m).getD k (0, 0) = A.getD k (0, 0) := by
  rw [List.getD_eq_getElem?_getD, List.getD_eq_getElem?_getD, List.getElem?_take, if_pos h]
theorem topL_get {j : Int} {A : List (Int × Int)} {k : Nat} (h : k < (topL j A).length) : (topL j A).getD k (0, 0) = A.getD k (0, 0) := by
  unfold topL at h ⊢
  split
  · rfl
  · rename_i hj
    rw [if_neg hj, List.length_take] at h
    exact getD_take (by omega)
theorem weL_get {temp : Int} {A : List (Int × Int)} {k : Nat} (h : k < A.length) : (weL temp A).getD k (0, 0) = ((A.getD k (0, 0)).1, wt temp (A.getD 0 (0, 0)).2 (A.getD k (0, 0)).2) := by
  unfold weL
  have e2 : A.headD (0, 0) = A.getD 0 (0, 0) := by cases A <;> rfl
  rw [List.getD_eq_getElem?_getD, List.getElem?_map, List.getElem?_eq_getElem h, e2]
  have e1 : A.getD k (0, 0) = A[k] := by rw [List.getD_eq_getElem?_getD, List.getElem?_eq_getElem h]; rfl
  rw [e1]
  rfl
theorem pkL_mem : ∀ (L : List (Int × Int)) (u : Int), u < pre L L.length → 0 < L.length → 0 ≤ u → ∃ k, k < L.length ∧ pkL L u = (L.getD k (0, 0)).1
  | [], _, _, h, _ => absurd h (by simp)
  | x :: L, u, h, _, h0 => by
    unfold pkL
    by_cases q : u < x.2
    · rw [if_pos q]
      exact ⟨0, by simp, rfl⟩
    · rw [if_neg q]
      have h1 : u - x.2 < pre L L.length := by
        have : pre (x :: L) (x :: L).length = x.2 + pre L L.length := rfl
        omega
      cases hL : L with
      | nil => rw [hL] at h1; have : pre ([] : List (Int × Int)) ([] : List (Int × Int)).length = 0 := rfl; omega
      | cons y r =>
        obtain ⟨k, hk, e⟩ := pkL_mem L (u - x.2) h1 (by rw [hL]; simp) (by omega)
        rw [hL] at hk e
        exact ⟨k + 1, by simpa using hk, e⟩
/-- the chances are sound -/
structure SoundL (L : List (Int × Int)) (n : Nat) (M : Nat → Bool) : Prop where
  tok : ∀ k, k < L.length → ∃ i : Nat, i < n ∧ (L.getD k (0, 0)).1 = (i : Int) ∧ M i = true
  pos : ∀ k, k < L.length → 1 ≤ (L.getD k (0, 0)).2
  one : 0 < L.length → (L.getD 0 (0, 0)).2 = 65536
  fall : ∀ k, k + 1 < L.length → (L.getD (k + 1) (0, 0)).2 ≤ (L.getD k (0, 0)).2
  apart : ∀ j k, j < k → k < L.length → (L.getD j (0, 0)).1 ≠ (L.getD k (0, 0)).1
theorem canL_ahead {g : Nat → Int} {n : Nat} {M : Nat → Bool} {j k : Nat} (hjk : j < k) (hk : k < (canL g n M).length) : AheadP ((canL g n M).getD j (0, 0)) ((canL g n M).getD k (0, 0)) := by
  have hp : (canL g n M).Pairwise fun x y => AheadP x y := List.Pairwise.filter _ (ordL_sorted g n)
  have := List.pairwise_iff_getElem.1 hp j k (by omega) hk hjk
  rw [List.getD_eq_getElem?_getD, List.getD_eq_getElem?_getD, List.getElem?_eq_getElem hk, List.getElem?_eq_getElem (by omega)]
  exact this
theorem canL_tok {g : Nat → Int} {n : Nat} {M : Nat → Bool} {k : Nat} (hk : k < (canL g n M).length) : ∃ i : Nat, i < n ∧ (canL g n M).getD k (0, 0) = ((i : Int), g i) ∧ M i = true := canL_mem (getD_mem hk)
theorem canL_apart {g : Nat → Int} {n : Nat} {M : Nat → Bool} {j k : Nat} (hjk : j < k) (hk : k < (canL g n M).length) : ((canL g n M).getD j (0, 0)).1 ≠ ((canL g n M).getD k (0, 0)).1 := fun e => by
  have h := canL_ahead hjk hk
  obtain ⟨i, _, ei, _⟩ := canL_tok (g := g) (M := M) (show j < (canL g n M).length by omega)
  obtain ⟨i', _, ei', _⟩ := canL_tok (g := g) (M := M) hk
  rw [ei, ei'] at e h
  simp only at e
  have : i = i' := by omega
  subst this
  unfold AheadP at h
  simp only at h
  omega
/-- where a weight is 0, the sum stands still -/
theorem pre_still {U : List (Int × Int)} {k : Nat} (h0 : ∀ j, k ≤ j → j < U.length → (U.getD j (0, 0)).2 = 0) : ∀ d, k + d ≤ U.length → pre U (k + d) = pre U k
  | 0, _ => rfl
  | d + 1, h => by
    have h1 := pre_still h0 d (by omega)
    rw [show k + (d + 1) = k + d + 1 by omega, pre_succ U (k + d) (by omega), h0 (k + d) (by omega) (by omega), h1]
    omega
theorem chL_sound {p : Prm} (ok : p.Ok) (g : Nat → Int) (n : Nat) (M : Nat → Bool) : SoundL (chL p g n M) n M := by
  have hone := chL_head p g n M
  unfold chL at hone ⊢
  by_cases ht : p.temp = 0
  · rw [if_pos ht] at hone ⊢
    have hl : (((canL g n M).take 1).map fun x => (x.1, (65536 : Int))).length ≤ 1 := by rw [List.length_map, List.length_take]; omega
    refine ⟨fun k hk => ?_, fun k hk => ?_, hone, fun k hk => by omega, fun j k hjk hk => by omega⟩
    · obtain rfl : k = 0 := by omega
      cases hc : canL g n M with
      | nil => rw [hc] at hk; simp at hk
      | cons x r =>
        obtain ⟨i, hi, e, hM⟩ := canL_mem (g := g) (n := n) (M := M) (x := x) (by rw [hc]; simp)
        exact ⟨i, hi, by show x.1 = (i : Int); rw [e], hM⟩
    · obtain rfl : k = 0 := by omega
      rw [hone hk]; omega
  · rw [if_neg ht] at hone ⊢
    have t0 : 0 < p.temp := by have := ok.t0; omega
    generalize hB : topL p.topk (canL g n M) = B at *
    have lB : B.length ≤ (canL g n M).length := by
      rw [← hB]
      unfold topL
      split
      · exact Nat.le_refl _
      · rw [List.length_take]; omega
    have gB : ∀ k, k < B.length → B.getD k (0, 0) = (canL g n M).getD k (0, 0) := fun k hk => by rw [← hB] at hk ⊢; exact topL_get hk
    have bU := weL_bd p.temp B
    have lU : (weL p.temp B).length = B.length := weL_len _ _
    have gU : ∀ k, k < B.length → (weL p.temp B).getD k (0, 0) = ((B.getD k (0, 0)).1, wt p.temp (B.getD 0 (0, 0)).2 (B.getD k (0, 0)).2) := fun k hk => weL_get hk
    have fB : ∀ j k, j < k → k < B.length → (B.getD k (0, 0)).2 ≤ (B.getD j (0, 0)).2 := fun j k hjk hk => by
      have := canL_ahead (g := g) (n := n) (M := M) hjk (by omega)
      rw [gB j (by omega), gB k hk]
      unfold AheadP at this
      omega
    have fU : ∀ j k, j < k → k < B.length → ((weL p.temp B).getD k (0, 0)).2 ≤ ((weL p.temp B).getD j (0, 0)).2 := fun j k hjk hk => by
      rw [gU j (by omega), gU k hk]
      exact wt_mono t0 (fB j k hjk hk)
    have cU := cutN_is (cut_ex (tp := p.topp) bU ok.p1)
    have gl := goal_le (tp := p.topp) bU ok.p1
    generalize cutN (goalOf p.topp (weL p.temp B)) (weL p.temp B) = m at *
    have hm := cU.le
    have lL : ((weL p.temp B).take m).length = m := by rw [List.length_take]; omega
    rw [lU] at hm
    refine ⟨fun k hk => ?_, fun k hk => ?_, hone, fun k hk => ?_, fun j k hjk hk => ?_⟩
    · rw [lL] at hk
      rw [getD_take hk, gU k (by omega)]
      obtain ⟨i, hi, e, hM⟩ := canL_tok (g := g) (n := n) (M := M) (k := k) (by omega)
      exact ⟨i, hi, by show (B.getD k (0, 0)).1 = (i : Int); rw [gB k (by omega), e], hM⟩
    · rw [lL] at hk
      rw [getD_take hk]
      have hnn := (bU _ (getD_mem (A := weL p.temp B) (i := k) (by omega))).1
      by_cases q : ((weL p.temp B).getD k (0, 0)).2 = 0
      · exfalso
        have h1 := cU.lt k hk
        have h2 := pre_still (U := weL p.temp B) (k := k) (fun j h1 h2 => by
          by_cases e : j = k
          · rw [e]; exact q
          · have h3 := fU k j (by omega) (by omega)
            have h4 := (bU _ (getD_mem (A := weL p.temp B) (i := j) h2)).1
            omega) ((weL p.temp B).length - k) (by omega)
        rw [show k + ((weL p.temp B).length - k) = (weL p.temp B).length by omega] at h2
        omega
      · omega
    · rw [lL] at hk
      rw [getD_take hk, getD_take (by omega)]
      exact fU k (k + 1) (by omega) (by omega)
    · rw [lL] at hk
      rw [getD_take hk, getD_take (by omega), gU k (by omega), gU j (by omega)]
      show (B.getD j (0, 0)).1 ≠ (B.getD k (0, 0)).1
      rw [gB k (by omega), gB j (by omega)]
      exact canL_apart hjk (by omega)
theorem chL_some {p : Prm} (ok : p.Ok) (g : Nat → Int) (n : Nat) (M : Nat → Bool) : 0 < (chL p g n M).length ↔ ∃ i, i < n ∧ M i = true := by
  constructor
  · intro h
    obtain ⟨i, hi, _, hM⟩ := (chL_sound ok g n M).tok 0 h
    exact ⟨i, hi, hM⟩
  · rintro ⟨i, hi, hM⟩
    have hmem : ((i : Int), g i) ∈ canL g n M := by
      unfold canL
      exact List.mem_filter.2 ⟨ordL_mem.2 ⟨i, hi, rfl⟩, by simpa using hM⟩
    unfold chL
    split
    · rw [List.length_map, List.length_take]
      have := List.length_pos_of_mem hmem
      omega
    · have hk : 0 < (topL p.topk (canL g n M)).length := by
        have h1 := List.length_pos_of_mem hmem
        have k0 := ok.k0
        unfold topL
        split
        · exact h1
        · rename_i hk
          rw [List.length_take]
          have : 0 < p.topk.toNat := by omega
          omega
      generalize topL p.topk (canL g n M) = B at *
      have bU := weL_bd p.temp B
      have lU : (weL p.temp B).length = B.length := weL_len _ _
      have cU := cutN_is (cut_ex (tp := p.topp) bU ok.p1)
      generalize cutN (goalOf p.topp (weL p.temp B)) (weL p.temp B) = m at *
      have hm := cU.le
      rw [List.length_take]
      by_cases q : m = 0
      · exfalso
        have h1 := cU.ge
        rw [q, pre_zero] at h1
        have h2 := pre_mono bU (j := 1) (k := (weL p.temp B).length) (by omega) (Nat.le_refl _)
        rw [pre_succ _ 0 (by omega), pre_zero, weL_get hk, wt_self] at h2
        have p0 := ok.p0
        have h3 : goalOf p.topp (weL p.temp B) = p.topp * pre (weL p.temp B) (weL p.temp B).length := rfl
        have h4 : 1 * pre (weL p.temp B) (weL p.temp B).length ≤ p.topp * pre (weL p.temp B) (weL p.temp B).length := Int.mul_le_mul_of_nonneg_right p0 (by omega)
        omega
      · omega
theorem chL_topk {p : Prm} (ok : p.Ok) (hk : p.topk ≠ 0) (g : Nat → Int) (n : Nat) (M : Nat → Bool) : ((chL p g n M).length : Int) ≤ p.topk := by
  have k0 := ok.k0
  unfold chL
  split
  · rw [List.length_map, List.length_take]; omega
  · rw [List.length_take, weL_len]
    have : (topL p.topk (canL g n M)).length ≤ p.topk.toNat := by
      unfold topL
      rw [if_neg hk, List.length_take]
      omega
    omega
end Go.Proofs.YtjjfbpjejhjdiabDoor
