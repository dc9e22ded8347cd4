import Derived.Test.YtjjfbpjejhjdiabDoorPkO
namespace Go.Proofs.YtjjfbpjejhjdiabDoor
open Go.RowKit
/-! PickGreedy: what is chosen. -/
theorem PrmAt.topk {w : World} {b : Nat} {p : Prm} (h : PrmAt w b p) (x : Int) : PrmAt (w.setCell ⟨b, 1, none⟩ (.int .i64 x)) b { p with topk := x } := by
  refine ⟨?_, ?_, ?_, ?_, ?_, fun j => by rw [World.frozen?_setCell]; exact h.fz j⟩
  · rw [World.cell?_setCell_other _ _ _ _ (by simp)]; exact h.c0
  · exact World.cell?_setCell_same _ _ _ h.c1
  · rw [World.cell?_setCell_other _ _ _ _ (by simp)]; exact h.c2
  · rw [World.cell?_setCell_other _ _ _ _ (by simp)]; exact h.c3
  · rw [World.cell?_setCell_other _ _ _ _ (by simp)]; exact h.c4
theorem choi_one (p : Prm) (pos t : Int) : choi p pos [(t, 65536)] = t := by
  unfold choi
  have e : (pre [(t, (65536 : Int))] [(t, (65536 : Int))].length) = 65536 := rfl
  rw [e]
  have h := drw_lt p pos (S := 65536) (by decide)
  show pkL [(t, (65536 : Int))] ((drw p pos 65536 : Nat) : Int) = t
  unfold pkL
  rw [if_pos (by show ((drw p pos 65536 : Nat) : Int) < 65536; omega)]
theorem chL_one {p : Prm} (ok : p.Ok) (h : p.temp = 0 ∨ p.topk = 1) (g : Nat → Int) (n : Nat) (M : Nat → Bool) : chL p g n M = ((canL g n M).take 1).map fun x => (x.1, 65536) := by
  unfold chL
  split
  · rfl
  · rename_i h0
    have hk : p.topk = 1 := by rcases h with h | h <;> first | exact absurd h h0 | exact h
    have e1 : topL p.topk (canL g n M) = (canL g n M).take 1 := by unfold topL; rw [hk]; rfl
    rw [e1]
    cases canL g n M with
    | nil => simp [weL]
    | cons x r =>
      have e2 : weL p.temp ((x :: r).take 1) = [(x.1, 65536)] := by
        show [(x.1, wt p.temp x.2 x.2)] = _
        rw [wt_self]
      rw [e2]
      have hc : IsCut (goalOf p.topp [(x.1, 65536)]) [(x.1, 65536)] 1 := by
        have eg : goalOf p.topp [(x.1, 65536)] = p.topp * 65536 := rfl
        have p0 := ok.p0
        have p1 := ok.p1
        refine ⟨Nat.le_refl _, fun k hk => ?_, ?_⟩
        · obtain rfl : k = 0 := by omega
          rw [eg, pre_zero]; omega
        · rw [eg]
          show p.topp * 65536 ≤ 65536 * 1000
          omega
      rw [cutN_eq hc]
      rfl
/-- the best so far -/
def BestAt (M : Nat → Bool) (f : Nat → Int) (k : Nat) (x : Int) : Prop := (x = -1 ∧ ∀ j, j < k → M j = false) ∨ ∃ i : Nat, i < k ∧ x = (i : Int) ∧ M i = true ∧ ∀ j, j < k → M j = true → f j < f i ∨ (f j = f i ∧ i ≤ j)
theorem canL_first {g : Nat → Int} {n : Nat} {M : Nat → Bool} {x : Int × Int} {r : List (Int × Int)} (h : canL g n M = x :: r) : ∃ i : Nat, i < n ∧ x.1 = (i : Int) ∧ M i = true ∧ ∀ j, j < n → M j = true → g j < g i ∨ (g j = g i ∧ i ≤ j) := by
  obtain ⟨i, hi, rfl, hM⟩ := canL_mem (g := g) (n := n) (M := M) (x := x) (by rw [h]; simp)
  refine ⟨i, hi, rfl, hM, fun j hj hMj => ?_⟩
  have hp : (canL g n M).Pairwise fun x y => AheadP x y := List.Pairwise.filter _ (ordL_sorted g n)
  rw [h] at hp
  have hmem : ((j : Int), g j) ∈ canL g n M := by
    unfold canL
    exact List.mem_filter.2 ⟨ordL_mem.2 ⟨j, hj, rfl⟩, by simpa using hMj⟩
  rw [h] at hmem
  rcases List.mem_cons.1 hmem with e | e
  · simp only [Prod.mk.injEq] at e
    have : j = i := by omega
    subst this
    exact .inr ⟨rfl, Nat.le_refl _⟩
  · have := (List.pairwise_cons.1 hp).1 _ e
    unfold AheadP at this
    simp only at this
    omega
theorem canL_none {g : Nat → Int} {n : Nat} {M : Nat → Bool} (h : ∀ j, j < n → M j = false) : canL g n M = [] := by
  cases hc : canL g n M with
  | nil => rfl
  | cons x r =>
    obtain ⟨i, hi, _, hM, _⟩ := canL_first hc
    rw [h i hi] at hM
    cases hM
/-- what is chosen is the best -/
theorem greedy_is {p : Prm} (ok : p.Ok) (hp : p.pen = 256) (h : p.temp = 0 ∨ p.topk = 1) (pos : Int) {n l : Nat} {f s : Nat → Int} {b : Nat → Bool} {x : Int} (hf : ∀ j, j < n → -16777216 ≤ f j ∧ f j ≤ 16777216) (hb : BestAt (mayB l b) f n x) :
    choi p pos (chOf p n 0 l f s b) = if x < 0 then 0 else x := by
  unfold chOf
  rw [chL_one ok h, hp]
  rcases hb with ⟨rfl, hn⟩ | ⟨i, hi, rfl, hM, hmax⟩
  · rw [canL_none hn]
    rfl
  · rw [if_neg (by omega)]
    cases hc : canL (scF 256 f (seenB s 0)) n (mayB l b) with
    | nil =>
      exfalso
      have hmem : ((i : Int), scF 256 f (seenB s 0) i) ∈ canL (scF 256 f (seenB s 0)) n (mayB l b) := by
        unfold canL
        exact List.mem_filter.2 ⟨ordL_mem.2 ⟨i, hi, rfl⟩, by simpa using hM⟩
      rw [hc] at hmem
      cases hmem
    | cons y r =>
      obtain ⟨i', hi', e, hM', hmax'⟩ := canL_first hc
      have h1 := hmax i' hi' hM'
      have h2 := hmax' i hi hM
      rw [scF_256, scF_256, cw_small (hf i hi).1 (hf i hi).2, cw_small (hf i' hi').1 (hf i' hi').2] at h2
      have ei : i = i' := by omega
      show choi p pos [(y.1, 65536)] = (i : Int)
      rw [choi_one, e, ei]
theorem BestAt.start (M : Nat → Bool) (f : Nat → Int) : BestAt M f 0 (-1) := .inl ⟨rfl, fun j hj => absurd hj (by omega)⟩
theorem BestAt.skip {M : Nat → Bool} {f : Nat → Int} {k : Nat} {x : Int} (h : BestAt M f k x) (hM : M k = false) : BestAt M f (k + 1) x := by
  rcases h with ⟨e, hn⟩ | ⟨i, hi, e, hMi, hm⟩
  · exact .inl ⟨e, fun j hj => by
      by_cases q : j = k
      · rw [q]; exact hM
      · exact hn j (by omega)⟩
  · exact .inr ⟨i, by omega, e, hMi, fun j hj hMj => by
      by_cases q : j = k
      · rw [q, hM] at hMj; cases hMj
      · exact hm j (by omega) hMj⟩
theorem BestAt.first {M : Nat → Bool} {f : Nat → Int} {k : Nat} (hn : ∀ j, j < k → M j = false) (hM : M k = true) : BestAt M f (k + 1) (k : Int) :=
  .inr ⟨k, by omega, rfl, hM, fun j hj hMj => by
    by_cases q : j = k
    · subst q; exact .inr ⟨rfl, Nat.le_refl _⟩
    · rw [hn j (by omega)] at hMj; cases hMj⟩
theorem BestAt.more {M : Nat → Bool} {f : Nat → Int} {k i : Nat} (hm : ∀ j, j < k → M j = true → f j < f i ∨ (f j = f i ∧ i ≤ j)) (hM : M k = true) (hg : f i < f k) : BestAt M f (k + 1) (k : Int) :=
  .inr ⟨k, by omega, rfl, hM, fun j hj hMj => by
    by_cases q : j = k
    · subst q; exact .inr ⟨rfl, Nat.le_refl _⟩
    · have := hm j (by omega) hMj; omega⟩
theorem BestAt.less {M : Nat → Bool} {f : Nat → Int} {k i : Nat} (hi : i < k) (hMi : M i = true) (hm : ∀ j, j < k → M j = true → f j < f i ∨ (f j = f i ∧ i ≤ j)) (hg : ¬ f i < f k) : BestAt M f (k + 1) (i : Int) :=
  .inr ⟨i, by omega, rfl, hMi, fun j hj hMj => by
    by_cases q : j = k
    · subst q; omega
    · exact hm j (by omega) hMj⟩
set_option maxRecDepth 20000 in
set_option maxHeartbeats 800000 in
theorem may_any {w : World} {bo : Option Addr} {l cl : Nat} {b : Nat → Bool} (h2 : RdA w bo 1 l cl (fun i => .bool (b i))) (t : Nat) :
    Calls Tryd.prog 30 #[.slice bo l cl, .int .i64 (t : Int)] w fun e w' => e = .returned (.bool (mayB l b t)) ∧ w' = w := by
  have hle := h2.le
  have htop := h2.top
  unfold maxLen at htop
  by_cases h0 : l = 0
  · subst h0
    go_enter Tryd.func30, Tryd.ntmps30
    go_wp2
    go_ret
    exact ⟨ret_bool (by simp [mayB]), rfl⟩
  · have hd : ((l : Int) == 0) = false := by simpa using h0
    by_cases hlt : t < l
    · obtain ⟨b1, o1, rfl, hc⟩ := h2.one (by omega)
      have d := hc t hlt
      have t0 : (0 : Int) ≤ (t : Int) := by omega
      have t1 : (t : Int) < (l : Int) := by omega
      have e1 : mayB l b t = b t := by simp [mayB, h0, hlt]
      rw [e1]
      clear hc h2
      go_enter Tryd.func30, Tryd.ntmps30
      go_wp2
      go_ret
      exact ⟨rfl, rfl⟩
    · have t1 : ¬ (t : Int) < (l : Int) := by omega
      have e1 : mayB l b t = false := by simp [mayB, h0, hlt]
      rw [e1]
      go_enter Tryd.func30, Tryd.ntmps30
      go_wp2
      go_ret
      exact ⟨rfl, rfl⟩
end Go.Proofs.YtjjfbpjejhjdiabDoor
