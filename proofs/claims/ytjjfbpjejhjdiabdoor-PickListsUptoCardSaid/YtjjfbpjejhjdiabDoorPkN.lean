import Derived.Test.YtjjfbpjejhjdiabDoorPkM
namespace Go.Proofs.YtjjfbpjejhjdiabDoor
open Go.RowKit
/-! Chances, well or not; PickSeen. -/
open Classical in
noncomputable def erOf (p : Prm) : Int := if p.Ok then 0 else 100
open Classical in
noncomputable def chA (p : Prm) (n m l : Nat) (f s : Nat → Int) (b : Nat → Bool) : List (Int × Int) := if p.Ok then chOf p n m l f s b else []
theorem chances_any (p : Prm) {w : World} {ao so bo : Option Addr} {n ca m cb l cl : Nat} {f s : Nat → Int} {b : Nat → Bool} (h : In3 w ao so bo n ca m cb l cl f s b) :
    Calls Tryd.prog 8 #[.agg #[.int .i64 p.temp, .int .i64 p.topk, .int .i64 p.topp, .int .i64 p.pen, .int .u64 (p.seed : Int)], .slice ao n ca, .slice so m cb, .slice bo l cl] w fun e w' => ∃ u c, e = .returned (.tuple #[.slice u (chA p n m l f s b).length c, .int .i64 (erOf p)]) ∧ PL w' w.heap.size u c (chA p n m l f s b) ∧ Below w.heap.size w w' := by
  unfold erOf chA
  by_cases ok : p.Ok
  · simp only [if_pos ok]
    exact chances_ok p ok h
  · simp only [if_neg ok]
    exact (chances_bad p ok w _ _ _).mono fun e w' ⟨h1, h2⟩ => ⟨none, 0, h1, pl_nil _ _, h2⟩
theorem canL_congr {g g' : Nat → Int} {n : Nat} (M : Nat → Bool) (h : ∀ i, i < n → g i = g' i) : canL g n M = canL g' n M := by
  unfold canL
  rw [ordL_congr h]
theorem chL_congr (p : Prm) {g g' : Nat → Int} {n : Nat} (M : Nat → Bool) (h : ∀ i, i < n → g i = g' i) : chL p g n M = chL p g' n M := by
  unfold chL
  rw [canL_congr M h]
theorem chA_congr (p : Prm) {n m m' l : Nat} {f f' s s' : Nat → Int} (b : Nat → Bool) (h : ∀ i, i < n → scF p.pen f (seenB s m) i = scF p.pen f' (seenB s' m') i) : chA p n m l f s b = chA p n m' l f' s' b := by
  unfold chA chOf
  rw [chL_congr p _ h]
theorem Own.rda' {w : World} {base : Nat} {e : TypeId} {sz n c : Nat} {u : Option Addr} {cs : Nat → Value} (h : Own w base e sz (.slice u n c) n cs) : RdA w u sz n c cs := by
  obtain ⟨ao, cap, e1, hr⟩ := h.rd
  injection e1 with e2 _ e3
  subst e2 e3
  exact hr
def oth (s : Nat → Int) (m n : Nat) (j : Nat) : Int := if j % 4 = 1 then -1 else if j % 4 = 3 then (n : Int) else s (m - 1 - j / 4)
theorem oth_at (s : Nat → Int) (m n k : Nat) : oth s m n (k * 4) = s (m - 1 - k) ∧ oth s m n (k * 4 + 1) = -1 ∧ oth s m n (k * 4 + 1 + 1) = s (m - 1 - k) ∧ oth s m n (k * 4 + 1 + 1 + 1) = (n : Int) := by
  have a0 : (k * 4) % 4 = 0 ∧ (k * 4) / 4 = k := by omega
  have a1 : (k * 4 + 1) % 4 = 1 := by omega
  have a2 : (k * 4 + 1 + 1) % 4 = 2 ∧ (k * 4 + 1 + 1) / 4 = k := by omega
  have a3 : (k * 4 + 1 + 1 + 1) % 4 = 3 := by omega
  unfold oth
  rw [a0.1, a0.2, a1, a2.1, a2.2, a3]
  simp
theorem seenB_oth {s : Nat → Int} {m n i : Nat} (hi : i < n) : seenB (oth s m n) (m * 4) i = seenB s m i := by
  rw [Bool.eq_iff_iff, seenB_iff, seenB_iff]
  constructor
  · rintro ⟨j, hj, e⟩
    unfold oth at e
    split at e
    · omega
    · split at e
      · omega
      · exact ⟨m - 1 - j / 4, by omega, e⟩
  · rintro ⟨j, hj, e⟩
    refine ⟨(m - 1 - j) * 4, by omega, ?_⟩
    rw [(oth_at s m n (m - 1 - j)).1, show m - 1 - (m - 1 - j) = j by omega]
    exact e
end Go.Proofs.YtjjfbpjejhjdiabDoor
