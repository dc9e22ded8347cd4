import Derived.Test.YtjjfbpjejhjdiabDoorPkN
namespace Go.Proofs.YtjjfbpjejhjdiabDoor
open Go.RowKit
/-! PickMoves. -/
section
open Go.Shelf Go.Lib Go.Sort
theorem ordL_shift {f g : Nat → Int} {n : Nat} {c : Int} (h : ∀ i, i < n → g i = f i + c) : ordL g n = (ordL f n).map fun x => (x.1, x.2 + c) := by
  unfold ordL
  rw [List.map_mergeSort (s := fun x y => !ltOf cfH y x)]
  · congr 1
    unfold cand
    rw [List.map_map]
    exact List.map_congr_left fun i hi => by simp [h i (List.mem_range.1 hi)]
  · intro a _ b _
    have : ltOf cfH b a = ltOf cfH (b.1, b.2 + c) (a.1, a.2 + c) := by
      rw [Bool.eq_iff_iff, ltH, ltH]
      unfold AheadP
      simp only
      omega
    rw [this]
end
theorem canL_shift {f g : Nat → Int} {n : Nat} {c : Int} (M : Nat → Bool) (h : ∀ i, i < n → g i = f i + c) : canL g n M = (canL f n M).map fun x => (x.1, x.2 + c) := by
  unfold canL
  rw [ordL_shift h, List.filter_map]
  rfl
theorem weL_shift (temp c : Int) (A : List (Int × Int)) : weL temp (A.map fun x => (x.1, x.2 + c)) = weL temp A := by
  cases A with
  | nil => rfl
  | cons a r =>
    unfold weL
    rw [List.map_map]
    refine List.map_congr_left fun x _ => ?_
    show (x.1, wt temp (a.2 + c) (x.2 + c)) = (x.1, wt temp a.2 x.2)
    rw [wt_shift]
theorem topL_map (k c : Int) (A : List (Int × Int)) : topL k (A.map fun x => (x.1, x.2 + c)) = (topL k A).map fun x => (x.1, x.2 + c) := by
  unfold topL
  split
  · rfl
  · rw [List.map_take]
theorem chL_shift (p : Prm) {f g : Nat → Int} {n : Nat} {c : Int} (M : Nat → Bool) (h : ∀ i, i < n → g i = f i + c) : chL p g n M = chL p f n M := by
  unfold chL
  rw [canL_shift M h, topL_map, weL_shift]
  congr 1
  rw [← List.map_take, List.map_map]
  rfl
structure PrmAt (w : World) (b : Nat) (p : Prm) : Prop where
  c0 : w.cell? ⟨b, 0, none⟩ = some (.int .i64 p.temp)
  c1 : w.cell? ⟨b, 1, none⟩ = some (.int .i64 p.topk)
  c2 : w.cell? ⟨b, 2, none⟩ = some (.int .i64 p.topp)
  c3 : w.cell? ⟨b, 3, none⟩ = some (.int .i64 p.pen)
  c4 : w.cell? ⟨b, 4, none⟩ = some (.int .u64 (p.seed : Int))
  fz : ∀ j, w.frozen? ⟨b, j, none⟩ = false
theorem PrmAt.fresh {w w' : World} {b : Nat} {p : Prm} (h : PrmAt w b p) (f : Below w.heap.size w w') : PrmAt w' b p :=
  ⟨fresh_cell f h.c0, fresh_cell f h.c1, fresh_cell f h.c2, fresh_cell f h.c3, fresh_cell f h.c4, fun j => (f.frozen (p := ⟨b, j, none⟩) (lt_of_cell h.c0)).trans (h.fz j)⟩
theorem PrmAt.new (w : World) (p : Prm) (t : TypeId) : PrmAt (w.alloc (.cells #[.int .i64 p.temp, .int .i64 p.topk, .int .i64 p.topp, .int .i64 p.pen, .int .u64 (p.seed : Int)] t)) w.heap.size p :=
  ⟨by simp, by simp, by simp, by simp, by simp, fun j => World.frozen?_alloc_at _ _ _ _ rfl⟩
theorem PrmAt.pen {w : World} {b : Nat} {p : Prm} (h : PrmAt w b p) (x : Int) : PrmAt (w.setCell ⟨b, 3, none⟩ (.int .i64 x)) b { p with pen := x } := by
  refine ⟨?_, ?_, ?_, ?_, ?_, fun j => by rw [World.frozen?_setCell]; exact h.fz j⟩
  · rw [World.cell?_setCell_other _ _ _ _ (by simp)]; exact h.c0
  · rw [World.cell?_setCell_other _ _ _ _ (by simp)]; exact h.c1
  · rw [World.cell?_setCell_other _ _ _ _ (by simp)]; exact h.c2
  · exact World.cell?_setCell_same _ _ _ h.c3
  · rw [World.cell?_setCell_other _ _ _ _ (by simp)]; exact h.c4
theorem rd_nil {w : World} {cs : Nat → Value} : RdA w none 1 0 0 cs := ⟨Nat.le_refl _, Nat.zero_le _, fun h => absurd h (by omega)⟩
theorem sc_move {f : Nat → Int} {c : Int} {S S' : Nat → Bool} {n i : Nat} (hi : i < n) (hb : ∀ j, j < n → -8388608 ≤ f j ∧ f j ≤ 8388608) (c0 : -8388608 ≤ c) (c1 : c ≤ 8388608) : scF 256 (fun j => f j + c) S i = scF 256 f S' i + c := by
  rw [scF_256, scF_256]
  have := hb i hi
  rw [cw_small (by omega) (by omega), cw_small (by omega) (by omega)]
theorem chA_moves (p : Prm) (hp : p.pen = 256) {n m m' l : Nat} {f s s' : Nat → Int} {c : Int} (b : Nat → Bool) (hb : ∀ j, j < n → -8388608 ≤ f j ∧ f j ≤ 8388608) (c0 : -8388608 ≤ c) (c1 : c ≤ 8388608) : chA p n m l (fun j => f j + c) s b = chA p n m' l f s' b := by
  unfold chA chOf
  rw [hp, chL_shift p _ (fun i hi => sc_move (S' := seenB s' m') hi hb c0 c1)]
theorem chA_seen (p : Prm) (hp : p.pen = 256) {n m m' l : Nat} {f s s' : Nat → Int} (b : Nat → Bool) : chA p n m l f s b = chA p n m' l f s' b :=
  chA_congr p b (fun i _ => by rw [hp, scF_256, scF_256])
end Go.Proofs.YtjjfbpjejhjdiabDoor
