import Derived.Test.YtbpldnlafilbbaaNgE
namespace Go.Proofs.Ytbpldnlafilbbaa
open Go.RowKit
/-! New; endRun. -/
theorem infoM : (Try.prog.info? 60).map (fun i => (i.zero, i.size, i.bytes)) = some (some (.map none), 1, 8) := by kernel_rfl
theorem run_make_maps (n : Nat) (hn : n ≤ 4) (w : World) : (Instr.makeSlice 56 (.int .i64 (n : Int)) (.int .i64 (n : Int))).run Try.prog w = .ok (.slice (some ⟨w.heap.size, 0, none⟩) n n) (w.alloc (.cells (madeCells #[.map none] n) 60)) := by
  obtain ⟨i, hi, z0, z1, z2⟩ := info_parts infoM
  have hr := run_make (P := Try.prog) w 56 60 i _ Try.underlying56 hi z0 .i64 .i64 n n (by omega) (Int.le_refl _) (by rw [z2]; omega) (by omega)
  simp only [Int.toNat_natCast, z1, Nat.mul_one] at hr
  exact hr
theorem made1 (w : World) (n : Nat) (t : TypeId) : (w.alloc (.cells (madeCells #[.map none] n) t)).rowIs w.heap.size t n (fun _ => .map none) :=
  ⟨_, Go.Deep.blk_alloc_new _ _, by rw [size_madeCells], fun i hi => by simp [madeCells, hi, Nat.mod_one]⟩
set_option maxRecDepth 20000 in
set_option maxHeartbeats 1600000 in
theorem new_bad (k : Int) (h : k < 1 ∨ 4 < k) (w : World) : Calls Try.prog 21 #[.int .i64 k] w fun e w' => e = .returned (.tuple #[.pointer none, .int .i64 1]) ∧ w' = w := by
  by_cases h1 : k < 1
  · have hd : decide (k < 1) = true := decide_eq_true h1
    go_enter Try.func21, Try.ntmps21
    go_wp2
    go_ret2
    exact ⟨rfl, rfl⟩
  · have hd : decide (k < 1) = false := decide_eq_false h1
    have hd2 : decide (4 < k) = true := decide_eq_true (by omega)
    go_enter Try.func21, Try.ntmps21
    go_wp2
    go_ret2
    exact ⟨rfl, rfl⟩
structure NwP (w wr : World) (k j : Nat) : Prop where
  row : wr.rowIs (w.heap.size + 1) 58 3 (ixF (.slice none 0 0) (.slice none 0 0) (.slice (some ⟨w.heap.size, 0, none⟩) k k))
  lst : wr.rowIs w.heap.size 60 k (fun i => if i < j then .map (some (w.heap.size + 2 + i)) else .map none)
  map : ∀ i, i < j → PMap wr (w.heap.size + 2 + i) (fun _ => nilP)
  size : wr.heap.size = w.heap.size + 2 + j
  low : Below w.heap.size w wr
theorem new_box (w : World) (v : Value) : (w.alloc (.cells #[.slice none 0 0, .slice none 0 0, v] 58)).rowIs w.heap.size 58 3 (ixF (.slice none 0 0) (.slice none 0 0) v) :=
  World.rowIs_alloc w #[.slice none 0 0, .slice none 0 0, v] 58 _ (fun i hi => by
    have hi : i < 3 := hi
    rcases i with _ | _ | _ | i
    · rfl
    · rfl
    · rfl
    · omega)
theorem NwP.step {w wr : World} {k j : Nat} (h : NwP w wr k j) (hj : j < k) : NwP w ((wr.alloc (.map #[] 0)).setCell ⟨w.heap.size, j, none⟩ (.map (some wr.heap.size))) k (j + 1) := by
  have hs := h.size
  have f := fresh_alloc wr (.map #[] 0)
  refine ⟨(h.row.of_block (f.block _ h.row.lt)).setOther (a := ⟨w.heap.size, j, none⟩) (show w.heap.size + 1 ≠ w.heap.size by omega) _, ?_, fun i hi => ?_, by simp [hs]; omega, (h.low.alloc (by have := h.low.size; omega) _).setCell (Nat.le_refl _) _⟩
  · refine ((h.lst.of_block (f.block _ h.lst.lt)).set j _).congr (fun i _ => ?_)
    by_cases e : i = j
    · subst e; rw [if_pos rfl, if_pos (by omega), hs]
    · rw [if_neg e]
      by_cases e1 : i < j
      · rw [if_pos e1, if_pos (by omega)]
      · rw [if_neg e1, if_neg (by omega)]
  · by_cases e : i = j
    · subst e
      rw [← hs]
      exact (PMap.made wr).chg (Chg.of_set _ w.heap.size i _) (fun e => by have e : wr.heap.size = w.heap.size := e; omega)
    · exact ((h.map i (by omega)).chg (Chg.of_below (fun _ => False) f) (fun t => t)).chg (Chg.of_set _ w.heap.size j _) (fun e => by have e : w.heap.size + 2 + i = w.heap.size := e; omega)
theorem NwP.idx {w wr : World} {k : Nat} (h : NwP w wr k k) (hk : 1 ≤ k ∧ k ≤ 4) (tx : Nat → Int) (A : Nat → Nat) : Idx wr (w.heap.size + 1) (fun b => w.heap.size ≤ b ∧ b < wr.heap.size) k 0 tx A := by
  have hs := h.size
  refine ⟨fun i => w.heap.size + 2 + i, w.heap.size, _, _, h.row, own_nil _ _ _ _ _, own_nil _ _ _ _ _, h.lst.congr (fun i hi => by rw [if_pos hi]), fun i hi => h.map i hi, fun q h1 h2 => absurd h1 (by omega), fun j hj => absurd hj (by omega), fun i j _ _ e => by have e : w.heap.size + 2 + i = w.heap.size + 2 + j := e; omega, hk, ⟨by omega, by omega⟩, ⟨by omega, by omega⟩, fun b hb => ?_, fun b hb => ?_, fun i hi => ⟨by omega, by omega⟩, fun q h1 h2 => absurd h1 (by omega), fun b hb => hb.2⟩
  · simp [Value.ownBlock] at hb
  · simp [Value.ownBlock] at hb
set_option maxRecDepth 20000 in
set_option maxHeartbeats 1600000 in
theorem new_ok (k : Nat) (hk : 1 ≤ k ∧ k ≤ 4) (w : World) (tx : Nat → Int) (A : Nat → Nat) : Calls Try.prog 21 #[.int .i64 k] w fun e w' => e = .returned (.tuple #[.pointer (some ⟨w.heap.size + 1, 0, none⟩), .int .i64 0]) ∧ Idx w' (w.heap.size + 1) (fun b => w.heap.size ≤ b ∧ b < w'.heap.size) k 0 tx A ∧ Below w.heap.size w w' := by
  have hmk := run_make_maps k hk.2
  have hmm : ∀ w : World, (Instr.makeMap 60 none).run Try.prog w = .ok (.map (some w.heap.size)) (w.alloc (.map #[] 0)) := fun _ => rfl
  have R1 := made1 w k 60
  have hd : decide ((k : Int) < 1) = false := decide_eq_false (by omega)
  have hd2 : decide (4 < (k : Int)) = false := decide_eq_false (by omega)
  have f0 := fresh_alloc w (.cells (madeCells #[.map none] k) 60)
  have N0 : Hid (NwP w ((w.alloc (.cells (madeCells #[.map none] k) 60)).alloc (.cells #[.slice none 0 0, .slice none 0 0, .slice (some ⟨w.heap.size, 0, none⟩) k k] 58)) k 0) := by
    have hb := new_box (w.alloc (.cells (madeCells #[.map none] k) 60)) (.slice (some ⟨w.heap.size, 0, none⟩) k k)
    simp only [World.size_alloc] at hb
    exact ⟨hb, (R1.alloc _).congr (fun i _ => by rw [if_neg (by omega)]), fun i hi => absurd hi (by omega), by simp, f0.alloc (by simp) _⟩
  clear R1 f0
  go_enter Try.func21, Try.ntmps21
  go_upto_region 4 with fail
  clear hmk
  generalize ((w.alloc (.cells (madeCells #[.map none] k) 60)).alloc (.cells #[.slice none 0 0, .slice none 0 0, .slice (some ⟨w.heap.size, 0, none⟩) k k] 58)) = w1 at *
  have x2 : w1.cell? ⟨w.heap.size + 1, 2, none⟩ = some (.slice (some ⟨w.heap.size, 0, none⟩) k k) := N0.out.row.cell (i := 2) (by decide)
  go_wp2
  clear x2
  go_loopw [21] (fun i wr => ∃ j : Nat, j ≤ k ∧ i = .int .i64 j ∧ Hid (NwP w wr k j)) (fun i _ => k - (intOf i).toNat)
  case atStart => exact ⟨0, by omega, rfl, N0⟩
  case round =>
    clear N0
    obtain ⟨j, hj, rfl, HN⟩ := hrel
    by_cases hlt : j < k
    · have x2 : wr.cell? ⟨w.heap.size + 1, 2, none⟩ = some (.slice (some ⟨w.heap.size, 0, none⟩) k k) := HN.out.row.cell (i := 2) (by decide)
      have lj : wr.cell? ⟨w.heap.size, j, none⟩ = some (.map none) := by
        have := HN.out.lst.cell (i := j) hlt
        rw [if_neg (by omega)] at this
        exact this
      have lj' := fresh_cell (fresh_alloc wr (.map #[] 0)) lj
      have fz := (HN.out.lst.of_block ((fresh_alloc wr (.map #[] 0)).block _ HN.out.lst.lt)).frozen
      clear lj
      have i1 : (j : Int) < (k : Int) := by omega
      have i0 : (0 : Int) ≤ (j : Int) := by omega
      have hsz := HN.out.size
      have hne : w.heap.size ≠ wr.heap.size := by omega
      clear hsz
      go_wp2
      go_roundw
      case rel => exact ⟨j + 1, by omega, by go_num, HN.out.step hlt⟩
      case measure => simp [intOf]; omega
    · obtain rfl : j = k := by omega
      go_wp2
      go_ret2
      exact ⟨rfl, HN.out.idx hk tx A, HN.out.low⟩
end Go.Proofs.Ytbpldnlafilbbaa
