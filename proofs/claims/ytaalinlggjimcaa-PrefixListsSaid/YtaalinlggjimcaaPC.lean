import Derived.Test.YtaalinlggjimcaaPB
namespace Go.Proofs.Ytaalinlggjimcaa
open Go.RowKit
/-! New. -/
theorem made_row {w : World} {z : Value} {n : Nat} {t : TypeId} {c : Array Value} (hc : c = madeCells #[z] n) : (w.alloc (.cells c t)).rowIs w.heap.size t n (fun _ => z) := by rw [hc]; exact World.rowIs_made w z n t
theorem row5_new (w : World) (t : TypeId) (a b c d e : Value) : (w.alloc (.cells #[a, b, c, d, e] t)).rowIs w.heap.size t 5 (five a b c d e) :=
  World.rowIs_alloc w #[a, b, c, d, e] t _ (fun i hi => by
    match i, hi with
    | 0, _ => rfl
    | 1, _ => rfl
    | 2, _ => rfl
    | 3, _ => rfl
    | 4, _ => rfl)
set_option maxRecDepth 20000 in
set_option maxHeartbeats 1600000 in
theorem new_any {L W B S : Nat} (w : World) (hL : 1 ≤ L ∧ L ≤ 4) (hW : 1 ≤ W ∧ W ≤ 32) (hB : 1 ≤ B ∧ B ≤ 256) (hS : 1 ≤ S ∧ S ≤ 16) :
    Calls Try.prog 16 #[.int .i64 L, .int .i64 W, .int .i64 B, .int .i64 S] w fun e w' => ∃ g cb nb, e = .returned (.tuple #[.pointer (some ⟨g, 0, none⟩), .int .i64 0]) ∧ PoolAt w' g cb nb L W B S (fun _ => 0) (fun _ => 0) ∧ (w.heap.size ≤ g ∧ w.heap.size ≤ cb ∧ w.heap.size ≤ nb) ∧ Below w.heap.size w w' := by
  obtain ⟨q, n, T, G⟩ := geo hL hW hB hS
  obtain ⟨s, hs⟩ : ∃ s, s = B * S := ⟨_, rfl⟩
  have e1 : (B : Int) * (S : Int) = (s : Int) := by rw [hs]; push_cast; rfl
  have e2 : (s : Int) * (q : Int) = (T : Int) := by rw [hs, G.eT]; push_cast; rfl
  have hT := G.T2
  have hT0 : s ≤ 4096 := by rw [hs]; have := Nat.mul_le_mul hB.2 hS.2; omega
  have hq := G.q2
  have HO : Hid (∀ (w : World) (g : Nat), w.cell? ⟨g, 0, none⟩ = some (.int .i64 L) → w.cell? ⟨g, 1, none⟩ = some (.int .i64 W) → Calls Try.prog 45 #[.pointer (some ⟨g, 0, none⟩)] w fun e w' => e = .returned (.int .i64 (q : Int)) ∧ Below w.heap.size w w') := fun w g h1 h2 => by rw [G.eq]; exact ofSlot_at h1 h2 hL hW
  clear hs
  obtain ⟨hB1, hB2⟩ := hB
  obtain ⟨hL1, hL2⟩ := hL
  obtain ⟨hW1, hW2⟩ := hW
  obtain ⟨hS1, hS2⟩ := hS
  obtain ⟨iI, hiI, zI0, zI1, zI2⟩ := info_parts infoI
  obtain ⟨i8, hi8, z80, z81, z82⟩ := info_parts infoI8
  have hmk1 : ∀ w, (Instr.makeSlice 22 (.int .i64 (B : Int)) (.int .i64 (B : Int))).run Try.prog w = .ok (.slice (some ⟨w.heap.size, 0, none⟩) B B) (w.alloc (.cells (madeCells #[.int .i64 0] B) 3)) := run_make_row 22 3 iI (.int .i64 0) Try.underlying22 hiI zI0 zI1 rfl .i64 .i64 B (by rw [zI2]; omega) (by omega)
  have hmk2 : ∀ w, (Instr.makeSlice 90 (.int .i64 (T : Int)) (.int .i64 (T : Int))).run Try.prog w = .ok (.slice (some ⟨w.heap.size, 0, none⟩) T T) (w.alloc (.cells (madeCells #[.int .i8 0] T) 118)) := run_make_row 90 118 i8 (.int .i8 0) Try.underlying90 hi8 z80 z81 rfl .i64 .i64 T (by rw [z82]; omega) (by omega)
  clear hiI zI0 zI1 zI2 hi8 z80 z81 z82
  go_enter Try.func16, Try.ntmps16
  have R0' : (((w.alloc (.cells (madeCells #[.int .i64 0] B) 3)).alloc (.cells #[.int .i64 L, .int .i64 W, .int .i64 S, .slice (some ⟨w.heap.size, 0, none⟩) B B, .slice none 0 0] 92)).rowIs (w.heap.size + 1) 92 5 (five (.int .i64 L) (.int .i64 W) (.int .i64 S) (.slice (some ⟨w.heap.size, 0, none⟩) B B) (.slice none 0 0))) := by
    have := row5_new (w.alloc (.cells (madeCells #[.int .i64 0] B) 3)) 92 (.int .i64 L) (.int .i64 W) (.int .i64 S) (.slice (some ⟨w.heap.size, 0, none⟩) B B) (.slice none 0 0)
    simpa using this
  have R0 := hidd R0'
  clear R0'
  go_wp2_with (first
    | (go_at_call 44; refine (isMeasure_in _ _ _ (by constructor <;> omega)).mono ?_; rintro e w9 ⟨rfl, h9⟩; rw [h9]; clear h9)
    | (go_at_call 45; refine (HO.out _ _ (by simp) (by simp)).mono ?_; rintro e w9 ⟨rfl, hf9⟩; have r9 := R0.out.of_block (hf9.block _ (by simp)); have c9 := fresh_cell (fresh_alloc w9 (.cells (madeCells #[.int .i8 0] T) 118)) (r9.cell (i := 4) (by decide)); simp only [five] at c9; have z9 := (r9.alloc (.cells (madeCells #[.int .i8 0] T) 118)).frozen))
  have hs9 : w.heap.size + 2 ≤ w9.heap.size := by have := hf9.size; simpa using this
  have fr : Below w.heap.size w w9 := ((Below.refl w.heap.size w).alloc (Nat.le_refl _) _).alloc (by simp) _ |>.trans (hf9.mono (by simp; omega))
  go_ret2
  refine ⟨w.heap.size + 1, w.heap.size, w9.heap.size, rfl, ⟨?_, ?_, ?_, by omega, by omega, by omega, ⟨hL1, hL2⟩, ⟨hW1, hW2⟩, ⟨hB1, hB2⟩, ⟨hS1, hS2⟩⟩, ⟨by omega, by omega, by omega⟩, ?_⟩
  · rw [← G.eq, ← G.eT]
    exact ((r9.alloc _).set 4 _).congr (fun i hi => by
      match i, hi with
      | 0, _ => rfl
      | 1, _ => rfl
      | 2, _ => rfl
      | 3, _ => rfl
      | 4, _ => rfl)
  · refine World.rowIs.setOther ?_ (by simp) _
    refine World.rowIs.alloc ?_ _
    refine World.rowIs.of_block (w := (w.alloc (.cells (madeCells #[.int .i64 0] B) 3)).alloc (.cells #[.int .i64 L, .int .i64 W, .int .i64 S, .slice (some ⟨w.heap.size, 0, none⟩) B B, .slice none 0 0] 92)) ?_ (hf9.block _ (by simp; omega))
    exact World.rowIs.alloc (World.rowIs_made w (.int .i64 0) B 3) _
  · rw [← G.eq, ← G.eT]
    refine World.rowIs.setOther ?_ (by simp; omega) _
    exact World.rowIs_made w9 (.int .i8 0) T 118
  · exact ((fr.alloc (by omega) _).setCell (by simp) _)
end Go.Proofs.Ytaalinlggjimcaa
