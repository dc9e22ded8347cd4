import Derived.Test.YtokedgilehcdlaaGgG
import Derived.Deep.LoopGhost
namespace Go.Proofs.Ytokedgilehcdlaa
open Go.RowKit
/-! A gauge in a box. -/
def GB (w : World) (g : Nat) (s m r : Int) : Prop := w.heap[g]? = some (.cells #[.int .i64 s, .int .i64 m, .int .i64 r] 23 (0, 0))
theorem GB.cells {w : World} {g : Nat} {s m r : Int} (h : GB w g s m r) : w.cell? ⟨g, 0, none⟩ = some (.int .i64 s) ∧ w.cell? ⟨g, 1, none⟩ = some (.int .i64 m) ∧ w.cell? ⟨g, 2, none⟩ = some (.int .i64 r) := by
  refine ⟨?_, ?_, ?_⟩ <;> (unfold World.cell?; rw [show w.heap[g]? = _ from h]; rfl)
theorem GB.fresh {w w' : World} {g : Nat} {s m r : Int} (h : GB w g s m r) (f : Below w.heap.size w w') : GB w' g s m r := by
  unfold GB at *
  rw [f.block g (Array.getElem?_eq_some_iff.1 h).1]; exact h
theorem GB.put {w : World} {g : Nat} {s m r : Int} (h : GB w g s m r) (a b c : Int) : GB (w.setRow g #[.int .i64 a, .int .i64 b, .int .i64 c]) g a b c := setRow_heap _ _ _ _ _ _ h
theorem GB.new (w : World) (s m r : Int) : GB (w.alloc (.cells #[.int .i64 s, .int .i64 m, .int .i64 r] 23)) w.heap.size s m r := heap_alloc_new _ _
theorem GB.lt {w : World} {g : Nat} {s m r : Int} (h : GB w g s m r) : g < w.heap.size := (Array.getElem?_eq_some_iff.1 h).1
/-- the number of nodes that a round of the laws takes -/
def nN (n : Nat) (f : Nat → Int) (i : Nat) : Int := if i < n ∧ 2 ≤ f i ∧ f i ≤ 32 then f i else 2
theorem nN_in (n : Nat) (f : Nat → Int) (i : Nat) : 2 ≤ nN n f i ∧ nN n f i ≤ 32 := by
  unfold nN
  split
  · omega
  · omega
def fb : Nat → Int
  | 0 => 32
  | 1 => 16
  | 2 => 8
  | 3 => 4
  | 4 => 2
  | _ => 1
theorem fb_step {i : Nat} (hi : i < 5) {s : Int} (h : s ≤ fb i) : max (s / 2) 1 ≤ fb (i + 1) := by
  match i, hi with
  | 0, _ => simp only [fb] at *; omega
  | 1, _ => simp only [fb] at *; omega
  | 2, _ => simp only [fb] at *; omega
  | 3, _ => simp only [fb] at *; omega
  | 4, _ => simp only [fb] at *; omega
theorem fall_one {s m r n x : Int} (hs : 1 ≤ s) (hn : 2 ≤ n) (hx : x = max (s / 2) 1) : nS s m r n 0 = x ∧ nR s r n = 0 ∧ x ≤ s := by
  unfold nS nR
  rw [if_neg (by omega), if_pos rfl, if_neg (by omega)]
  omega
theorem grow_one {s m r n x : Int} (hn : 2 ≤ n) (hx : x = min (s + n) m) : nS s m r n (n - 1) = x ∧ nR s r n = 0 := by
  unfold nS nR
  rw [if_neg (by omega), if_neg (by omega), if_pos (by omega), if_neg (by omega)]
  omega
/-- behind i trees of the root alone, from the Size 1 and the Run 0 -/
def rS (m : Int) (i : Nat) : Int := if i < 4 then 1 else min 2 m
def rR (i : Nat) : Int := if i < 4 then (i : Int) else 0
theorem rest_one {m : Int} {i : Nat} (hi : i < 4) : nS 1 m (rR i) 1 0 = rS m (i + 1) ∧ nR 1 (rR i) 1 = rR (i + 1) := by
  have e1 : rR i = (i : Int) := if_pos hi
  rw [e1]
  by_cases h : i < 3
  · have h3 : (i : Int) < 3 := by omega
    have h4 : i + 1 < 4 := by omega
    simp [nS, nR, rS, rR, h3, h4]
  · obtain rfl : i = 3 := by omega
    simp [nS, nR, rS, rR]
end Go.Proofs.Ytokedgilehcdlaa
