import Derived.Test.YtnpdkiljhdagjaaDoorAt
namespace Go.Proofs.YtnpdkiljhdagjaaDoor
open Go.RowKit
/-! The law DrawApart: its walk. -/
theorem cells_two (w : World) (a0 a1 a2 b0 b1 b2 : Value) (t : TypeId) :
    ((w.alloc (.cells #[a0, a1, a2] t)).alloc (.cells #[b0, b1, b2] t)).cell? ⟨w.heap.size, 0, none⟩ = some a0 ∧
    ((w.alloc (.cells #[a0, a1, a2] t)).alloc (.cells #[b0, b1, b2] t)).cell? ⟨w.heap.size, 1, none⟩ = some a1 ∧
    ((w.alloc (.cells #[a0, a1, a2] t)).alloc (.cells #[b0, b1, b2] t)).cell? ⟨w.heap.size, 2, none⟩ = some a2 ∧
    ((w.alloc (.cells #[a0, a1, a2] t)).alloc (.cells #[b0, b1, b2] t)).cell? ⟨w.heap.size + 1, 0, none⟩ = some b0 ∧
    ((w.alloc (.cells #[a0, a1, a2] t)).alloc (.cells #[b0, b1, b2] t)).cell? ⟨w.heap.size + 1, 1, none⟩ = some b1 ∧
    ((w.alloc (.cells #[a0, a1, a2] t)).alloc (.cells #[b0, b1, b2] t)).cell? ⟨w.heap.size + 1, 2, none⟩ = some b2 := by
  have h0 : ((w.alloc (.cells #[a0, a1, a2] t)).alloc (.cells #[b0, b1, b2] t)).heap[w.heap.size]? = some (.cells #[a0, a1, a2] t) := heap_alloc2_old w _ _
  have h1 : ((w.alloc (.cells #[a0, a1, a2] t)).alloc (.cells #[b0, b1, b2] t)).heap[w.heap.size + 1]? = some (.cells #[b0, b1, b2] t) := heap_alloc2_new w _ _
  refine ⟨?_, ?_, ?_, ?_, ?_, ?_⟩
  · unfold World.cell?; rw [h0]; rfl
  · unfold World.cell?; rw [h0]; rfl
  · unfold World.cell?; rw [h0]; rfl
  · unfold World.cell?; rw [h1]; rfl
  · unfold World.cell?; rw [h1]; rfl
  · unfold World.cell?; rw [h1]; rfl
theorem beq_same {a b c d : Int} (h : a = b ↔ c = d) : (a == b) = (c == d) := by
  rw [Bool.eq_iff_iff, beq_iff_eq, beq_iff_eq]; exact h
set_option maxHeartbeats 1000000 in
theorem apart_walk (s : Nat) (p l : Int) (s' : Nat) (p' l' : Int) (w : World) (hw : Holds w) (hs : s < 18446744073709551616) (p0 : -9223372036854775808 ≤ p) (p1 : p ≤ 9223372036854775807) (l0 : -9223372036854775808 ≤ l) (l1 : l ≤ 9223372036854775807)
    (hs' : s' < 18446744073709551616) (p0' : -9223372036854775808 ≤ p') (p1' : p' ≤ 9223372036854775807) (l0' : -9223372036854775808 ≤ l') (l1' : l' ≤ 9223372036854775807) :
    Calls Tryd.prog 5 #[.agg #[.int .u64 (s : Int), .int .i64 p, .int .i64 l], .agg #[.int .u64 (s' : Int), .int .i64 p', .int .i64 l']] w fun e w' => e = .returned (.bool true) ∧ Fresh w w' := by
  have CC := hidd (cells_two w (.int .u64 (s : Int)) (.int .i64 p) (.int .i64 l) (.int .u64 (s' : Int)) (.int .i64 p') (.int .i64 l') 26)
  have IS := hidd (at_seed (p := num p) (l := num l) hs hs')
  have IP := hidd ((at_pos (s := s) (l := num l) (num_lt p) (num_lt p')).trans (num_inj p0 p1 p0' p1'))
  have IL := hidd ((at_lane (s := s) (p := num p) (num_lt l) (num_lt l')).trans (num_inj l0 l1 l0' l1'))
  go_enter Tryd.func5, Tryd.ntmps5
  go_wp2_with fail
  have f0 : Fresh w ((w.alloc (.cells #[.int .u64 (s : Int), .int .i64 p, .int .i64 l] 26)).alloc (.cells #[.int .u64 (s' : Int), .int .i64 p', .int .i64 l'] 26)) := ((Fresh.refl w).alloc _ _).alloc _ _
  generalize ((w.alloc (.cells #[.int .u64 (s : Int), .int .i64 p, .int .i64 l] 26)).alloc (.cells #[.int .u64 (s' : Int), .int .i64 p', .int .i64 l'] 26)) = w0 at f0 CC
  refine (at_any s p l _ (hw.later f0)).mono ?_; rintro e w1 ⟨rfl, f1⟩
  obtain ⟨x, ex⟩ : ∃ x, x = atN s (num p) (num l) := ⟨_, rfl⟩
  rw [← ex] at IS IP IL ⊢
  have EX := hidd ex
  clear ex
  have g1 := f1
  obtain ⟨c0, c1, c2, c3, c4, c5⟩ := CC.out
  replace c0 := g1.cell c0; replace c1 := g1.cell c1; replace c2 := g1.cell c2; replace c3 := g1.cell c3; replace c4 := g1.cell c4; replace c5 := g1.cell c5
  go_wp2_with fail
  refine (at_any s p l _ ((hw.later f0).later f1)).mono ?_; rintro e w2 ⟨rfl, f2⟩
  rw [← EX.out]
  replace c0 := f2.cell c0; replace c1 := f2.cell c1; replace c2 := f2.cell c2; replace c3 := f2.cell c3; replace c4 := f2.cell c4; replace c5 := f2.cell c5
  go_wp2_with fail
  refine (at_any s' p l _ (((hw.later f0).later f1).later f2)).mono ?_; rintro e w3 ⟨rfl, f3⟩
  replace c0 := f3.cell c0; replace c1 := f3.cell c1; replace c2 := f3.cell c2; replace c3 := f3.cell c3; replace c4 := f3.cell c4; replace c5 := f3.cell c5
  go_wp2_with fail
  refine (at_any s p' l _ ((((hw.later f0).later f1).later f2).later f3)).mono ?_; rintro e w4 ⟨rfl, f4⟩
  replace c0 := f4.cell c0; replace c1 := f4.cell c1; replace c2 := f4.cell c2; replace c3 := f4.cell c3; replace c4 := f4.cell c4; replace c5 := f4.cell c5
  go_wp2_with fail
  refine (at_any s p l' _ (((((hw.later f0).later f1).later f2).later f3).later f4)).mono ?_; rintro e w5 ⟨rfl, f5⟩
  replace c0 := f5.cell c0; replace c1 := f5.cell c1; replace c2 := f5.cell c2; replace c3 := f5.cell c3; replace c4 := f5.cell c4; replace c5 := f5.cell c5
  have ff := ((((f0.trans f1).trans f2).trans f3).trans f4).trans f5
  clear f0 f1 f2 f3 f4 f5
  generalize atN s' (num p) (num l) = xa at IS ⊢
  generalize atN s (num p') (num l) = xb at IP ⊢
  generalize atN s (num p) (num l') = xc at IL ⊢
  have t1 : ((xa : Int) == (x : Int)) = ((s : Int) == (s' : Int)) := beq_same (by have := IS.out; omega)
  have t2 : ((xb : Int) == (x : Int)) = (p == p') := beq_same (by have := IP.out; omega)
  have t3 : ((xc : Int) == (x : Int)) = (l == l') := beq_same (by have := IL.out; omega)
  clear IS IP IL EX CC g1
  go_wp2
  go_ret
  exact ⟨rfl, ff⟩
end Go.Proofs.YtnpdkiljhdagjaaDoor
