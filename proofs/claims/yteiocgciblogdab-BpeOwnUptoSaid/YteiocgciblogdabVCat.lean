import Derived.Test.YteiocgciblogdabVoc
import Derived.Test.YteiocgciblogdabLat
import Derived.Lib.AppendZeros
namespace Go.Proofs.Yteiocgciblogdab
open Go.RowKit
/-! Grow, Concat. -/
theorem zeroCells_size (n : Nat) : (Builtin.zeroCells (Value.int .u8 0).cells n).size = n := by
  have h1 : (Value.int .u8 0).cells.size = 1 := rfl
  simp [Builtin.zeroCells, h1]
theorem own_zero (w : World) (t : TypeId) (cap : Nat) (cur : Array Value) (hc : cur.size = cap) (hm : cap ≤ maxLen) (cs : Nat → Value) : Own (w.drew.alloc (.cells cur t)) w.heap.size t 1 (.slice (some ⟨w.heap.size, 0, none⟩) 0 cap) 0 cs := by
  refine ⟨by simp, .inr ⟨w.heap.size, cap, cur, rfl, Nat.le_refl _, ?_, Nat.zero_le _, hm, by omega, by simp⟩⟩
  have : w.drew.heap = w.heap := rfl
  simp [World.alloc, this]
set_option maxHeartbeats 1000000 in
theorem grow_nil {w : World} (n : Nat) (hn : n ≤ 1000) (cs : Nat → Value) :
    Calls Try.prog 43 #[.slice none 0 0, .int .i64 n] w fun e w' => ∃ v, e = .returned v ∧ Own w' w.heap.size 5 1 v 0 cs ∧ Below w.heap.size w w' := by
  by_cases h0 : n = 0
  · subst h0
    go_enter Try.func43, Try.ntmps43
    go_wp2
    go_ret
    exact ⟨_, rfl, own_nil _ _ _ _ _, Below.refl _ _⟩
  · obtain ⟨i, hi, hz0, hz1, hz2⟩ := info_parts infoB
    have hr := fun ty => Lib.run_append_nil_zeros (P := Try.prog) w 22 3 ty 5 i (.int .u8 0) .i64 .i64 Try.underlying22 Try.underlying3 hi hz0 n (by omega) (by omega) (by omega) (by rw [hz2]; omega)
    have hGn : n ≤ grownCap w n 0 5 := grownCap_ge w _ _ _
    have hG63 : grownCap w n 0 5 ≤ maxLen := grownCap_le_maxLen w n 0 5 (by unfold maxLen; omega)
    have hsz : (Builtin.zeroCells (Value.int .u8 0).cells n ++ Builtin.zeroCells (Value.int .u8 0).cells (grownCap w n 0 5 - n)).size = grownCap w n 0 5 := by
      rw [Array.size_append, zeroCells_size, zeroCells_size]; omega
    generalize grownCap w n 0 5 = G at *
    generalize Builtin.zeroCells (Value.int .u8 0).cells n ++ Builtin.zeroCells (Value.int .u8 0).cells (G - n) = Z at *
    have HO := hidd (own_zero w 5 G Z hsz hG63 cs)
    have HF := hidd (show Below w.heap.size w (w.drew.alloc (.cells Z 5)) from ((Below.refl _ w).drew).alloc (Nat.le_refl _) _)
    unfold maxLen at hG63
    clear hsz hi hz0 hz1 hz2
    go_enter Try.func43, Try.ntmps43
    go_wp2_with (at_builtin; refine Lib.wpList_append_run _ rfl _ _ _ _ rfl _ _ rfl rfl _ _ (hr _) ?_)
    all_goals (go_ret; exact ⟨_, rfl, HO.out, HF.out⟩)
theorem grow_to {w : World} (n : Nat) (x : Int) (hx : x = (n : Int)) (hn : n ≤ 1000) (cs : Nat → Value) :
    Calls Try.prog 43 #[.slice none 0 0, .int .i64 x] w fun e w' => ∃ v, e = .returned v ∧ Own w' w.heap.size 5 1 v 0 cs ∧ Below w.heap.size w w' := by
  subst hx
  exact grow_nil n hn cs
def cat (n0 : Nat) (f0 f1 : Nat → Int) (j : Nat) : Int := if j < n0 then f0 j else f1 (j - n0)
theorem cat_lo {n0 : Nat} {f0 f1 : Nat → Int} {j : Nat} (h : j < n0) : cat n0 f0 f1 j = f0 j := if_pos h
theorem cat_hi {n0 : Nat} {f0 f1 : Nat → Int} (j : Nat) : cat n0 f0 f1 (n0 + j) = f1 j := by
  unfold cat; rw [if_neg (by omega), show n0 + j - n0 = j by omega]
set_option maxHeartbeats 1000000 in
theorem concat_two {w : World} {gb cg b0 b1 n0 n1 k0 k1 : Nat} {f0 f1 : Nat → Int} (h0 : w.cell? ⟨gb, 0, none⟩ = some (.slice (some ⟨b0, 0, none⟩) n0 k0)) (h1 : w.cell? ⟨gb, 1, none⟩ = some (.slice (some ⟨b1, 0, none⟩) n1 k1))
    (r0 : ∀ j, j < n0 → w.cell? ⟨b0, j, none⟩ = some (.int .u8 (f0 j))) (r1 : ∀ j, j < n1 → w.cell? ⟨b1, j, none⟩ = some (.int .u8 (f1 j))) (p0 : 0 < n0) (p1 : 0 < n1) (s0 : n0 ≤ 16) (s1 : n1 ≤ 16) :
    Calls Try.prog 40 #[.slice (some ⟨gb, 0, none⟩) 2 cg] w fun e w' => ∃ v, e = .returned v ∧ Own w' w.heap.size 5 1 v (n0 + n1) (fun j => .int .u8 (cat n0 f0 f1 j)) ∧ Below w.heap.size w w' := by
  have L0 : Hid (∀ w2, Below w.heap.size w w2 → ∀ j, j < n0 * 1 → w2.cell? ⟨b0, j, none⟩ = some ((fun j => Value.int .u8 (cat n0 f0 f1 j)) (0 * 1 + j))) := fun w2 hf j hj => by
    rw [fresh_cell hf (r0 j (by omega)), show 0 * 1 + j = j by omega]
    dsimp only
    rw [cat_lo (by omega)]
  have L1 : Hid (∀ w2, Below w.heap.size w w2 → ∀ j, j < n1 * 1 → w2.cell? ⟨b1, j, none⟩ = some ((fun j => Value.int .u8 (cat n0 f0 f1 j)) (n0 * 1 + j))) := fun w2 hf j hj => by
    rw [fresh_cell hf (r1 j (by omega)), show n0 * 1 + j = n0 + j by omega]
    dsimp only
    rw [cat_hi]
  clear r0 r1
  go_enter Try.func40, Try.ntmps40
  go_wp2
  refine wp_loop_rounds 3 ?_
  rw [rounds_succ]
  go_wp2
  rw [rounds_succ]
  go_wp2
  rw [rounds_succ]
  go_wp2_with fail
  refine (grow_to (n0 + n1) _ (by omega) (by omega) (fun j => .int .u8 (cat n0 f0 f1 j))).mono ?_
  rintro e w2 ⟨v2, rfl, hown2, hf2⟩
  have h0' := fresh_cell hf2 h0
  have h1' := fresh_cell hf2 h1
  have H1 := hidd h1
  clear h0 h1
  go_wp2
  refine wp_loop_rounds 3 ?_
  rw [rounds_succ]
  go_wp2_with (at_builtin; refine wpList_app _ rfl _ _ 22 rfl w.heap.size 5 (.int .u8 0) 1 1 Try.underlying22 infoB rfl (by decide) _ 0 (fun j => .int .u8 (cat n0 f0 f1 j)) rfl hown2 b0 n0 k0 rfl (L0.out w2 hf2) (fun _ _ => rfl) p0 (by unfold maxLen; omega) (by omega) hf2.size ?_)
  intro v3 w3 hown3 happ3
  have hf3 := happ3.below hf2 hown2 (Nat.le_refl _) hf2.size
  have h1' := fresh_cell hf3 H1.out
  clear happ3 hown2 h0'
  go_wp2
  rw [rounds_succ]
  go_wp2_with (at_builtin; refine wpList_app _ rfl _ _ 22 rfl w.heap.size 5 (.int .u8 0) 1 1 Try.underlying22 infoB rfl (by decide) _ n0 (fun j => .int .u8 (cat n0 f0 f1 j)) rfl hown3 b1 n1 k1 rfl (L1.out w3 hf3) (fun _ _ => rfl) p1 (by unfold maxLen; omega) (by omega) hf3.size ?_)
  intro v4 w4 hown4 happ4
  have hf4 := happ4.below hf3 hown3 (Nat.le_refl _) hf3.size
  clear happ4 hown3 h1'
  go_wp2
  rw [rounds_succ]
  go_wp2
  go_ret
  exact ⟨_, rfl, hown4, hf4⟩
end Go.Proofs.Yteiocgciblogdab
