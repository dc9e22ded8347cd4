import Derived.Test.YtmcefgpejocjfaaDoorSmall
import Derived.Test.YtmcefgpejocjfaaDoorEqs
import Derived.Test.YtmcefgpejocjfaaDoorClamp8
import Derived.Test.YtmcefgpejocjfaaDoorShift
namespace Go.Proofs.YtmcefgpejocjfaaDoor
open Go.RowKit
/-! Turns: one pair turned; one turn more. -/
theorem wsub (a b : Int) : wrap64 (wrap64 a - wrap64 b) = wrap64 (a - b) := by unfold wrap64; omega
def rc (x y C S : Int) : Int := Fix.sh (wrap64 (x * C - y * S)) 14
def rs (x y C S : Int) : Int := Fix.sh (wrap64 (x * S + y * C)) 14
theorem rc_bd (x y C S : Int) : -9223372036854775808 ≤ rc x y C S ∧ rc x y C S ≤ 9223372036854775807 := Fix.sh_bd _ _ (wbd _).1 (wbd _).2
theorem rs_bd (x y C S : Int) : -9223372036854775808 ≤ rs x y C S ∧ rs x y C S ≤ 9223372036854775807 := Fix.sh_bd _ _ (wbd _).1 (wbd _).2
theorem rc_eq (x y C S : Int) : Fix.sh (wrap64 (wrap64 (x * C) - wrap64 (y * S))) 14 = rc x y C S := by rw [wsub]; rfl
theorem rs_eq (x y C S : Int) : Fix.sh (wrap64 (wrap64 (x * S) + wrap64 (y * C))) 14 = rs x y C S := by rw [wadd]; rfl
set_option maxHeartbeats 1000000 in
theorem turned_any (x y C S : Int) (w : World) :
    Calls Tryd.prog 69 #[.int .i64 x, .int .i64 y, .agg #[.int .i64 C, .int .i64 S]] w fun e w' => e = .returned (.tuple #[.int .i64 (rc x y C S), .int .i64 (rs x y C S)]) ∧ Below w.heap.size w w' := by
  go_enter Tryd.func69, Tryd.ntmps69
  go_wp2
  have H1 := fresh_alloc w (.cells #[.int .i64 C, .int .i64 S] 79)
  have d0 : (w.alloc (.cells #[.int .i64 C, .int .i64 S] 79)).cell? ⟨w.heap.size, 0, none⟩ = some (.int .i64 C) := by simp
  have d1 : (w.alloc (.cells #[.int .i64 C, .int .i64 S] 79)).cell? ⟨w.heap.size, 1, none⟩ = some (.int .i64 S) := by simp
  generalize w.alloc (.cells #[.int .i64 C, .int .i64 S] 79) = w1 at *
  replace d0 := later_cell d0; replace d1 := later_cell d1
  have ne := later_some w1
  refine wp_region_later (by kernel_rfl) (by kernel_rfl) ?_
  repeat (go_big_quiet_step (exact later_same (shift_any _ _ _ (wbd _).1 (wbd _).2 (by decide) (by decide))))
  refine wpQuiet_nil ?_
  rintro _ ⟨z, rfl⟩
  have hf := fresh_trans H1 z.fresh
  clear d0 d1
  rw [rc_eq, rs_eq]
  go_wp2
  go_ret2
  exact ⟨rfl, hf⟩
set_option maxHeartbeats 1000000 in
theorem turnOn_any (tC tS uC uS : Int) (w : World) :
    Calls Tryd.prog 68 #[.agg #[.int .i64 tC, .int .i64 tS], .agg #[.int .i64 uC, .int .i64 uS]] w fun e w' => e = .returned (.agg #[.int .i64 (Fix.cl (rc uC uS tC tS) 16384), .int .i64 (Fix.cl (rs uC uS tC tS) 16384)]) ∧ Below w.heap.size w w' := by
  have b1 := rc_bd uC uS tC tS
  have b2 := rs_bd uC uS tC tS
  go_enter Tryd.func68, Tryd.ntmps68
  go_wp2_with fail
  refine (turned_any uC uS tC tS _).mono ?_
  rintro e w1 ⟨rfl, hf⟩
  have H := fresh_trans (fresh_trans (fresh_trans (fresh_alloc w _) (fresh_alloc _ _)) (fresh_alloc _ _)) hf
  have hsz := hf.size
  have r0 := (World.rowIs_alloc ((w.alloc (.cells #[.int .i64 tC, .int .i64 tS] 79)).alloc (.cells #[.int .i64 uC, .int .i64 uS] 79)) #[.int .i64 0, .int .i64 0] 79 (fun _ => .int .i64 0) (fun i hi => by
    have hi : i < 2 := hi
    obtain rfl | rfl : i = 0 ∨ i = 1 := by omega
    all_goals rfl))
  have r1 := r0.of_block (hf.block _ r0.lt)
  clear r0
  simp at r1
  have e2 : w.heap.size + 2 = w.heap.size + 1 + 1 := rfl
  rw [e2] at r1
  have f1 := r1.frozen
  have c0 := r1.cell (i := 0) (by decide)
  have c1 := r1.cell (i := 1) (by decide)
  go_wp2_with fail
  refine (clamp_any _ 16384 _ b1.1 b1.2 (by decide) (by decide)).mono ?_
  rintro e w2 ⟨rfl, rfl⟩
  go_wp2_with fail
  refine (clamp_any _ 16384 _ b2.1 b2.2 (by decide) (by decide)).mono ?_
  rintro e w2 ⟨rfl, rfl⟩
  go_wp2
  have r3 := (r1.set 0 (.int .i64 (Fix.cl (rc uC uS tC tS) 16384))).set 1 (.int .i64 (Fix.cl (rs uC uS tC tS) 16384))
  have H3 := (H.setCell (p := ⟨w.heap.size + 1 + 1, 0, none⟩) (by simp; omega) (.int .i64 (Fix.cl (rc uC uS tC tS) 16384))).setCell (p := ⟨w.heap.size + 1 + 1, 1, none⟩) (by simp; omega) (.int .i64 (Fix.cl (rs uC uS tC tS) 16384))
  clear r1 f1 c0 c1
  generalize ((World.setCell _ ⟨w.heap.size + 1 + 1, 0, none⟩ (.int .i64 (Fix.cl (rc uC uS tC tS) 16384))).setCell ⟨w.heap.size + 1 + 1, 1, none⟩ (.int .i64 (Fix.cl (rs uC uS tC tS) 16384))) = w9 at *
  have y0 : w9.cell? ⟨w.heap.size + 1 + 1, 0, none⟩ = some (.int .i64 (Fix.cl (rc uC uS tC tS) 16384)) := r3.cell (i := 0) (by decide)
  have y1 : w9.cell? ⟨w.heap.size + 1 + 1, 1, none⟩ = some (.int .i64 (Fix.cl (rs uC uS tC tS) 16384)) := r3.cell (i := 1) (by decide)
  exact bodyPost_ret (v := .agg #[.int .i64 (Fix.cl (rc uC uS tC tS) 16384), .int .i64 (Fix.cl (rs uC uS tC tS) 16384)]) (by simp [results, Tryd.results68, go_sem, y0, y1]) rfl ⟨rfl, H3⟩
set_option maxHeartbeats 400000 in
theorem beyond_ok (x : Int) (w : World) (h0 : -16384 ≤ x) (h1 : x ≤ 16384) : Calls Tryd.prog 67 #[.int .i64 x] w fun e w' => e = .returned (.bool false) ∧ w' = w := by
  go_enter Tryd.func67, Tryd.ntmps67
  go_wp2
  go_ret
  exact ⟨ret_bool (by simp; try omega), rfl⟩
set_option maxHeartbeats 400000 in
theorem beyond_bad (x : Int) (w : World) (h : x < -16384 ∨ 16384 < x) : Calls Tryd.prog 67 #[.int .i64 x] w fun e w' => e = .returned (.bool true) ∧ w' = w := by
  rcases h with h | h
  · go_enter Tryd.func67, Tryd.ntmps67
    go_wp2
    go_ret
    exact ⟨ret_bool (by simp; try omega), rfl⟩
  · go_enter Tryd.func67, Tryd.ntmps67
    go_wp2
    go_ret
    exact ⟨ret_bool (by simp; try omega), rfl⟩
theorem rot_next {F : Nat → Value} {P Q : Nat → Value} {k : Nat} (h : ∀ i, i < k → F (2 * i) = P i ∧ F (2 * i + 1) = Q i) :
    Hid (∀ i, i < k + 1 → (if 2 * i = 2 * k + 1 then Q k else if 2 * i = 2 * k then P k else F (2 * i)) = P i ∧ (if 2 * i + 1 = 2 * k + 1 then Q k else if 2 * i + 1 = 2 * k then P k else F (2 * i + 1)) = Q i) := by
  intro i hi
  by_cases e : i = k
  · subst e
    rw [if_neg (by omega), if_pos rfl, if_pos rfl]; exact ⟨rfl, rfl⟩
  · rw [if_neg (by omega), if_neg (by omega), if_neg (by omega), if_neg (by omega)]
    exact h i (by omega)
set_option maxHeartbeats 2000000 in
theorem rotate_ok {w : World} {ao bo : Option Addr} {n m ca cb : Nat} {f C S : Nat → Int} (ha : RdA w ao 1 m ca (fun i => .int .i8 (f i))) (hb : RdA w bo 2 n cb (tcs C S)) (bf : ∀ i, i < m → -128 ≤ f i ∧ f i ≤ 127) (hm : m = 2 * n) (hm2 : m ≤ 281474976710656) :
    Calls Tryd.prog 29 #[.slice ao m ca, .slice bo n cb] w fun e w' => ∃ b F, e = .returned (.tuple #[.slice (some ⟨b, 0, none⟩) m m, .int .i64 0]) ∧ w.heap.size ≤ b ∧ w'.rowIs b 48 m F ∧
      (∀ i, i < n → F (2 * i) = .int .i8 (Fix.cl (rc (f (2 * i)) (f (2 * i + 1)) (C i) (S i)) 127) ∧ F (2 * i + 1) = .int .i8 (Fix.cl (rs (f (2 * i)) (f (2 * i + 1)) (C i) (S i)) 127)) ∧ Below w.heap.size w w' := by
  have hne : ((m : Int) != 2 * (n : Int)) = false := by simp; omega
  have hm1 : m ≤ 2 * n := by omega
  have hm3 : 2 * n ≤ m := by omega
  clear hm
  have hmk := run_make_row' (P := Tryd.prog) 26 48 (.int .i8 0) 1 Tryd.underlying26 infoI8 rfl .i64 .i64 m (by omega) (by omega)
  go_enter Tryd.func29, Tryd.ntmps29
  go_wp2
  clear hmk hne
  go_loopw [22] (fun i wr => ∃ (k : Nat) (F : Nat → Value), k ≤ n ∧ i = .int .i64 k ∧ wr.rowIs w.heap.size 48 m F ∧ Hid (∀ i, i < k → F (2 * i) = .int .i8 (Fix.cl (rc (f (2 * i)) (f (2 * i + 1)) (C i) (S i)) 127) ∧ F (2 * i + 1) = .int .i8 (Fix.cl (rs (f (2 * i)) (f (2 * i + 1)) (C i) (S i)) 127)) ∧ Below w.heap.size w wr) (fun i _ => n - (intOf i).toNat)
  case atStart => exact ⟨0, _, by omega, rfl, World.rowIs_made w (.int .i8 0) m 48, fun j hj => absurd hj (by omega), fresh_alloc _ _⟩
  case round =>
    obtain ⟨k, F, hk, rfl, hrow, HF, hf⟩ := hrel
    by_cases hlt : k < n
    · obtain ⟨b1, o1, rfl, h1⟩ := (ha.fresh hf).one (by omega)
      have c1 := h1 (2 * k) (by omega)
      have c2 := h1 (2 * k + 1) (by omega)
      have d1 := bf (2 * k) (by omega)
      have d2 := bf (2 * k + 1) (by omega)
      obtain ⟨b2, o2, rfl, h2⟩ := (hb.fresh hf).two (by omega)
      obtain ⟨e1, e2⟩ := h2 k hlt
      clear h1 h2
      go_wp2
      have d0 : (wr.alloc (.cells #[.int .i64 (C k), .int .i64 (S k)] 79)).cell? ⟨wr.heap.size, 0, none⟩ = some (.int .i64 (C k)) := by simp
      have d1' : (wr.alloc (.cells #[.int .i64 (C k), .int .i64 (S k)] 79)).cell? ⟨wr.heap.size, 1, none⟩ = some (.int .i64 (S k)) := by simp
      have g1 := fresh_alloc wr (.cells #[.int .i64 (C k), .int .i64 (S k)] 79)
      replace c1 := fresh_cell g1 c1; replace c2 := fresh_cell g1 c2
      have hrow1 := hrow.alloc (.cells #[.int .i64 (C k), .int .i64 (S k)] 79)
      have hf1 := fresh_trans hf g1
      clear e1 e2 hrow hf g1
      generalize wr.alloc (.cells #[.int .i64 (C k), .int .i64 (S k)] 79) = w1 at *
      replace d0 := later_cell d0; replace d1' := later_cell d1'; replace c1 := later_cell c1; replace c2 := later_cell c2
      have ne := later_some w1
      refine wp_region_later (by kernel_rfl) (by kernel_rfl) ?_
      repeat (go_big_quiet_step (exact later_of (turned_any _ _ _ _ _)))
      refine wpQuiet_nil ?_
      rintro _ ⟨z, rfl⟩
      have hf2 := fresh_trans hf1 z.fresh
      have hrow2 := hrow1.of_block (z.fresh.block _ hrow1.lt)
      clear d0 d1' c1 c2 hrow1 hf1 ne
      have hb1 := rc_bd (f (2 * k)) (f (2 * k + 1)) (C k) (S k)
      have hb2 := rs_bd (f (2 * k)) (f (2 * k + 1)) (C k) (S k)
      have fa := hrow2.frozen
      have ca1 := hrow2.cell (i := 2 * k) (by omega)
      have hrow3 := hrow2.set (2 * k) (.int .i8 (Fix.cl (rc (f (2 * k)) (f (2 * k + 1)) (C k) (S k)) 127))
      have ca2 := hrow3.cell (i := 2 * k + 1) (by omega)
      go_wp2_with fail
      refine (clamp8_any _ _ hb1.1 hb1.2).mono ?_
      rintro e w2 ⟨rfl, hw2⟩
      rw [hw2]
      clear hw2
      go_wp2_with fail
      refine (clamp8_any _ _ hb2.1 hb2.2).mono ?_
      rintro e w3 ⟨rfl, hw3⟩
      rw [hw3]
      clear hw3 hb1 hb2
      go_wp2
      go_roundw
      case rel => exact ⟨k + 1, _, hlt, by go_num, hrow3.set (2 * k + 1) _, rot_next HF.out, (hf2.setCell (Nat.le_refl _) _).setCell (Nat.le_refl _) _⟩
      case measure => simp [intOf]; omega
    · obtain rfl : k = n := by omega
      go_wp2
      go_ret2
      exact ⟨_, F, rfl, Nat.le_refl _, hrow, HF.out, hf⟩
set_option maxHeartbeats 1000000 in
theorem rotate_bad {w : World} {ao bo : Option Addr} {n m ca cb : Nat} (h : m ≠ 2 * n) (hn : n ≤ 1152921504606846976) :
    Calls Tryd.prog 29 #[.slice ao m ca, .slice bo n cb] w fun e w' => e = .returned (.tuple #[.slice none 0 0, .int .i64 30]) ∧ w' = w := by
  have hne : ((m : Int) != 2 * (n : Int)) = true := by simp; omega
  go_enter Tryd.func29, Tryd.ntmps29
  go_wp2
  go_ret2
  exact ⟨rfl, rfl⟩
end Go.Proofs.YtmcefgpejocjfaaDoor
