import Derived.Test.YtjjnfpeeipainaaMats
import Derived.Test.YtjjnfpeeipainaaTens
namespace Go.Proofs.Ytjjnfpeeipainaa
open Go.RowKit
/-! Dot and MatVec. -/
set_option maxHeartbeats 1000000 in
theorem sop88_any {w : World} {ao bo : Option Addr} {n ca cb : Nat} {f g : Nat → Int} (ha : RdA w ao 1 n ca (fun i => .int .i8 (f i))) (hb : RdA w bo 1 n cb (fun i => .int .i8 (g i))) (bf : ∀ i, i < n → -128 ≤ f i ∧ f i ≤ 127) (bg : ∀ i, i < n → -128 ≤ g i ∧ g i ≤ 127) :
    Calls Try.prog 56 #[.slice ao n ca, .slice bo n cb] w fun e w' => e = .returned (.int .i64 (dot f g n)) ∧ w' = w := by
  have hn : n ≤ 9223372036854775807 := by have := ha.le; have := ha.top; unfold maxLen at this; omega
  go_enter Try.func56, Try.ntmps56
  go_wp2
  go_loop [5, 10] (fun s i => ∃ k : Nat, k ≤ n ∧ i = .int .i64 k ∧ s = .int .i64 (dot f g k)) (fun _ i => n - (intOf i).toNat)
  case atStart => exact ⟨0, by omega, rfl, by rw [dot_zero]⟩
  case round =>
    obtain ⟨k, hk, rfl, rfl⟩ := hrel
    by_cases hlt : k < n
    · obtain ⟨b1, o1, rfl, h1⟩ := ha.one (by omega)
      obtain ⟨b2, o2, rfl, h2⟩ := hb.one (by omega)
      have c1 := h1 k hlt
      have c2 := h2 k hlt
      have d1 := bf k hlt
      have d2 := bg k hlt
      have E := hidd (dot_succ f g k)
      have E' := hidd (dot_succ' f g k)
      clear h1 h2
      go_wp2
      go_round
      case rel => exact ⟨k + 1, by omega, by go_num, by first | rw [E.out] | rw [E'.out]⟩
      case measure => simp [intOf]; omega
    · obtain rfl : k = n := by omega
      go_wp2
      go_ret
      exact ⟨rfl, rfl⟩
/-- row r of a matrix times a vector -/
def mv (f g : Nat → Int) (C r : Nat) : Int := dot (fun c => f (r * C + c)) g C
theorem shp_mul {R C n : Nat} (h : shp (R : Int) (C : Int) n = true) : 1 ≤ R ∧ 1 ≤ C ∧ n = R * C := by
  unfold shp at h
  simp only [Bool.and_eq_true, decide_eq_true_eq, beq_iff_eq] at h
  obtain ⟨h1, h2, h3, h4⟩ := h
  refine ⟨by omega, by omega, ?_⟩
  have h5 := Int.mul_ediv_add_emod (n : Int) (C : Int)
  rw [h3, h4] at h5
  have h6 : ((C * R : Nat) : Int) = (n : Int) := by rw [Int.natCast_mul]; omega
  rw [Nat.mul_comm]; omega
theorem mul_shp {R C : Nat} (hR : 1 ≤ R) (hC : 1 ≤ C) : shp (R : Int) (C : Int) (R * C) = true := by
  unfold shp
  simp only [Bool.and_eq_true, decide_eq_true_eq, beq_iff_eq]
  refine ⟨by omega, by omega, ?_, ?_⟩
  · rw [Int.natCast_mul]; exact Int.mul_emod_left _ _
  · rw [Int.natCast_mul]; exact Int.mul_ediv_cancel _ (by omega)
/-- the bounds of a row, as numbers -/
theorem row_bds {R C n k : Nat} (hn : n = R * C) (hk : k < R) (hb : n ≤ 9223372036854775807) : ∃ lo : Nat, lo = k * C ∧ lo + C ≤ n ∧ wrap64 ((k : Int) * (C : Int)) = (lo : Int) ∧ wrap64 (((k : Int) + 1) * (C : Int)) = ((lo + C : Nat) : Int) := by
  have h1 : k * C + C ≤ R * C := by
    have := Nat.mul_le_mul_right C (show k + 1 ≤ R by omega)
    rw [Nat.add_mul, Nat.one_mul] at this; exact this
  refine ⟨k * C, rfl, by omega, ?_, ?_⟩
  · rw [← Int.natCast_mul, wid _ (by omega) (by omega)]
  · rw [Int.add_mul, Int.one_mul, ← Int.natCast_mul, wid _ (by omega) (by omega)]; omega
theorem mv_next {f g : Nat → Int} {C k lo : Nat} {F : Nat → Value} (hlo : lo = k * C) (h : ∀ j, j < k → F j = .int .i64 (mv f g C j)) :
    Hid (∀ j, j < k + 1 → (if j = k then .int .i64 (dot (fun i => f (lo + i)) g C) else F j) = Value.int .i64 (mv f g C j)) := by
  intro j hj
  by_cases e : j = k
  · rw [if_pos e, e, hlo]; rfl
  · rw [if_neg e, h j (by omega)]
set_option maxHeartbeats 2000000 in
theorem matvec_ok {w : World} {R C : Nat} {ao bo : Option Addr} {n ca cb : Nat} {f g : Nat → Int} (ha : RdA w ao 1 n ca (fun i => .int .i8 (f i))) (hb : RdA w bo 1 C cb (fun i => .int .i8 (g i)))
    (hs : shp (R : Int) (C : Int) n = true) (hf : ∀ i, i < n → -127 ≤ f i ∧ f i ≤ 127) (hg : ∀ i, i < C → -128 ≤ g i ∧ g i ≤ 127) (hR : 8 * R ≤ 281474976710656) :
    Calls Try.prog 34 #[.agg #[.int .i64 (R : Int), .int .i64 (C : Int), .slice ao n ca], .slice bo C cb] w fun e w' =>
      ∃ b F, e = .returned (.tuple #[.slice (some ⟨b, 0, none⟩) R R, .int .i64 0]) ∧ w.heap.size ≤ b ∧ w'.rowIs b 2 R F ∧ (∀ r, r < R → F r = .int .i64 (mv f g C r)) ∧ Below w.heap.size w w' := by
  have hn : n ≤ 9223372036854775807 := by have := ha.le; have := ha.top; unfold maxLen at this; omega
  obtain ⟨hR1, hC1, hmul⟩ := shp_mul hs
  have HM := hidd hmul
  clear hmul
  have hca := ha.le
  have hC2 : C ≤ 9223372036854775807 := by have := hb.le; have := hb.top; unfold maxLen at this; omega
  have hne : ((C : Int) != (C : Int)) = false := by simp
  have hmk := run_make_row' (P := Try.prog) 46 2 (.int .i64 0) 8 Try.underlying46 infoI64 rfl .i64 .i64 R hR (by omega)
  go_enter Try.func34, Try.ntmps34
  go_wp2_with fail
  refine (check_ok (ha.fresh (fresh_alloc _ _)) hs (fun i hi => (hf i hi).1)).mono ?_
  rintro e w1 ⟨rfl, hb1⟩
  have H1 := fresh_trans (fresh_alloc w _) hb1
  have c1 := fresh_cell hb1 (k := w.heap.size) (o := 0) (v := .int .i64 (R : Int)) (by simp)
  have c2 := fresh_cell hb1 (k := w.heap.size) (o := 1) (v := .int .i64 (C : Int)) (by simp)
  have c3 := fresh_cell hb1 (k := w.heap.size) (o := 2) (v := .slice ao n ca) (by simp)
  clear hb1
  have hsz1 := H1.size
  go_wp2
  have C2 := hidd c2
  have C3 := hidd c3
  clear c1 c2 c3 hmk
  go_loopw [23] (fun i wr => ∃ (k : Nat) (F : Nat → Value), k ≤ R ∧ i = .int .i64 k ∧ wr.rowIs w1.heap.size 2 R F ∧ Hid (∀ j, j < k → F j = .int .i64 (mv f g C j)) ∧ Below w1.heap.size w1 wr) (fun i _ => R - (intOf i).toNat)
  case atStart => exact ⟨0, _, by omega, rfl, World.rowIs_made w1 (.int .i64 0) R 2, fun j hj => absurd hj (by omega), fresh_alloc _ _⟩
  case round =>
    obtain ⟨k, F, hk, rfl, hrow, HF, hf1⟩ := hrel
    by_cases hlt : k < R
    · obtain ⟨lo, hlo, hlb, hw1, hw2⟩ := row_bds HM.out hlt hn
      have hn0 : 0 < n := Nat.lt_of_lt_of_le (Nat.lt_of_lt_of_le hC1 (Nat.le_add_left C lo)) hlb
      obtain ⟨b1, o1, rfl, h1⟩ := ha.one hn0
      have c2 := fresh_cell hf1 C2.out
      have c3 := fresh_cell hf1 C3.out
      have fa := hrow.frozen
      have cak := hrow.cell (i := k) hlt
      have hcut := ((ha.fresh H1).fresh hf1).cut (lo := lo) (m := C) hlb
      have hbb := (hb.fresh H1).fresh hf1
      have HL := hidd hlo
      clear hlo h1
      go_wp2_with fail
      refine (sop88_any hcut hbb (fun i hi => ?_) hg).mono ?_
      · have := hf (lo + i) (Nat.lt_of_lt_of_le (Nat.add_lt_add_left hi lo) hlb)
        exact ⟨Int.le_trans (by decide) this.1, this.2⟩
      rintro e w' ⟨rfl, rfl⟩
      clear hw1 hw2
      go_wp2
      go_roundw
      case rel => exact ⟨k + 1, _, hlt, by go_num, hrow.set k _, mv_next HL.out HF.out, hf1.setCell (Nat.le_refl _) _⟩
      case measure => simp [intOf]; omega
    · obtain rfl : k = R := by omega
      go_wp2
      go_ret2
      exact ⟨_, F, rfl, hsz1, hrow, HF.out, fresh_trans H1 hf1⟩
set_option maxHeartbeats 1000000 in
theorem matvec_bad {w : World} {R C : Int} {ao bo : Option Addr} {n m ca cb : Nat} {f : Nat → Int} (ha : RdA w ao 1 n ca (fun i => .int .i8 (f i)))
    (hs : (m : Int) ≠ C ∨ shp R C n = false ∨ ∃ i, i < n ∧ f i < -127) :
    Calls Try.prog 34 #[.agg #[.int .i64 R, .int .i64 C, .slice ao n ca], .slice bo m cb] w fun e w' => e = .returned (.tuple #[.slice none 0 0, .int .i64 30]) ∧ Below w.heap.size w w' := by
  by_cases hc : (m : Int) = C
  · subst hc
    have hne : ((m : Int) != (m : Int)) = false := by simp
    go_enter Try.func34, Try.ntmps34
    go_wp2_with fail
    refine (check_bad (ha.fresh (fresh_alloc _ _)) (by rcases hs with h | h; · exact absurd rfl h
                                                       · exact h)).mono ?_
    rintro e w1 ⟨rfl, hb1⟩
    have H1 := fresh_trans (fresh_alloc w _) hb1
    clear hb1 hs
    go_wp2
    go_ret2
    exact ⟨rfl, H1⟩
  · have hne : ((m : Int) != C) = true := by simpa using hc
    clear hs
    go_enter Try.func34, Try.ntmps34
    go_wp2
    go_ret2
    exact ⟨rfl, fresh_alloc _ _⟩
end Go.Proofs.Ytjjnfpeeipainaa
