import Derived.Test.YtmcefgpejocjfaaDoorMats
namespace Go.Proofs.YtmcefgpejocjfaaDoor
open Go.RowKit
/-! The reference's Check. -/
set_option maxHeartbeats 4000000 in
theorem check_rshape {w : World} {R C : Int} {ao : Option Addr} {n cap : Nat} (hn : n ≤ 9223372036854775807) (hs : shp R C n = false) :
    Calls Tryd.prog 45 #[.agg #[.int .i64 R, .int .i64 C, .slice ao n cap]] w fun e w' => e = .returned (.int .i64 30) ∧ Below w.heap.size w w' := by
  by_cases r : R < 1
  · have d1 : decide (R < 1) = true := by simp; omega
    clear hs
    go_enter Tryd.func45, Tryd.ntmps45
    go_wp2
    go_quiet (fail)
    go_wp2
    go_ret
    exact ⟨rfl, below_drewN (fresh_alloc _ _) _⟩
  · have d1 : decide (R < 1) = false := by simp; omega
    by_cases c : C < 1
    · have d2 : decide (C < 1) = true := by simp; omega
      clear hs
      go_enter Tryd.func45, Tryd.ntmps45
      go_wp2
      go_quiet (fail)
      go_wp2
      go_ret
      exact ⟨rfl, below_drewN (fresh_alloc _ _) _⟩
    · obtain ⟨c', rfl⟩ := Int.eq_ofNat_of_zero_le (show 0 ≤ C by omega)
      have d2 : decide ((c' : Int) < 1) = false := by simp; omega
      have hz : ¬ (c' : Int) = 0 := by omega
      have e1 : (n : Int).tmod (c' : Int) = (n : Int) % (c' : Int) := rfl
      have e2 : (n : Int).tdiv (c' : Int) = (n : Int) / (c' : Int) := rfl
      have hq := Int.ediv_nonneg (show 0 ≤ (n : Int) by omega) (show 0 ≤ (c' : Int) by omega)
      have hq2 := Int.ediv_le_self (c' : Int) (show 0 ≤ (n : Int) by omega)
      cases hm : ((n : Int) % (c' : Int) == 0) with
      | false =>
        have hm' : ((n : Int) % (c' : Int) != 0) = true := by rw [bne, hm]; rfl
        clear hm hs
        go_enter Tryd.func45, Tryd.ntmps45
        go_wp2
        go_quiet (fail)
        go_wp2
        go_ret
        exact ⟨rfl, below_drewN (fresh_alloc _ _) _⟩
      | true =>
        have hm' : ((n : Int) % (c' : Int) != 0) = false := by rw [bne, hm]; rfl
        have e : shp R c' n = ((n : Int) / c' == R) := by unfold shp; rw [hm, decide_eq_true (by omega), decide_eq_true (by omega)]; simp
        rw [e] at hs
        have hr' : ((n : Int) / (c' : Int) != R) = true := by rw [bne, hs]; rfl
        clear e hm hs
        go_enter Tryd.func45, Tryd.ntmps45
        go_wp2
        go_quiet (fail)
        go_wp2
        go_ret
        exact ⟨rfl, below_drewN (fresh_alloc _ _) _⟩
end Go.Proofs.YtmcefgpejocjfaaDoor
namespace Go.Proofs.YtmcefgpejocjfaaDoor
open Go.RowKit
/-! MatVec, and the one call whose answer the document tells. -/
/-- row r of a matrix times a vector -/
def mv (f g : Nat → Int) (C r : Nat) : Int := dot (fun c => f (r * C + c)) g C
theorem shp_mul {R C n : Nat} (h : shp (R : Int) (C : Int) n = true) : 1 ≤ R ∧ 1 ≤ C ∧ n = R * C := by
  unfold shp at h
  simp only [Bool.and_eq_true, decide_eq_true_eq, beq_iff_eq] at h
  obtain ⟨h1, h2, h3, h4⟩ := h
  refine ⟨by omega, by omega, ?_⟩
  have h5 := Int.mul_ediv_add_emod (n : Int) (C : Int)
  rw [h3, h4] at h5
  have h6 : ((C * R : Nat) : Int) = (n : Int) := by rw [Int.natCast_mul]; omega
  rw [Nat.mul_comm]; omega
theorem mul_shp {R C : Nat} (hR : 1 ≤ R) (hC : 1 ≤ C) : shp (R : Int) (C : Int) (R * C) = true := by
  unfold shp
  simp only [Bool.and_eq_true, decide_eq_true_eq, beq_iff_eq]
  refine ⟨by omega, by omega, ?_, ?_⟩
  · rw [Int.natCast_mul]; exact Int.mul_emod_left _ _
  · rw [Int.natCast_mul]; exact Int.mul_ediv_cancel _ (by omega)
/-- the bounds of a row, as numbers -/
theorem row_bds {R C n k : Nat} (hn : n = R * C) (hk : k < R) (hb : n ≤ 9223372036854775807) : ∃ lo : Nat, lo = k * C ∧ lo + C ≤ n ∧ wrap64 ((k : Int) * (C : Int)) = (lo : Int) ∧ wrap64 (((k : Int) + 1) * (C : Int)) = ((lo + C : Nat) : Int) := by
  have h1 : k * C + C ≤ R * C := by
    have := Nat.mul_le_mul_right C (show k + 1 ≤ R by omega)
    rw [Nat.add_mul, Nat.one_mul] at this; exact this
  refine ⟨k * C, rfl, by omega, ?_, ?_⟩
  · rw [← Int.natCast_mul, wid _ (by omega) (by omega)]
  · rw [Int.add_mul, Int.one_mul, ← Int.natCast_mul, wid _ (by omega) (by omega)]; omega
theorem mv_next {f g : Nat → Int} {C k lo : Nat} {F : Nat → Value} (hlo : lo = k * C) (h : ∀ j, j < k → F j = .int .i64 (mv f g C j)) :
    Hid (∀ j, j < k + 1 → (if j = k then .int .i64 (dot (fun i => f (lo + i)) g C) else F j) = Value.int .i64 (mv f g C j)) := by
  intro j hj
  by_cases e : j = k
  · rw [if_pos e, e, hlo]; rfl
  · rw [if_neg e, h j (by omega)]
set_option maxHeartbeats 2000000 in
theorem matvec_ok {w : World} {R C : Nat} {ao bo : Option Addr} {n ca cb : Nat} {f g : Nat → Int} (ha : RdA w ao 1 n ca (fun i => .int .i8 (f i))) (hb : RdA w bo 1 C cb (fun i => .int .i8 (g i)))
    (hs : shp (R : Int) (C : Int) n = true) (hf : ∀ i, i < n → -127 ≤ f i ∧ f i ≤ 127) (hg : ∀ i, i < C → -128 ≤ g i ∧ g i ≤ 127) (hR : 8 * R ≤ 281474976710656) :
    Calls Tryd.prog 15 #[.agg #[.int .i64 (R : Int), .int .i64 (C : Int), .slice ao n ca], .slice bo C cb] w fun e w' =>
      ∃ b F, e = .returned (.tuple #[.slice (some ⟨b, 0, none⟩) R R, .int .i64 0]) ∧ w.heap.size ≤ b ∧ w'.rowIs b 2 R F ∧ (∀ r, r < R → F r = .int .i64 (mv f g C r)) ∧ Below w.heap.size w w' := by
  have hn : n ≤ 9223372036854775807 := by have := ha.le; have := ha.top; unfold maxLen at this; omega
  obtain ⟨hR1, hC1, hmul⟩ := shp_mul hs
  have HM := hidd hmul
  clear hmul
  have hca := ha.le
  have hC2 : C ≤ 9223372036854775807 := by have := hb.le; have := hb.top; unfold maxLen at this; omega
  have hne : ((C : Int) != (C : Int)) = false := by simp
  have hmk := run_make_row' (P := Tryd.prog) 29 2 (.int .i64 0) 8 Tryd.underlying29 infoI64 rfl .i64 .i64 R hR (by omega)
  go_enter Tryd.func15, Tryd.ntmps15
  go_wp2_with fail
  refine (check_ok (ha.fresh (fresh_alloc _ _)) hs (fun i hi => (hf i hi).1)).mono ?_
  rintro e w1 ⟨rfl, hb1⟩
  have H1 := fresh_trans (fresh_alloc w _) hb1
  have c1 := fresh_cell hb1 (k := w.heap.size) (o := 0) (v := .int .i64 (R : Int)) (by simp)
  have c2 := fresh_cell hb1 (k := w.heap.size) (o := 1) (v := .int .i64 (C : Int)) (by simp)
  have c3 := fresh_cell hb1 (k := w.heap.size) (o := 2) (v := .slice ao n ca) (by simp)
  clear hb1
  have hsz1 := H1.size
  go_wp2
  have C2 := hidd c2
  have C3 := hidd c3
  clear c1 c2 c3 hmk
  go_loopw [23] (fun i wr => ∃ (k : Nat) (F : Nat → Value), k ≤ R ∧ i = .int .i64 k ∧ wr.rowIs w1.heap.size 2 R F ∧ Hid (∀ j, j < k → F j = .int .i64 (mv f g C j)) ∧ Below w1.heap.size w1 wr) (fun i _ => R - (intOf i).toNat)
  case atStart => exact ⟨0, _, by omega, rfl, World.rowIs_made w1 (.int .i64 0) R 2, fun j hj => absurd hj (by omega), fresh_alloc _ _⟩
  case round =>
    obtain ⟨k, F, hk, rfl, hrow, HF, hf1⟩ := hrel
    by_cases hlt : k < R
    · obtain ⟨lo, hlo, hlb, hw1, hw2⟩ := row_bds HM.out hlt hn
      have hn0 : 0 < n := Nat.lt_of_lt_of_le (Nat.lt_of_lt_of_le hC1 (Nat.le_add_left C lo)) hlb
      obtain ⟨b1, o1, rfl, h1⟩ := ha.one hn0
      have c2 := fresh_cell hf1 C2.out
      have c3 := fresh_cell hf1 C3.out
      have fa := hrow.frozen
      have cak := hrow.cell (i := k) hlt
      have hcut := ((ha.fresh H1).fresh hf1).cut (lo := lo) (m := C) hlb
      have hbb := (hb.fresh H1).fresh hf1
      have HL := hidd hlo
      clear hlo h1
      go_wp2_with fail
      refine (sop88_any hcut hbb (fun i hi => ?_) hg).mono ?_
      · have := hf (lo + i) (Nat.lt_of_lt_of_le (Nat.add_lt_add_left hi lo) hlb)
        exact ⟨Int.le_trans (by decide) this.1, this.2⟩
      rintro e w' ⟨rfl, rfl⟩
      clear hw1 hw2
      go_wp2
      go_roundw
      case rel => exact ⟨k + 1, _, hlt, by go_num, hrow.set k _, mv_next HL.out HF.out, hf1.setCell (Nat.le_refl _) _⟩
      case measure => simp [intOf]; omega
    · obtain rfl : k = R := by omega
      go_wp2
      go_ret2
      exact ⟨_, F, rfl, hsz1, hrow, HF.out, fresh_trans H1 hf1⟩
set_option maxHeartbeats 1000000 in
theorem matvec_bad {w : World} {R C : Int} {ao bo : Option Addr} {n m ca cb : Nat} {f : Nat → Int} (ha : RdA w ao 1 n ca (fun i => .int .i8 (f i)))
    (hs : (m : Int) ≠ C ∨ shp R C n = false ∨ ∃ i, i < n ∧ f i < -127) :
    Calls Tryd.prog 15 #[.agg #[.int .i64 R, .int .i64 C, .slice ao n ca], .slice bo m cb] w fun e w' => e = .returned (.tuple #[.slice none 0 0, .int .i64 30]) ∧ Below w.heap.size w w' := by
  by_cases hc : (m : Int) = C
  · subst hc
    have hne : ((m : Int) != (m : Int)) = false := by simp
    go_enter Tryd.func15, Tryd.ntmps15
    go_wp2_with fail
    refine (check_bad (ha.fresh (fresh_alloc _ _)) (by rcases hs with h | h; · exact absurd rfl h
                                                       · exact h)).mono ?_
    rintro e w1 ⟨rfl, hb1⟩
    have H1 := fresh_trans (fresh_alloc w _) hb1
    clear hb1 hs
    go_wp2
    go_ret2
    exact ⟨rfl, H1⟩
  · have hne : ((m : Int) != C) = true := by simpa using hc
    clear hs
    go_enter Tryd.func15, Tryd.ntmps15
    go_wp2
    go_ret2
    exact ⟨rfl, fresh_alloc _ _⟩
set_option maxHeartbeats 1000000 in
theorem fixed_any (w : World) : Calls Tryd.prog 6 #[] w fun e w' => e = .returned (.bool true) ∧ Below w.heap.size w w' := by
  go_enter Tryd.func6, Tryd.ntmps6
  go_wp2_with fail
  refine (matvec_ok (R := 1) (C := 2) (f := fun i => if i = 0 then 3 else -4) (g := fun i => if i = 0 then 5 else 6) ⟨by decide, by decide, fun _ => ⟨w.heap.size, 0, rfl, fun j hj => ?_⟩⟩ ⟨by decide, by decide, fun _ => ⟨w.heap.size + 1, 0, rfl, fun j hj => ?_⟩⟩ (by decide) (fun i hi => ?_) (fun i hi => ?_) (by decide)).mono ?_
  · obtain rfl | rfl : j = 0 ∨ j = 1 := by omega
    · simp
    · simp
  · obtain rfl | rfl : j = 0 ∨ j = 1 := by omega
    · simp
    · simp
  · split <;> omega
  · split <;> omega
  · rintro e w1 ⟨b, F, rfl, hb, hrow, hF, hf⟩
    have c := hrow.cell (i := 0) (by decide)
    rw [hF 0 (by decide), show mv (fun i => if i = 0 then 3 else -4) (fun i => if i = 0 then 5 else 6) 2 0 = -9 by simp [mv, dot, isum, wrap64]] at c
    clear hrow hF
    have H1 : Below w.heap.size w w1 := fresh_trans (fresh_trans (fresh_alloc w _) (fresh_alloc _ _)) hf
    clear hf
    go_wp2
    go_ret
    exact ⟨rfl, H1⟩
end Go.Proofs.YtmcefgpejocjfaaDoor
namespace Go.Proofs.YtmcefgpejocjfaaDoor
open Go.RowKit
/-! The reference's Check: a matrix of its shape. -/
theorem shp_parts {R C : Int} {n : Nat} (h : shp R C n = true) : 1 ≤ R ∧ 1 ≤ C ∧ ((n : Int) % C == 0) = true ∧ ((n : Int) / C == R) = true := by
  unfold shp at h
  simp only [Bool.and_eq_true, decide_eq_true_eq] at h
  exact ⟨h.1, h.2.1, h.2.2.1, h.2.2.2⟩
set_option maxHeartbeats 4000000 in
theorem check_rdata {w : World} {R C : Int} {ao : Option Addr} {n cap : Nat} {f : Nat → Int} (ha : RdA w ao 1 n cap (fun i => .int .i8 (f i))) (hs : shp R C n = true) (bf : ∀ i, i < n → -128 ≤ f i ∧ f i ≤ 127) (b : Bool) (hb : b = true ↔ ∀ i, i < n → -127 ≤ f i) :
    Calls Tryd.prog 45 #[.agg #[.int .i64 R, .int .i64 C, .slice ao n cap]] w fun e w' => e = .returned (.int .i64 (if b then 0 else 30)) ∧ Below w.heap.size w w' := by
  have hn : n ≤ 9223372036854775807 := by have := ha.le; have := ha.top; unfold maxLen at this; omega
  obtain ⟨r, c, hm, hr⟩ := shp_parts hs
  have HB := hidd hb
  have BF := hidd bf
  have d1 : decide (R < 1) = false := by simp; omega
  obtain ⟨c', rfl⟩ := Int.eq_ofNat_of_zero_le (show 0 ≤ C by omega)
  have d2 : decide ((c' : Int) < 1) = false := by simp; omega
  have hz : ¬ (c' : Int) = 0 := by omega
  have e1 : (n : Int).tmod (c' : Int) = (n : Int) % (c' : Int) := rfl
  have e2 : (n : Int).tdiv (c' : Int) = (n : Int) / (c' : Int) := rfl
  have hq := Int.ediv_nonneg (show 0 ≤ (n : Int) by omega) (show 0 ≤ (c' : Int) by omega)
  have hq2 := Int.ediv_le_self (c' : Int) (show 0 ≤ (n : Int) by omega)
  have hm' : ((n : Int) % (c' : Int) != 0) = false := by rw [bne, hm]; rfl
  have hr' : ((n : Int) / (c' : Int) != R) = false := by rw [bne, hr]; rfl
  have c0 : (w.alloc (.cells #[.int .i64 R, .int .i64 (c' : Int), .slice ao n cap] 28)).cell? ⟨w.heap.size, 2, none⟩ = some (.slice ao n cap) := by simp
  have C0 := hidd c0
  have hfa := fresh_alloc w (.cells #[.int .i64 R, .int .i64 (c' : Int), .slice ao n cap] 28)
  clear hs bf hb hm hr c0
  go_enter Tryd.func45, Tryd.ntmps45
  go_wp2
  go_quiet (fail)
  go_wp2
  clear d1 d2 hz e1 e2 hq hq2 hm' hr' r c
  generalize w.alloc (.cells #[.int .i64 R, .int .i64 (c' : Int), .slice ao n cap] 28) = w0 at *
  go_loopw [3] (fun i wr => ∃ k : Nat, k ≤ n ∧ i = .int .i64 k ∧ Hid (∀ j, j < k → -127 ≤ f j) ∧ Below w0.heap.size w0 wr) (fun i _ => n - (intOf i).toNat)
  case atStart => exact ⟨0, by omega, rfl, fun j hj => absurd hj (by omega), below_drewN (Below.refl _ _) _⟩
  case round =>
    obtain ⟨k, hk, rfl, HK, hf1⟩ := hrel
    have z0 := fresh_cell hf1 C0.out
    by_cases hlt : k < n
    · obtain ⟨b1, o1, rfl, h1⟩ := ((ha.fresh hfa).fresh hf1).one (by omega)
      have c1 := h1 k hlt
      have bk := BF.out k hlt
      clear h1
      by_cases hv : f k = -128
      · have hbf : b = false := by
          cases hbb : b with
          | false => rfl
          | true => have := HB.out.1 hbb k hlt; omega
        rw [hv] at c1
        clear hv bk
        go_wp2
        all_goals go_ret
        all_goals exact ⟨ret_int (by first | rfl | (rw [hbf]; rfl) | simp), fresh_trans hfa hf1⟩
      · have HK' : Hid (∀ j, j < k + 1 → -127 ≤ f j) := fun j hj => by
          by_cases e : j = k
          · rw [e]; omega
          · exact HK.out j (by omega)
        have hd : (f k == -128) = false := by simp; omega
        clear HK hv
        go_wp2
        go_roundw
        case rel => exact ⟨k + 1, by omega, by go_num, HK', hf1⟩
        case measure => simp [intOf]; omega
    · have hbt : b = true := HB.out.2 (fun i hi => HK.out i (by omega))
      go_wp2
      go_ret
      exact ⟨ret_int (by first | rfl | (rw [hbt]; rfl) | simp), fresh_trans hfa hf1⟩
end Go.Proofs.YtmcefgpejocjfaaDoor
namespace Go.Proofs.YtmcefgpejocjfaaDoor
open Go.RowKit
/-! The reference's MatVec. -/
theorem row_prods {R C n k : Nat} (hn : n = R * C) (hk : k < R) : ∃ lo : Nat, lo = k * C ∧ lo + C ≤ n ∧ (k : Int) * (C : Int) = (lo : Int) := by
  have h1 : k * C + C ≤ R * C := by
    have := Nat.mul_le_mul_right C (show k + 1 ≤ R by omega)
    rw [Nat.add_mul, Nat.one_mul] at this; exact this
  exact ⟨k * C, rfl, by omega, (Int.natCast_mul _ _).symm⟩
set_option maxHeartbeats 4000000 in
theorem matvec_rok {w : World} {R C : Nat} {ao bo : Option Addr} {n ca cb : Nat} {f g : Nat → Int} (ha : RdA w ao 1 n ca (fun i => .int .i8 (f i))) (hb : RdA w bo 1 C cb (fun i => .int .i8 (g i)))
    (hs : shp (R : Int) (C : Int) n = true) (hf : ∀ i, i < n → -127 ≤ f i ∧ f i ≤ 127) (hg : ∀ i, i < C → -128 ≤ g i ∧ g i ≤ 127) (hR : R * 8 ≤ 140737488351232) :
    Calls Tryd.prog 46 #[.agg #[.int .i64 (R : Int), .int .i64 (C : Int), .slice ao n ca], .slice bo C cb] w fun e w' => ∃ v, e = .returned (.tuple #[v, .int .i64 0]) ∧ Own w' w.heap.size 2 1 v R (fun r => .int .i64 (mv f g C r)) ∧ Below w.heap.size w w' := by
  have hn : n ≤ 9223372036854775807 := by have := ha.le; have := ha.top; unfold maxLen at this; omega
  obtain ⟨hR1, hC1, hmul⟩ := shp_mul hs
  have HM := hidd hmul
  have hC2 : C ≤ 9223372036854775807 := by have := hb.le; have := hb.top; unfold maxLen at this; omega
  have hne : ((C : Int) != (C : Int)) = false := by simp
  have HF := hidd hf
  have HG := hidd hg
  have qc := check_rdata (ha.fresh (fresh_alloc w (.cells #[.int .i64 (R : Int), .int .i64 (C : Int), .slice ao n ca] 28))) hs (fun i hi => by have := hf i hi; omega) true ⟨fun _ i hi => (hf i hi).1, fun _ => rfl⟩
  clear hmul hf hg
  go_enter Tryd.func46, Tryd.ntmps46
  go_wp2_with fail
  refine qc.mono ?_
  rintro e w1 ⟨rfl, hb1⟩
  have H1 := fresh_trans (fresh_alloc w _) hb1
  have hs1 := H1.size
  have c0 := fresh_cell hb1 (k := w.heap.size) (o := 0) (v := .int .i64 (R : Int)) (by simp)
  have c1 := fresh_cell hb1 (k := w.heap.size) (o := 1) (v := .int .i64 (C : Int)) (by simp)
  have c2 := fresh_cell hb1 (k := w.heap.size) (o := 2) (v := .slice ao n ca) (by simp)
  replace ha := ha.fresh H1
  replace hb := hb.fresh H1
  clear hb1 qc
  go_wp2
  have C0 := hidd c0
  have C1 := hidd c1
  have C2 := hidd c2
  clear c0 c1 c2 hne
  go_loopw [7, 8] (fun v i wr => ∃ k : Nat, k ≤ R ∧ i = .int .i64 k ∧ Own wr w1.heap.size 2 1 v k (fun r => .int .i64 (mv f g C r)) ∧ Below w1.heap.size w1 wr) (fun _ i _ => R - (intOf i).toNat)
  case atStart => exact ⟨0, by omega, rfl, own_nil _ _ _ _ _, Below.refl _ _⟩
  case round =>
    obtain ⟨k, hk, rfl, hown, hf1⟩ := hrel
    have hsz := hf1.size
    have c0 := fresh_cell hf1 C0.out
    by_cases hlt : k < R
    · obtain ⟨lo, hlo, hlb, hp⟩ := row_prods HM.out hlt
      have HL := hidd hlo
      have HP := hidd hp
      clear hlo hp
      go_wp2
      clear c0
      go_loopw [9, 10] (fun s i wc => ∃ t : Nat, t ≤ C ∧ i = .int .i64 t ∧ s = .int .i64 (dot (fun c => f (lo + c)) g t) ∧ Below wr.heap.size wr wc) (fun _ i _ => C - (intOf i).toNat)
      case atStart => exact ⟨0, by omega, rfl, by rw [dot_zero], Below.refl _ _⟩
      case round =>
        obtain ⟨t, ht, rfl, rfl, hfc⟩ := hrel
        have hfd := fresh_trans hf1 hfc
        have c1 := fresh_cell hfd C1.out
        by_cases hltt : t < C
        · obtain ⟨b1, o1, rfl, h1⟩ := (ha.fresh hfd).one (by omega)
          obtain ⟨b2, o2, rfl, h2⟩ := (hb.fresh hfd).one (by omega)
          have c2 := fresh_cell hfd C2.out
          have q1 := h1 (lo + t) (by omega)
          have q2 := h2 t hltt
          have bf := HF.out (lo + t) (by omega)
          have bg := HG.out t hltt
          have E := hidd (dot_succ (fun c => f (lo + c)) g t)
          have E' := hidd (dot_succ' (fun c => f (lo + c)) g t)
          have hp := HP.out
          clear h1 h2
          go_wp2
          go_quiet (fail)
          go_wp2
          clear hp
          go_roundw
          case rel => exact ⟨t + 1, by omega, by go_num, by first | rw [E.out] | rw [E'.out], below_drewN hfc _⟩
          case measure => simp [intOf]; omega
        · have htC : t = C := by omega
          subst htC
          have hmv : Hid (dot (fun c => f (lo + c)) g t = mv f g t k) := by
            show _ = _
            unfold mv
            rw [HL.out]
          have ho := hown.kept hfc
          have hsd := hfd.size
          clear hown hf1 hfc
          rw [hmv.out]
          go_wp2_with (at_builtin; refine wpList_app1 _ rfl _ _ 29 rfl _ 2 (.int .i64 0) 8 Tryd.underlying29 infoI64 rfl _ k _ rfl (ho.kept (fresh_alloc _ _)) _ 1 rfl (new_cell _ _ _) rfl (by omega) (by omega) (by simp; omega) ?_)
          intro v' w6 hown' happ
          have hf6 := happ.below (hfd.alloc hsd _) (ho.kept (fresh_alloc _ _)) (Nat.le_refl _) (by simp; omega)
          clear happ ho hfd c1
          go_wp2
          go_roundw
          case rel => exact ⟨k + 1, by omega, by go_num, hown', hf6⟩
          case measure => simp [intOf]; omega
    · have hkR : k = R := by omega
      rw [hkR] at hown
      go_wp2
      go_ret2
      exact ⟨_, rfl, hown.weaken hs1, fresh_trans H1 hf1⟩
end Go.Proofs.YtmcefgpejocjfaaDoor
namespace Go.Proofs.YtmcefgpejocjfaaDoor
open Go.RowKit
/-! The reference's MatVec: its refusals. -/
set_option maxHeartbeats 1000000 in
theorem matvec_rbad {w : World} {R C : Int} {ao bo : Option Addr} {n m ca cb : Nat} {f : Nat → Int} (ha : RdA w ao 1 n ca (fun i => .int .i8 (f i))) (bf : ∀ i, i < n → -128 ≤ f i ∧ f i ≤ 127)
    (h : shp R C n = false ∨ (∃ i, i < n ∧ f i < -127) ∨ (m : Int) ≠ C) :
    Calls Tryd.prog 46 #[.agg #[.int .i64 R, .int .i64 C, .slice ao n ca], .slice bo m cb] w fun e w' => e = .returned (.tuple #[.slice none 0 0, .int .i64 30]) ∧ Below w.heap.size w w' := by
  have hn : n ≤ 9223372036854775807 := by have := ha.le; have := ha.top; unfold maxLen at this; omega
  have qc : ∀ w0, Below w.heap.size w w0 → Calls Tryd.prog 45 #[.agg #[.int .i64 R, .int .i64 C, .slice ao n ca]] w0 fun e w' => (e = .returned (.int .i64 30) ∨ (e = .returned (.int .i64 0) ∧ (m : Int) ≠ C)) ∧ Below w0.heap.size w0 w' := by
    intro w0 hw0
    by_cases hs : shp R C n = true
    · by_cases hall : ∀ i, i < n → -127 ≤ f i
      · refine (check_rdata (ha.fresh hw0) hs bf true ⟨fun _ => hall, fun _ => rfl⟩).mono ?_
        rintro e w' ⟨rfl, hf⟩
        refine ⟨.inr ⟨rfl, ?_⟩, hf⟩
        rcases h with h | ⟨i, hi, hl⟩ | h
        · rw [hs] at h; cases h
        · have := hall i hi; omega
        · exact h
      · refine (check_rdata (ha.fresh hw0) hs bf false ⟨(fun hh => absurd hh (by decide)), (fun hh => absurd hh hall)⟩).mono ?_
        rintro e w' ⟨rfl, hf⟩
        exact ⟨.inl rfl, hf⟩
    · refine (check_rshape hn (by simpa using hs)).mono ?_
      rintro e w' ⟨rfl, hf⟩
      exact ⟨.inl rfl, hf⟩
  have qd := qc _ (fresh_alloc w (.cells #[.int .i64 R, .int .i64 C, .slice ao n ca] 28))
  clear qc h bf
  go_enter Tryd.func46, Tryd.ntmps46
  go_wp2_with fail
  refine qd.mono ?_
  rintro e w1 ⟨rfl | ⟨rfl, hmC⟩, hb1⟩
  · have H1 := fresh_trans (fresh_alloc w _) hb1
    clear qd
    go_wp2
    go_ret2
    exact ⟨rfl, H1⟩
  · have H1 := fresh_trans (fresh_alloc w _) hb1
    have c1 := fresh_cell hb1 (k := w.heap.size) (o := 1) (v := .int .i64 C) (by simp)
    have hne : ((m : Int) != C) = true := by simp; omega
    clear qd hmC
    go_wp2
    go_ret2
    exact ⟨rfl, H1⟩
end Go.Proofs.YtmcefgpejocjfaaDoor
