import Derived.Test.YtakekdbclmgeoaaTrJ
import Derived.Laws.Tables
import Derived.Laws.CopyOwn
import Derived.Deep.DeepCutAuto
namespace Go.Proofs.Ytakekdbclmgeoaa
open Go.RowKit
/-! Leaves and ways: has, way, leaves. -/
/-- the set of the parents of the nodes 1 to k -/
def pbs (P : Nat → Int) : Nat → Nat
  | 0 => 0
  | k + 1 => pbs P k ||| 2 ^ (P (k + 1)).toNat
theorem pbs_lt {n : Nat} {P T D : Nat → Int} (h : okT n P T D) : ∀ k, k < n → pbs P k < 4294967296
  | 0, _ => by show 0 < 4294967296; omega
  | k + 1, hk => by
    have ih := pbs_lt h k (by omega)
    obtain ⟨g1, g2, _⟩ := h.2.2.2.2 (k + 1) (by omega) hk
    have hn := h.2.1
    have h2 : 2 ^ (P (k + 1)).toNat < 2 ^ 32 := Nat.pow_lt_pow_right (by decide) (by omega)
    exact Nat.or_lt_two_pow (n := 32) ih h2
theorem pbs_bit (P : Nat → Int) (i : Nat) : ∀ k, (pbs P k).testBit i = true ↔ ∃ j, 1 ≤ j ∧ j ≤ k ∧ (P j).toNat = i
  | 0 => by simp [pbs]; omega
  | k + 1 => by
    rw [pbs, Nat.testBit_or, Bool.or_eq_true, pbs_bit P i k, Nat.testBit_two_pow]
    constructor
    · rintro (⟨j, h1, h2, h3⟩ | h)
      · exact ⟨j, h1, by omega, h3⟩
      · exact ⟨k + 1, by omega, by omega, by simpa using h⟩
    · rintro ⟨j, h1, h2, h3⟩
      by_cases e : j = k + 1
      · subst e; exact .inr (by simpa using h3)
      · exact .inl ⟨j, h1, by omega, h3⟩
theorem or_same (a k : Nat) : a ||| 2 ^ k = a ↔ a.testBit k = true := by
  constructor
  · intro h
    rw [← h, Nat.testBit_or, Nat.testBit_two_pow]
    simp
  · intro h
    apply Nat.eq_of_testBit_eq
    intro i
    rw [Nat.testBit_or, Nat.testBit_two_pow]
    by_cases e : k = i
    · subst e; rw [h]; rfl
    · simp [e]
theorem eql1_ne {a b : Int} (hab : ¬ a = b) (w : World) : (Op.equalIn 10000 52 (.agg #[.int .u64 a]) (.agg #[.int .u64 b])).run Try.prog w = .ok false w := by
  obtain ⟨inf, hinf, _⟩ := info_parts infoU
  have h1 := run_equalIn_array w 9999 #[.int .u64 a] #[.int .u64 b] Try.underlying52 hinf
  have h3 := run_equalIn_int w 9998 50 .u64 .u64 a b Try.underlying50
  have h2 : (Op.eqItems 9999 50 1 #[.int .u64 a] #[.int .u64 b] (List.range 1)).run Try.prog w = .ok false w := by
    show (Op.eqItems 9999 50 1 #[.int .u64 a] #[.int .u64 b] [0]).run Try.prog w = .ok false w
    simp only [Op.eqItems, Sem.run_bind, Nat.zero_mul, part1, h3, Result.andThen_ok]
    simp [hab]
  rw [cellsU, h2] at h1
  exact h1
set_option maxRecDepth 20000 in
set_option maxHeartbeats 1600000 in
theorem has_any {w : World} (a k : Nat) (hk : k < 32) (ha : a < 4294967296) {r : Bool} (hr : r = a.testBit k) :
    Calls Try.prog 43 #[.agg #[.int .u64 (a : Int)], .int .i64 (k : Int)] w fun e w' => e = .returned (.bool r) ∧ Below w.heap.size w w' := by
  obtain ⟨c, HC⟩ : ∃ c : Nat, Hid (c = a ||| 2 ^ k) := ⟨_, rfl⟩
  have HW : Hid (∀ w1, Calls Try.prog 32 #[.agg #[.int .u64 (a : Int)], .int .i64 (k : Int)] w1 fun e w' => e = .returned (.agg #[.int .u64 (c : Int)]) ∧ Below w1.heap.size w1 w') := fun w1 => by rw [HC.out]; exact with_any a k hk ha
  have c1 := new_cell w (.int .u64 (a : Int)) 52
  obtain ⟨w0, HW0⟩ : ∃ w0, Hid (w0 = w.alloc (.cells #[.int .u64 (a : Int)] 52)) := ⟨_, rfl⟩
  have HB0 : Hid (Below w.heap.size w w0) := by rw [HW0.out]; exact fresh_alloc _ _
  rw [← HW0.out] at c1
  have l1 := later_cell c1
  have ne := later_some w0
  have HR : Hid (r = true ↔ c = a) := by rw [hr, HC.out]; exact (or_same a k).symm
  clear c1 hr
  by_cases e : c = a
  · obtain rfl : r = true := HR.out.2 e
    subst e
    have hq := eql1 (c : Int)
    go_enter Try.func43, Try.ntmps43
    go_wp2
    rw [← HW0.out]
    refine wp_region_later (by kernel_rfl) (by kernel_rfl) ?_
    repeat (go_big_quiet_step (fail))
    go_big_quiet_step (exact later_of (HW.out _))
    repeat (go_big_quiet_step (fail))
    refine wpQuiet_nil ?_
    rintro _ ⟨z, rfl⟩
    have HZ := hidd (HB0.out.trans (z.fresh.mono HB0.out.size))
    go_wp2
    go_ret
    exact ⟨rfl, HZ.out⟩
  · obtain rfl : r = false := by
      cases r with
      | false => rfl
      | true => exact absurd (HR.out.1 rfl) e
    have e2 : ¬ (c : Int) = (a : Int) := by omega
    have hq := eql1_ne e2
    clear HR
    go_enter Try.func43, Try.ntmps43
    go_wp2
    rw [← HW0.out]
    refine wp_region_later (by kernel_rfl) (by kernel_rfl) ?_
    repeat (go_big_quiet_step (fail))
    go_big_quiet_step (exact later_of (HW.out _))
    repeat (go_big_quiet_step (fail))
    refine wpQuiet_nil ?_
    rintro _ ⟨z, rfl⟩
    have HZ := hidd (HB0.out.trans (z.fresh.mono HB0.out.size))
    go_wp2
    go_ret
    exact ⟨by first | rfl | (refine ret_bool ?_; simpa using e), HZ.out⟩
theorem wy_depth {n : Nat} {P T D : Nat → Int} (h : okT n P T D) : ∀ i, i < n → ((wy P i).length : Int) = D i + 1 ∧ 0 ≤ D i ∧ D i ≤ (i : Int) := by
  intro i
  induction i using Nat.strongRecOn with
  | ind i ih =>
    intro hi
    by_cases h0 : i = 0
    · subst h0
      rw [wy_zero, h.2.2.2.1]
      simp
    · obtain ⟨hp, he⟩ := wy_step h (by omega) hi
      obtain ⟨a1, a2, a3⟩ := ih _ hp (by omega)
      have hd := (h.2.2.2.2 i (by omega) hi).2.2.2.1
      have hn := h.2.1
      have hw : IntKind.i64.wrap (D (P i).toNat + 1) = D (P i).toNat + 1 := by rw [IntKind.wrap_i64]; omega
      rw [hw] at hd
      rw [he, List.length_append, List.length_cons, List.length_nil, hd]
      omega
/-- going up a way -/
theorem wy_up {n : Nat} {P T D : Nat → Int} (h : okT n P T D) : ∀ i, i < n → (wy P i).getD 0 0 = 0 ∧ (wy P i).getD ((wy P i).length - 1) 0 = i ∧ 1 ≤ (wy P i).length ∧ (∀ k, k < (wy P i).length → (wy P i).getD k 0 < n) ∧ ∀ k, k + 1 < (wy P i).length → P ((wy P i).getD (k + 1) 0) = (((wy P i).getD k 0 : Nat) : Int) := by
  intro i
  induction i using Nat.strongRecOn with
  | ind i ih =>
    intro hi
    by_cases h0 : i = 0
    · subst h0
      rw [wy_zero]
      refine ⟨rfl, rfl, by simp, fun k hk => ?_, fun k hk => absurd hk (by simp)⟩
      obtain rfl : k = 0 := by simp at hk; exact hk
      exact hi
    · obtain ⟨hp, he⟩ := wy_step h (by omega) hi
      obtain ⟨a2, a3, a1, a4, a5⟩ := ih _ hp (by omega)
      obtain ⟨g1, _, _⟩ := h.2.2.2.2 i (by omega) hi
      rw [he]
      have el : ∀ k, k < (wy P (P i).toNat).length → (wy P (P i).toNat ++ [i]).getD k 0 = (wy P (P i).toNat).getD k 0 := fun k hk => by
        rw [List.getD_eq_getElem?_getD, List.getD_eq_getElem?_getD, List.getElem?_append_left hk]
      have en : (wy P (P i).toNat ++ [i]).getD (wy P (P i).toNat).length 0 = i := by simp
      have ll : (wy P (P i).toNat ++ [i]).length = (wy P (P i).toNat).length + 1 := by simp
      refine ⟨by rw [el 0 (by omega), a2], by rw [ll, Nat.add_sub_cancel, en], by omega, fun k hk => ?_, fun k hk => ?_⟩
      · by_cases q : k < (wy P (P i).toNat).length
        · rw [el k q]; exact a4 k q
        · obtain rfl : k = (wy P (P i).toNat).length := by omega
          rw [en]; exact hi
      · by_cases q : k + 1 < (wy P (P i).toNat).length
        · rw [el _ q, el _ (by omega)]; exact a5 k q
        · have q2 : k + 1 = (wy P (P i).toNat).length := by omega
          have q3 : k = (wy P (P i).toNat).length - 1 := by omega
          rw [q2, en, el k (by omega), q3, a3]
          omega
set_option maxRecDepth 20000 in
set_option maxHeartbeats 3200000 in
theorem pway_any {n : Nat} {P T D : Nat → Int} (hk : okT n P T D) {i : Nat} (hi : i < n) {w : World} {ao : Option Addr} {cap : Nat} (h : RdA w ao 3 n cap (nds P T D)) :
    Calls Try.prog 39 #[.slice ao n cap, .int .i64 (i : Int)] w fun e w' => ∃ b, e = .returned (.slice (some ⟨b, 0, none⟩) (wy P i).length (wy P i).length) ∧ w.heap.size ≤ b ∧ w'.rowIs b 3 (wy P i).length (qF (wy P i)) ∧ Below w.heap.size w w' := by
  obtain ⟨d1, d2, d3⟩ := wy_depth hk i hi
  obtain ⟨u1, u2, u3, u4, u5⟩ := wy_up hk i hi
  have hn := hk.2.1
  have hml := (wy_len hk i hi).1
  obtain ⟨m, HM⟩ : ∃ m, Hid (m = (wy P i).length) := ⟨_, rfl⟩
  have HP0 := hidd hk.2.2.1
  rw [← HM.out] at d1 u2 u3 u4 u5 hml ⊢
  obtain ⟨b1, o1, rfl, hc⟩ := h.node (by omega)
  have HC := hidd hc
  obtain ⟨_, _, cd⟩ := hc i hi
  obtain ⟨x, HXD⟩ : ∃ x, Hid (x = D i) := ⟨_, rfl⟩
  have HXM : Hid (x = (m : Int) - 1) := by show _ = _; rw [HXD.out]; omega
  rw [← HXD.out] at cd
  obtain ⟨iI, hiI, zI0, zI1, zI2⟩ := info_parts infoI
  have hmk : ∀ w, (Instr.makeSlice 47 (.int .i64 (m : Int)) (.int .i64 (m : Int))).run Try.prog w = .ok (.slice (some ⟨w.heap.size, 0, none⟩) m m) (w.alloc (.cells (madeCells #[.int .i64 0] m) 3)) := run_make_row 47 3 iI (.int .i64 0) Try.underlying47 hiI zI0 zI1 rfl .i64 .i64 m (by rw [zI2]; omega) (by omega)
  have R0 := hidd (World.rowIs_made w (.int .i64 0) m 3)
  have f0 := hidd (fresh_alloc w (.cells (madeCells #[.int .i64 0] m) 3))
  have gi : (i : Int) < (n : Int) := by omega
  have e1 : IntKind.i64.wrap (x + 1) = (m : Int) := by have := HXM.out; rw [IntKind.wrap_i64]; omega
  have ct := fresh_cell f0.out cd
  have HU2 := hidd u2
  have HU4 := hidd u4
  have HU5 := hidd u5
  have HU1 := hidd u1
  clear hiI zI0 zI1 zI2 hc h d1 d2 d3 u1 u2 u4 u5 hk
  go_enter Try.func39, Try.ntmps39
  go_wp2
  clear hmk ct cd e1
  go_loopw [1, 6] (fun vp vd wr => ∃ (d : Nat), d ≤ m ∧ vd = .int .i64 ((d : Int) - 1) ∧ (0 < d → vp = .int .i64 (((wy P i).getD (d - 1) 0 : Nat) : Int)) ∧ (d = 0 → ∃ z : Int, vp = .int .i64 z) ∧ Hid (wr.rowIs w.heap.size 3 m (fun j => if d ≤ j then qF (wy P i) j else .int .i64 0)) ∧ Hid (Below w.heap.size w wr)) (fun _ vd _ => ((intOf vd) + 1).toNat)
  case atStart => exact ⟨m, Nat.le_refl _, by rw [HXM.out], fun _ => by rw [HU2.out], fun q => absurd q (by omega), R0.out.congr (fun j hj => by rw [if_neg (by omega)]), f0⟩
  case round =>
    obtain ⟨d, hd, rfl, hv, hv0, HR, HF⟩ := hrel
    rcases d with _ | d
    · obtain ⟨z, rfl⟩ := hv0 rfl
      have HRR : Hid (wr.rowIs w.heap.size 3 m (qF (wy P i))) := HR.out.congr (fun j _ => by rw [if_pos (Nat.zero_le _)])
      have g0 : decide ((0 : Int) ≤ ((0 : Nat) : Int) - 1) = false := decide_eq_false (by omega)
      have g1 : decide ((0 : Int) ≤ (0 : Int) - 1) = false := decide_eq_false (by omega)
      clear hv hv0
      go_wp2
      go_ret
      exact ⟨_, rfl, Nat.le_refl _, HRR.out, HF.out⟩
    · obtain rfl := hv (by omega)
      clear hv hv0
      rw [Nat.add_sub_cancel]
      obtain ⟨q, HQ⟩ : ∃ q, Hid (q = (wy P i).getD d 0) := ⟨_, rfl⟩
      rw [← HQ.out]
      have hq : q < n := by rw [HQ.out]; exact HU4.out d (by omega)
      have e0 : ((d + 1 : Nat) : Int) - 1 = (d : Int) := by omega
      rw [e0]
      obtain ⟨cp, _, _⟩ := HC.out q hq
      have cp1 := fresh_cell HF.out cp
      obtain ⟨p, HP⟩ : ∃ p, Hid (p = P q) := ⟨_, rfl⟩
      rw [← HP.out] at cp1
      have c1 := HR.out.cell (i := d) (by omega)
      have fz := HR.out.frozen
      have k0 : (0 : Int) ≤ (d : Int) := by omega
      have k1 : (d : Int) < (m : Int) := by omega
      have k2 : (q : Int) < (n : Int) := by omega
      have hbb : b1 ≠ w.heap.size := by have := lt_of_cell cp; omega
      have cp2 : (wr.setCell ⟨w.heap.size, d, none⟩ (.int .i64 (q : Int))).cell? ⟨b1, o1 + q * 3, none⟩ = some (.int .i64 p) := by
        rw [World.cell?_setCell_other _ _ _ _ (by simp)]; exact cp1
      have HS := hidd (HR.out.set d (.int .i64 (q : Int)))
      have HF2 := hidd (HF.out.setCell (p := ⟨w.heap.size, d, none⟩) (Nat.le_refl _) (.int .i64 (q : Int)))
      have e5 : IntKind.i64.wrap ((d : Int) - 1) = (d : Int) - 1 := by rw [IntKind.wrap_i64]; omega
      clear cp
      go_wp2
      go_roundw
      case rel =>
        refine ⟨d, by omega, by first | rfl | rw [e5], fun h0 => ?_, fun _ => ⟨_, rfl⟩, HS.out.congr (fun j _ => ?_), HF2⟩
        · obtain ⟨c, rfl⟩ : ∃ c, d = c + 1 := ⟨d - 1, by omega⟩
          rw [HP.out, HQ.out, HU5.out c (by omega)]
          rfl
        · by_cases e : j = d
          · subst e
            rw [if_pos rfl, if_pos (Nat.le_refl _), HQ.out]
            rfl
          · rw [if_neg e]
            by_cases e2 : d + 1 ≤ j
            · rw [if_pos e2, if_pos (by omega)]
            · rw [if_neg e2, if_neg (by omega)]
      case measure => simp [intOf]
end Go.Proofs.Ytakekdbclmgeoaa
