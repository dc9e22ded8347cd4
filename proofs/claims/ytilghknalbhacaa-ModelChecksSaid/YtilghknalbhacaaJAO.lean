import Derived.Test.YtilghknalbhacaaJAD
import Derived.Test.YtilghknalbhacaaJAL
namespace Go.Proofs.Ytilghknalbhacaa
open Go.RowKit
/-! Turns as bytes. -/
set_option maxRecDepth 20000 in
set_option maxHeartbeats 4000000 in
theorem turnB_any {w : World} {ao : Option Addr} {n cap : Nat} {C S : Nat → Int} (hr : RdA w ao 2 n cap (tcs C S)) (hn : n ≤ 1048576) :
    Calls Try.prog 32 #[.slice ao n cap] w fun e w' => ∃ v', e = .returned v' ∧ OwB w' w.heap.size v' (trL C S n) ∧ Below w.heap.size w w' := by
  have HR := hidd hr
  have hrl := hr.le
  have hrt := hr.top
  unfold maxLen at hrt
  clear hr
  have f0 := fresh_alloc w (.cells #[] 5)
  have HO0 : Hid (OwB (w.alloc (.cells #[] 5)) w.heap.size (.slice (some ⟨w.heap.size, 0, none⟩) 0 0) (trL C S 0)) := own_newL w [] w.heap.size (Nat.le_refl _) (by decide)
  have HF0 := hidd f0
  clear f0
  go_enter Try.func32, Try.ntmps32
  go_wp2
  go_loopw [3, 5, 9] (fun v1 _ i wr => ∃ k : Nat, k ≤ n ∧ i = .int .i64 (k : Int) ∧ Hid (OwB wr w.heap.size v1 (trL C S k)) ∧ Hid (Below w.heap.size w wr)) (fun v1 _ i _ => n - (intOf i).toNat)
  case atStart => exact ⟨0, Nat.zero_le _, by simp, HO0.out, HF0.out⟩
  case round =>
    clear HO0 HF0
    obtain ⟨k, hk, rfl, HO, HB⟩ := hrel
    obtain ⟨p, uc, ev, _⟩ := HO.out.rd
    by_cases hlt : k < n
    · have i0 : (0 : Int) ≤ (k : Int) := by omega
      have i1 : (k : Int) < (n : Int) := by omega
      obtain ⟨b1, o1, rfl, hc⟩ := (HR.out.fresh HB.out).two (by omega)
      obtain ⟨d0, d1⟩ := hc k hlt
      have hw0 := u64of_wrap (C k)
      have hw1 := u64of_wrap (S k)
      have hl4 : (trL C S k).length ≤ 4194304 := by rw [trL_len]; omega
      have fa := fresh_alloc wr (.cells #[.int .i64 (C k), .int .i64 (S k)] 97)
      have HO1 := hidd (Own.kept HO.out fa)
      have HB1 := hidd (fresh_trans HB.out fa)
      have g1 := HB1.out.size
      have HL1 := hidd (little_any (w := wr.alloc (.cells #[.int .i64 (C k), .int .i64 (S k)] 97)) HO1.out g1 (by omega) (u64of_lt (C k)) (k := 2) (by decide))
      have HRW : Hid ((wr.alloc (.cells #[.int .i64 (C k), .int .i64 (S k)] 97)).cell? ⟨wr.heap.size, 1, none⟩ = some (.int .i64 (S k)) ∧ wr.heap.size < (wr.alloc (.cells #[.int .i64 (C k), .int .i64 (S k)] 97)).heap.size) := by constructor <;> simp
      clear fa hc
      subst ev
      go_wp2_with fail
      refine HL1.out.mono ?_
      rintro e w2 ⟨v2, rfl, ho2, ha2⟩
      have HO2 := hidd ho2
      have HB2 := hidd (ha2.below HB1.out HO1.out (Nat.le_refl _) g1)
      have g2 := HB2.out.size
      have HL2 := hidd (little_any (w := w2) HO2.out g2 (by rw [List.length_append, num_len]; omega) (u64of_lt (S k)) (k := 2) (by decide))
      have d2 : w2.cell? ⟨wr.heap.size, 1, none⟩ = some (.int .i64 (S k)) := by
        have hb9 := ha2.grown.block wr.heap.size HRW.out.2 (fun q => by have := (HO.out.lt wr.heap.size q.symm).2; omega)
        exact (World.cell?_of_block (w := wr.alloc (.cells #[.int .i64 (C k), .int .i64 (S k)] 97)) (a := ⟨wr.heap.size, 1, none⟩) hb9).trans HRW.out.1
      clear ho2 ha2 HL1 HO1 HB1 d0 d1 hw0
      go_wp2_with fail
      refine HL2.out.mono ?_
      rintro e w3 ⟨v3, rfl, ho3, ha3⟩
      have ho9 : OwB w3 w.heap.size v3 (trL C S (k + 1)) := by rw [trL_succ]; exact ho3
      have HO3 := hidd ho9
      have HB3 := hidd (ha3.below HB2.out HO2.out (Nat.le_refl _) g2)
      clear ho3 ho9 ha3 HL2 HO2 HB2 d2 hw1
      go_wp2
      go_roundw
      case rel => exact ⟨k + 1, by omega, by go_num, HO3.out, HB3.out⟩
      case measure => simp [intOf]; omega
    · obtain rfl : k = n := by omega
      have hnl : ¬ ((k : Int) < (k : Int)) := by omega
      subst ev
      go_wp2
      go_ret
      exact ⟨_, rfl, HO.out, HB.out⟩
end Go.Proofs.Ytilghknalbhacaa
namespace Go.Proofs.Ytilghknalbhacaa
open Go.RowKit
/-! turnsOf. -/
theorem infoT9 : (Try.prog.info? 97).map (fun i => (i.zero, i.size, i.bytes)) = some (some (.agg #[.int .i64 0, .int .i64 0]), 2, 16) := by kernel_rfl
theorem made2 (w : World) (n : Nat) (t : TypeId) : (w.alloc (.cells (madeCells #[.int .i64 0, .int .i64 0] (n * 2)) t)).rowIs w.heap.size t (n * 2) (fun _ => .int .i64 0) :=
  ⟨_, Go.Deep.blk_alloc_new _ _, size_madeCells _ _, fun i hi => by
    have : i % 2 = 0 ∨ i % 2 = 1 := by omega
    rcases this with e | e <;> simp [madeCells, hi, e]⟩
theorem run_make_turns (n : Nat) (hn : n ≤ 1048576) (w : World) : (Instr.makeSlice 30 (.int .i64 (n : Int)) (.int .i64 (n : Int))).run Try.prog w = .ok (.slice (some ⟨w.heap.size, 0, none⟩) n n) (w.alloc (.cells (madeCells #[.int .i64 0, .int .i64 0] (n * 2)) 97)) := by
  obtain ⟨i, hi, z0, z1, z2⟩ := info_parts infoT9
  have hr := run_make (P := Try.prog) w 30 97 i _ Try.underlying30 hi z0 .i64 .i64 n n (by omega) (Int.le_refl _) (by rw [z2]; omega) (by omega)
  simp only [Int.toNat_natCast, z1] at hr
  exact hr
def tvC (M : List Int) (i : Nat) : Int := i16v (M.getD (4 * i) 0 + 256 * M.getD (4 * i + 1) 0)
def tvS (M : List Int) (i : Nat) : Int := i16v (M.getD (4 * i + 2) 0 + 256 * M.getD (4 * i + 3) 0)
theorem num16 {a b : Int} (ha : 0 ≤ a ∧ a < 256) (hb : 0 ≤ b ∧ b < 256) : num (u64of (i16v (a + 256 * b))) 2 = [a, b] := by
  have hu : u64of (i16v (a + 256 * b)) % 65536 = (a + 256 * b).toNat := by
    unfold u64of i16v
    split <;> omega
  obtain ⟨u, hu9⟩ : ∃ u, u = u64of (i16v (a + 256 * b)) := ⟨_, rfl⟩
  rw [← hu9] at hu ⊢
  have e0 : ((u / 256 ^ 0 % 256 : Nat) : Int) = a := by simp; omega
  have e1 : ((u / 256 ^ 1 % 256 : Nat) : Int) = b := by simp; omega
  have : num u 2 = [((u / 256 ^ 0 % 256 : Nat) : Int), ((u / 256 ^ 1 % 256 : Nat) : Int)] := rfl
  rw [this, e0, e1]
theorem take4 {M : List Int} {i : Nat} (h : 4 * i + 4 ≤ M.length) : M.take (4 * i + 4) = M.take (4 * i) ++ [M.getD (4 * i) 0, M.getD (4 * i + 1) 0] ++ [M.getD (4 * i + 2) 0, M.getD (4 * i + 3) 0] := by
  have e : ∀ k, k < M.length → M.take (k + 1) = M.take k ++ [M.getD k 0] := fun k hk => by
    rw [List.take_add_one, List.getElem?_eq_getElem hk, List.getD_eq_getElem?_getD, List.getElem?_eq_getElem hk]
    rfl
  rw [show 4 * i + 4 = 4 * i + 3 + 1 by omega, e _ (by omega), show 4 * i + 3 = 4 * i + 2 + 1 by omega, e _ (by omega), show 4 * i + 2 = 4 * i + 1 + 1 by omega, e _ (by omega), e _ (by omega)]
  simp
theorem trL_tv {M : List Int} (hM : Byt M) : ∀ i, 4 * i ≤ M.length → trL (tvC M) (tvS M) i = M.take (4 * i)
  | 0, _ => by simp [trL]
  | i + 1, h => by
    rw [trL_succ, trL_tv hM i (by omega), show 4 * (i + 1) = 4 * i + 4 by omega, take4 (by omega)]
    unfold tvC tvS
    rw [num16 (hM.at_ _) (hM.at_ _), num16 (hM.at_ _) (hM.at_ _)]
theorem i16v_bd {x : Int} (h : 0 ≤ x ∧ x < 65536) : -32768 ≤ i16v x ∧ i16v x ≤ 32767 := by
  unfold i16v
  split <;> omega
theorem n16_b (w : World) {a b : Int} (ha : 0 ≤ a ∧ a < 256) (hb : 0 ≤ b ∧ b < 256) : Calls Try.prog 93 #[.int .u8 a, .int .u8 b] w fun e w' => e = .returned (.int .i64 (i16v (a + 256 * b))) ∧ Below w.heap.size w w' := (n16_any w ha hb).mono (fun e w' h => ⟨h.1, by rw [h.2]; exact Below.refl _ _⟩)
set_option maxRecDepth 20000 in
set_option maxHeartbeats 4000000 in
theorem turnsof_any {w : World} {ao : Option Addr} {n k m : Nat} {M : List Int} (h : RdA w ao 1 n k (bV M)) (hM : Byt M) (hn : n = 4 * m) (h0 : 0 < m) (hm : m ≤ 262144) :
    Calls Try.prog 68 #[.slice ao n k] w fun e w' => e = .returned (.slice (some ⟨w.heap.size, 0, none⟩) m m) ∧ w'.rowIs w.heap.size 97 (m * 2) (tcs (tvC M) (tvS M)) ∧ Below w.heap.size w w' := by
  obtain ⟨b, o, rfl, hc⟩ := h.one (by omega)
  have n1 := h.le
  have n2 := h.top
  unfold maxLen at n2
  have hbl : b < w.heap.size := lt_of_cell (hc 0 (by omega))
  have hmk := run_make_turns m (by omega)
  have R0 := hidd (made2 w m 97)
  have f0 := fresh_alloc w (.cells (madeCells #[.int .i64 0, .int .i64 0] (m * 2)) 97)
  have hq : IntKind.i64.wrap ((n : Int) / 4) = (m : Int) := by rw [show (n : Int) / 4 = (m : Int) by omega]; exact wrap_small _ (by omega) (by omega)
  have hq2 : (n : Int) / 4 = (m : Int) := by omega
  have HC := hidd hc
  have HMB := hidd hM
  clear h hc
  go_enter Try.func68, Try.ntmps68
  go_upto_region 2 with fail
  generalize hz : (w.alloc (.cells (madeCells #[.int .i64 0, .int .i64 0] (m * 2)) 97)) = z at *
  have hzs : z.heap.size = w.heap.size + 1 := by rw [← hz]; simp
  clear hmk hz hq hq2
  go_wp2
  go_loopw [12] (fun v wr => ∃ i : Nat, i ≤ m ∧ v = .int .i64 i ∧ Hid (wr.rowIs w.heap.size 97 (m * 2) (fun j => if j < i * 2 then tcs (tvC M) (tvS M) j else .int .i64 0)) ∧ Hid (Below w.heap.size w wr)) (fun v _ => m - (intOf v).toNat)
  case atStart => exact ⟨0, by omega, rfl, R0.out.congr (fun j _ => by rw [if_neg (by omega)]), f0⟩
  case round =>
    clear R0 f0
    obtain ⟨i, hi, rfl, HR, HB⟩ := hrel
    by_cases hlt : i < m
    · have i1 : (i : Int) < (m : Int) := by omega
      have hcw : ∀ j, j < n → wr.cell? ⟨b, o + j, none⟩ = some (.int .u8 (M.getD j 0)) := fun j hj => fresh_cell HB.out (HC.out j hj)
      have hw4 : IntKind.i64.wrap ((i : Int) * 4) = ((i * 4 : Nat) : Int) := by rw [show (i : Int) * 4 = ((i * 4 : Nat) : Int) by omega]; exact wrap_small _ (by omega) (by omega)
      obtain ⟨q, hqq⟩ : ∃ q, q = i * 4 := ⟨_, rfl⟩
      rw [← hqq] at hw4
      have j0 : (0 : Int) ≤ (q : Int) := by omega
      have j1 : (q : Int) ≤ (n : Int) := by omega
      have j2 : ¬ (q : Int) = (k : Int) := by omega
      have j3 : ¬ q = k := by omega
      have k0 : (0 : Int) < ((n - q : Nat) : Int) := by omega
      have k1 : (1 : Int) < ((n - q : Nat) : Int) := by omega
      have k2 : (2 : Int) < ((n - q : Nat) : Int) := by omega
      have k3 : (3 : Int) < ((n - q : Nat) : Int) := by omega
      have HQQ := hidd hqq
      clear hqq
      go_upto_region 6 with fail
      obtain ⟨x0, h0⟩ : ∃ x, x = M.getD (4 * i) 0 := ⟨_, rfl⟩
      obtain ⟨x1, h1⟩ : ∃ x, x = M.getD (4 * i + 1) 0 := ⟨_, rfl⟩
      obtain ⟨x2, h2⟩ : ∃ x, x = M.getD (4 * i + 2) 0 := ⟨_, rfl⟩
      obtain ⟨x3, h3⟩ : ∃ x, x = M.getD (4 * i + 3) 0 := ⟨_, rfl⟩
      have b0 := HMB.out.at_ (4 * i)
      have b1 := HMB.out.at_ (4 * i + 1)
      have b2 := HMB.out.at_ (4 * i + 2)
      have b3 := HMB.out.at_ (4 * i + 3)
      have a0 : wr.cell? ⟨b, o + q, none⟩ = some (.int .u8 x0) := by rw [h0, HQQ.out, Nat.mul_comm 4 i]; exact hcw (i * 4) (by omega)
      have a1 : wr.cell? ⟨b, o + q + 1, none⟩ = some (.int .u8 x1) := by rw [h1, HQQ.out, Nat.mul_comm 4 i, Nat.add_assoc]; exact hcw (i * 4 + 1) (by omega)
      have a2 : wr.cell? ⟨b, o + q + 2, none⟩ = some (.int .u8 x2) := by rw [h2, HQQ.out, Nat.mul_comm 4 i, Nat.add_assoc]; exact hcw (i * 4 + 2) (by omega)
      have a3 : wr.cell? ⟨b, o + q + 3, none⟩ = some (.int .u8 x3) := by rw [h3, HQQ.out, Nat.mul_comm 4 i, Nat.add_assoc]; exact hcw (i * 4 + 3) (by omega)
      have HTC : Hid (i16v (x0 + 256 * x1) = tvC M i) := by rw [h0, h1]; rfl
      have HTS : Hid (i16v (x2 + 256 * x3) = tvS M i) := by rw [h2, h3]; rfl
      rw [← h0] at b0
      rw [← h1] at b1
      rw [← h2] at b2
      rw [← h3] at b3
      have HN1 : Hid (∀ z : World, Calls Try.prog 93 #[.int .u8 x0, .int .u8 x1] z fun e w' => e = .returned (.int .i64 (i16v (x0 + 256 * x1))) ∧ Below z.heap.size z w') := fun z => n16_b z b0 b1
      have HN2 : Hid (∀ z : World, Calls Try.prog 93 #[.int .u8 x2, .int .u8 x3] z fun e w' => e = .returned (.int .i64 (i16v (x2 + 256 * x3))) ∧ Below z.heap.size z w') := fun z => n16_b z b2 b3
      obtain ⟨y0, E0⟩ : ∃ y, Hid (y = i16v (x0 + 256 * x1)) := ⟨_, rfl⟩
      obtain ⟨y1, E1⟩ : ∃ y, Hid (y = i16v (x2 + 256 * x3)) := ⟨_, rfl⟩
      rw [← E0.out] at HN1 HTC
      rw [← E1.out] at HN2 HTS
      clear h0 h1 h2 h3 hcw b0 b1 b2 b3 E0 E1
      have l0 := later_cell a0
      have l1 := later_cell a1
      have l2 := later_cell a2
      have l3 := later_cell a3
      have ne := later_some wr
      refine wp_region_lastL (C := fun w' => ∃ x : Later wr, w' = x.val) (by simp) (by kernel_rfl) (by kernel_rfl) (by kernel_rfl) ⟨⟨wr.drew, (Below.refl _ _).drew⟩, rfl⟩ ?_
      simp only [List.dropLast_cons_cons, List.dropLast_singleton, List.getLast_cons_cons, List.getLast_singleton]
      repeat (go_big_quiet_step (fail))
      go_big_quiet_step (exact later_of (HN1.out _))
      repeat (go_big_quiet_step (fail))
      go_big_quiet_step (exact later_of (HN2.out _))
      repeat (go_big_quiet_step (fail))
      refine wpQuiet_nil ?_
      rintro _ ⟨y, rfl⟩
      have HR1 := hidd (HR.out.of_block (y.fresh.block _ HR.out.lt))
      have HB1 := hidd (fresh_trans HB.out y.fresh)
      clear l0 l1 l2 l3 a0 a1 a2 a3 ne HR HB HN1 HN2
      generalize y.val = z1 at *
      have c0 : z1.cell? ⟨w.heap.size, i * 2, none⟩ = some (.int .i64 0) := by rw [HR1.out.cell (i := i * 2) (by omega), if_neg (by omega)]
      have c1 : z1.cell? ⟨w.heap.size, i * 2 + 1, none⟩ = some (.int .i64 0) := by rw [HR1.out.cell (i := i * 2 + 1) (by omega), if_neg (by omega)]
      have fz := HR1.out.frozen
      have HR2 : Hid (((z1.setCell ⟨w.heap.size, i * 2, none⟩ (.int .i64 y0)).setCell ⟨w.heap.size, i * 2 + 1, none⟩ (.int .i64 y1)).rowIs w.heap.size 97 (m * 2) (fun j => if j < (i + 1) * 2 then tcs (tvC M) (tvS M) j else .int .i64 0)) := by
        refine ((HR1.out.set (i * 2) _).set (i * 2 + 1) _).congr (fun j hj => ?_)
        unfold tcs
        by_cases e1 : j = i * 2 + 1
        · subst e1
          rw [if_pos rfl, if_pos (show i * 2 + 1 < (i + 1) * 2 by omega), if_neg (show ¬ (i * 2 + 1) % 2 = 0 by omega), HTS.out, show (i * 2 + 1) / 2 = i by omega]
        · rw [if_neg e1]
          by_cases e0 : j = i * 2
          · subst e0
            rw [if_pos rfl, if_pos (show i * 2 < (i + 1) * 2 by omega), if_pos (show i * 2 % 2 = 0 by omega), HTC.out, show i * 2 / 2 = i by omega]
          · rw [if_neg e0]
            by_cases e2 : j < i * 2
            · rw [if_pos e2, if_pos (show j < (i + 1) * 2 by omega)]
            · rw [if_neg e2, if_neg (show ¬ j < (i + 1) * 2 by omega)]
      have HB2 : Hid (Below w.heap.size w ((z1.setCell ⟨w.heap.size, i * 2, none⟩ (.int .i64 y0)).setCell ⟨w.heap.size, i * 2 + 1, none⟩ (.int .i64 y1))) := (HB1.out.setCell (Nat.le_refl _) _).setCell (Nat.le_refl _) _
      clear HR1 HB1
      go_wp2
      go_roundw
      case rel => exact ⟨i + 1, by omega, by go_num, HR2, HB2⟩
      case measure => simp [intOf]; omega
    · have i1 : ¬ (i : Int) < (m : Int) := by omega
      have HRn := hidd (HR.out.congr (g := tcs (tvC M) (tvS M)) (fun j hj => by rw [if_pos (by omega)]))
      go_wp2
      go_ret
      exact ⟨rfl, HRn.out, HB.out⟩
end Go.Proofs.Ytilghknalbhacaa
