import Derived.Test.YtakekdbclmgeoaaTrH
import Derived.ChangeKeysEq
import Derived.Laws.StructEq
namespace Go.Proofs.Ytakekdbclmgeoaa
open Go.RowKit
/-! Above; eqBits. -/
theorem infoBt : (Try.prog.info? 52).map (fun i => (i.zero, i.size, i.bytes)) = some (some (.agg #[.int .u64 0]), 1, 8) := by kernel_rfl
theorem run_make_bits (n : Nat) (hn : n ≤ 32) (w : World) : (Instr.makeSlice 38 (.int .i64 (n : Int)) (.int .i64 (n : Int))).run Try.prog w = .ok (.slice (some ⟨w.heap.size, 0, none⟩) n n) (w.alloc (.cells (madeCells #[.int .u64 0] n) 52)) := by
  obtain ⟨i, hi, z0, z1, z2⟩ := info_parts infoBt
  have hr := run_make (P := Try.prog) w 38 52 i _ Try.underlying38 hi z0 .i64 .i64 n n (by omega) (Int.le_refl _) (by rw [z2]; omega) (by omega)
  simp only [Int.toNat_natCast, z1, Nat.mul_one] at hr
  exact hr
theorem infoU : (Try.prog.info? 50).map (fun i => (i.zero, i.size, i.bytes)) = some (some (.int .u64 0), 1, 8) := by kernel_rfl
theorem cellsU : Try.prog.cellsOf 50 = 1 := by kernel_rfl
theorem part1 (a : Int) (w : World) : (part 50 #[.int .u64 a] 0).run Try.prog w = .ok (.int .u64 a) w := by kernel_rfl
theorem eql1 (a : Int) (w : World) : (Op.equalIn 10000 52 (.agg #[.int .u64 a]) (.agg #[.int .u64 a])).run Try.prog w = .ok true w := by
  obtain ⟨inf, hinf, _⟩ := info_parts infoU
  have h1 := run_equalIn_array w 9999 #[.int .u64 a] #[.int .u64 a] Try.underlying52 hinf
  have h3 := run_equalIn_int w 9998 50 .u64 .u64 a a Try.underlying50
  have h2 : (Op.eqItems 9999 50 1 #[.int .u64 a] #[.int .u64 a] (List.range 1)).run Try.prog w = .ok true w := by
    show (Op.eqItems 9999 50 1 #[.int .u64 a] #[.int .u64 a] [0]).run Try.prog w = .ok true w
    simp only [Op.eqItems, Sem.run_bind, Nat.zero_mul, part1, h3, Result.andThen_ok]
    simp
  rw [cellsU, h2] at h1
  exact h1
def bF (P : Nat → Int) : Nat → Value := fun j => .int .u64 ((abv P j : Nat) : Int)
set_option maxRecDepth 20000 in
set_option maxHeartbeats 1600000 in
theorem eqBits_same {w : World} {ao bo : Option Addr} {n ca cb : Nat} {P : Nat → Int} (ha : RdA w ao 1 n ca (bF P)) (hb : RdA w bo 1 n cb (bF P)) :
    Calls Try.prog 23 #[.slice ao n ca, .slice bo n cb] w fun e w' => e = .returned (.bool true) ∧ Below w.heap.size w w' := by
  have hn : n ≤ 9223372036854775807 := by have := ha.le; have := ha.top; unfold maxLen at this; omega
  go_enter Try.func23, Try.ntmps23
  go_wp2
  go_loopw [5] (fun i wr => ∃ k : Nat, k ≤ n ∧ i = .int .i64 k ∧ Below w.heap.size w wr) (fun i _ => n - (intOf i).toNat)
  case atStart => exact ⟨0, by omega, rfl, Below.refl _ _⟩
  case round =>
    obtain ⟨k, hk, rfl, hf⟩ := hrel
    by_cases hlt : k < n
    · obtain ⟨b1, o1, rfl, h1⟩ := (ha.fresh hf).one (by omega)
      obtain ⟨b2, o2, rfl, h2⟩ := (hb.fresh hf).one (by omega)
      have c1 : wr.cell? ⟨b1, o1 + k, none⟩ = some (.int .u64 ((abv P k : Nat) : Int)) := h1 k hlt
      have c2 : wr.cell? ⟨b2, o2 + k, none⟩ = some (.int .u64 ((abv P k : Nat) : Int)) := h2 k hlt
      clear h1 h2
      generalize ((abv P k : Nat) : Int) = y at c1 c2
      have hq := eql1 y
      go_wp2
      go_quiet (fail)
      go_wp2
      go_roundw
      case rel => exact ⟨k + 1, by omega, by go_num, below_drewN hf _⟩
      case measure => simp [intOf]; omega
    · obtain rfl : n = k := by omega
      go_wp2
      go_ret
      exact ⟨rfl, hf⟩
set_option maxRecDepth 20000 in
set_option maxHeartbeats 1600000 in
theorem above_bad {w : World} {ao : Option Addr} {n cap : Nat} {P T D : Nat → Int} (h : RdA w ao 3 n cap (nds P T D)) (hk : ¬ okT n P T D) :
    Calls Try.prog 21 #[.slice ao n cap] w fun e w' => e = .returned (.tuple #[.slice none 0 0, .int .i64 140]) ∧ Below w.heap.size w w' := by
  have HCK := hidd (check_any h)
  rw [erT_bad hk] at HCK
  clear h
  go_enter Try.func21, Try.ntmps21
  go_wp2_with (go_at_call 15; with_reducible refine HCK.out.mono ?_; rintro e w2 ⟨rfl, hb2⟩; have HB := hidd hb2; clear hb2)
  go_ret2
  exact ⟨rfl, HB.out⟩
theorem with_zero (w : World) : Calls Try.prog 32 #[.agg #[.int .u64 0], .int .i64 0] w fun e w' => e = .returned (.agg #[.int .u64 1]) ∧ Below w.heap.size w w' := by
  have := with_any (w := w) 0 0 (by omega) (by omega)
  simpa using this
set_option maxRecDepth 20000 in
set_option maxHeartbeats 1600000 in
theorem above_ok {w : World} {ao : Option Addr} {n cap : Nat} {P T D : Nat → Int} (h : RdA w ao 3 n cap (nds P T D)) (hk : okT n P T D) :
    Calls Try.prog 21 #[.slice ao n cap] w fun e w' => ∃ u c, e = .returned (.tuple #[.slice u n c, .int .i64 0]) ∧ RdA w' u 1 n c (bF P) ∧ Below w.heap.size w w' := by
  have HCK := hidd (check_any h)
  rw [erT_ok hk] at HCK
  have h1 := hk.1
  have h2 := hk.2.1
  have hmk := run_make_bits n h2
  have HK := hidd hk
  have HH := hidd h
  have HWZ := hidd with_zero
  clear h hk
  go_enter Try.func21, Try.ntmps21
  go_wp2_with (go_at_call 15; with_reducible refine HCK.out.mono ?_; rintro e w1 ⟨rfl, hb1⟩; have HB1 := hidd hb1; clear hb1 HCK)
  have g0 : (0 : Int) < (n : Int) := by omega
  have g0' : 0 < n := by omega
  have HST : Hid (∀ w2, Below (w1.alloc (.cells (madeCells #[.int .u64 0] n) 52)).heap.size (w1.alloc (.cells (madeCells #[.int .u64 0] n) 52)) w2 → w2.rowIs w1.heap.size 52 n (fun _ => .int .u64 0) ∧ w2.cell? ⟨w1.heap.size, 0, none⟩ = some (.int .u64 0) ∧ w2.frozen? ⟨w1.heap.size, 0, none⟩ = false ∧ Hid (Below w1.heap.size w1 w2)) := fun w2 hf => by
    have hr := World.rowIs_made w1 (.int .u64 0) n 52
    have hr2 := hr.of_block (hf.block _ hr.lt)
    exact ⟨hr2, hr2.cell (i := 0) g0', hr2.frozen 0, (fresh_alloc w1 _).trans (hf.mono (by simp))⟩
  go_wp2_with (go_at_call 32; with_reducible refine (HWZ.out _).mono ?_; rintro e w2 ⟨rfl, hb2⟩; obtain ⟨hrow, cz, fz, HB2⟩ := HST.out w2 hb2; clear hb2)
  obtain ⟨bs, HBS⟩ : ∃ bs, Hid (bs = w1.heap.size) := ⟨_, rfl⟩
  rw [← HBS.out] at hrow cz fz ⊢
  have HR0 : Hid (∃ F, (w2.setCell ⟨bs, 0, none⟩ (.int .u64 1)).rowIs bs 52 n F ∧ ∀ j, j < 1 → F j = .int .u64 ((abv P j : Nat) : Int)) := ⟨_, hrow.set 0 _, fun j hj => by
    obtain rfl : j = 0 := by omega
    rw [abv]
    rfl⟩
  have HB3 : Hid (Below w1.heap.size w1 (w2.setCell ⟨bs, 0, none⟩ (.int .u64 1))) := HB2.out.setCell (by show _ ≤ bs; have := HBS.out; omega) _
  clear hrow cz fz HST HB2 hmk
  go_wp2
  go_loopw [6] (fun vi wr => ∃ i : Nat, 1 ≤ i ∧ i ≤ n ∧ vi = .int .i64 i ∧ Hid (∃ F, wr.rowIs bs 52 n F ∧ ∀ j, j < i → F j = .int .u64 ((abv P j : Nat) : Int)) ∧ Hid (Below w1.heap.size w1 wr)) (fun vi _ => n - (intOf vi).toNat)
  case atStart => exact ⟨1, by omega, by omega, rfl, HR0, HB3⟩
  case round =>
    obtain ⟨i, hi1, hi2, rfl, HR, HB⟩ := hrel
    have HBW := hidd (HB1.out.trans (HB.out.mono HB1.out.size))
    obtain ⟨F, hrow, hF⟩ := HR.out
    by_cases hlt : i < n
    · have d1 : decide ((i : Int) < (n : Int)) = true := decide_eq_true (by omega)
      have g1 : (i : Int) < (n : Int) := by omega
      obtain ⟨b1, o1, hu, hc1⟩ := (HH.out.fresh HBW.out).node (by omega)
      subst hu
      obtain ⟨c1, _, _⟩ := hc1 i hlt
      obtain ⟨q1, q2, _⟩ := HK.out.2.2.2.2 i hi1 hlt
      obtain ⟨q, hq⟩ : ∃ q : Nat, P i = (q : Int) := ⟨(P i).toNat, by omega⟩
      have HOR := abv_or HK.out hi1 hlt
      rw [hq, Int.toNat_natCast] at HOR
      rw [hq] at c1 q1 q2
      have c2 : wr.cell? ⟨bs, q, none⟩ = some (.int .u64 ((abv P q : Nat) : Int)) := by rw [hrow.cell (i := q) (by omega), hF q (by omega)]
      have g2 : (q : Int) < (n : Int) := by omega
      have HWT := hidd (with_any (w := wr) (abv P q) i (by omega) (abv_32 HK.out (by omega)))
      rw [HOR] at HWT
      have HST : Hid (∀ w2, Below wr.heap.size wr w2 → w2.cell? ⟨bs, i, none⟩ = some (F i) ∧ w2.frozen? ⟨bs, i, none⟩ = false ∧ Hid (∃ F', (w2.setCell ⟨bs, i, none⟩ (.int .u64 ((abv P i : Nat) : Int))).rowIs bs 52 n F' ∧ ∀ j, j < i + 1 → F' j = .int .u64 ((abv P j : Nat) : Int)) ∧ Hid (Below w1.heap.size w1 (w2.setCell ⟨bs, i, none⟩ (.int .u64 ((abv P i : Nat) : Int))))) := fun w2 hf => by
        have hr2 := hrow.of_block (hf.block _ hrow.lt)
        refine ⟨hr2.cell hlt, hr2.frozen i, ⟨_, hr2.set i _, fun j hj => ?_⟩, (HB.out.trans (hf.mono HB.out.size)).setCell (by show _ ≤ bs; have := HBS.out; omega) _⟩
        by_cases e : j = i
        · rw [e]; simp
        · simp only [e, if_false]
          exact hF j (by omega)
      obtain ⟨y, HY⟩ : ∃ y, Hid (y = ((abv P i : Nat) : Int)) := ⟨_, rfl⟩
      obtain ⟨z, HZ⟩ : ∃ z, Hid (z = ((abv P q : Nat) : Int)) := ⟨_, rfl⟩
      rw [← HY.out] at HWT HST
      rw [← HZ.out] at HWT c2
      clear hc1 hrow hF HR HOR hq
      go_wp2_with (go_at_call 32; with_reducible refine HWT.out.mono ?_; rintro e w2 ⟨rfl, hb2⟩; obtain ⟨cz, fz, HR2, HB2⟩ := HST.out w2 hb2; clear hb2)
      go_roundw
      case rel => exact ⟨i + 1, by omega, by omega, by go_num, HR2, HB2⟩
      case measure => simp [intOf]; omega
    · obtain rfl : i = n := by omega
      have HRD : Hid (RdA wr (some ⟨bs, 0, none⟩) 1 i i (bF P)) := (rowIs_rd hrow (by unfold maxLen; omega)).congr (fun j hj => hF j (by omega))
      clear hrow hF HR
      go_wp2
      go_ret2
      exact ⟨_, _, rfl, HRD.out, HBW.out⟩
end Go.Proofs.Ytakekdbclmgeoaa
