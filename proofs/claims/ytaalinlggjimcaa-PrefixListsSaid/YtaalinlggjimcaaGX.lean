import Derived.Test.YtaalinlggjimcaaGU
import Derived.Test.YtaalinlggjimcaaGV
namespace Go.Proofs.Ytaalinlggjimcaa
open Go.RowKit
/-! A world without a pool. -/
set_option maxRecDepth 20000 in
set_option maxHeartbeats 400000 in
theorem rfind_nil (ao : Option Addr) (n k : Nat) (w : World) : Calls Try.prog 32 #[.pointer none, .slice ao n k] w fun e w' => e = .returned (.slice none 0 0) ∧ w' = w := by
  go_enter Try.func32, Try.ntmps32
  go_wp2
  go_ret
  exact ⟨rfl, rfl⟩
set_option maxRecDepth 20000 in
set_option maxHeartbeats 400000 in
theorem rkeep_nil (ao bo : Option Addr) (n k m j : Nat) (w : World) : Calls Try.prog 30 #[.pointer none, .slice ao n k, .slice bo m j] w fun e w' => e = .returned (.int .i64 1) ∧ w' = w := by
  go_enter Try.func30, Try.ntmps30
  go_wp2
  go_ret
  exact ⟨rfl, rfl⟩
set_option maxRecDepth 20000 in
set_option maxHeartbeats 400000 in
theorem rshrink_nil (n : Int) (w : World) : Calls Try.prog 55 #[.pointer none, .int .i64 n] w fun e w' => e = .returned (.int .i64 0) ∧ w' = w := by
  go_enter Try.func55, Try.ntmps55
  go_wp2
  go_ret
  exact ⟨rfl, rfl⟩
set_option maxRecDepth 20000 in
set_option maxHeartbeats 400000 in
theorem rlen_nil (w : World) : Calls Try.prog 56 #[.pointer none] w fun e w' => e = .returned (.int .i64 0) ∧ w' = w := by
  go_enter Try.func56, Try.ntmps56
  go_wp2
  go_ret
  exact ⟨rfl, rfl⟩
def nilW : Nat → Value := fun i => if i = 6 then .slice none 0 0 else .pointer none
def NilP (w : World) (e : Ending) (w' : World) : Prop := e = .returned (.bool true) ∧ Below w.heap.size w w'
theorem nil_cells {w : World} {wd : Nat} (h : w.rowIs wd 63 7 nilW) : w.cell? ⟨wd, 0, none⟩ = some (.pointer none) ∧ (∀ k, k < 2 → w.cell? ⟨wd, 1 + k, none⟩ = some (.pointer none)) ∧ w.cell? ⟨wd, 3, none⟩ = some (.pointer none) ∧ (∀ k, k < 2 → w.cell? ⟨wd, 4 + k, none⟩ = some (.pointer none)) ∧ w.cell? ⟨wd, 6, none⟩ = some (.slice none 0 0) := by
  refine ⟨h.cell (i := 0) (by decide), fun k hk => ?_, h.cell (i := 3) (by decide), fun k hk => ?_, h.cell (i := 6) (by decide)⟩
  · match k, hk with
    | 0, _ => exact h.cell (i := 1) (by decide)
    | 1, _ => exact h.cell (i := 2) (by decide)
  · match k, hk with
    | 0, _ => exact h.cell (i := 4) (by decide)
    | 1, _ => exact h.cell (i := 5) (by decide)
theorem nil_row {w w' : World} {wd : Nat} (h : w.rowIs wd 63 7 nilW) (f : Below w.heap.size w w') : w'.rowIs wd 63 7 nilW := (Chg.of_below (fun _ => False) f).row h id
set_option maxRecDepth 20000 in
set_option maxHeartbeats 1600000 in
theorem natp_take {w : World} {wd : Nat} (h : w.rowIs wd 63 7 nilW) (tO : Option Addr) (T cap : Nat) (bO : Option Addr) (m bcap : Nat) (n who : Int) :
    Calls Try.prog 52 #[.pointer (some ⟨wd, 0, none⟩), .agg #[.int .i64 1, .int .i64 who, .slice tO T cap, .slice bO m bcap, .int .i64 n]] w (NilP w) := by
  obtain ⟨wb, hwb⟩ : ∃ wb, wb = w.alloc (.cells #[.int .i64 1, .int .i64 who, .slice tO T cap, .slice bO m bcap, .int .i64 n] 56) := ⟨_, rfl⟩
  have fb : Below w.heap.size w wb := by rw [hwb]; exact fresh_alloc _ _
  have x0 : wb.cell? ⟨w.heap.size, 0, none⟩ = some (.int .i64 1) := by rw [hwb]; simp
  have x4 : wb.cell? ⟨w.heap.size, 4, none⟩ = some (.int .i64 n) := by rw [hwb]; simp
  obtain ⟨c0, _, c3, _, c6⟩ := nil_cells (nil_row h fb)
  clear h
  have HT1 := hidd (nTake_nil wb)
  have HT2 : Hid (∀ w', Calls Try.prog 69 #[.pointer none] w' fun e w'' => e = .returned (.tuple #[.int .i64 0, .int .i64 1]) ∧ Below w'.heap.size w' w'') := fun w' => rnTake_nil w'
  go_enter Try.func52, Try.ntmps52
  go_upto_region 1 with fail
  rw [← hwb]
  clear hwb
  go_wp2_with (first
    | (go_at_call 17; with_reducible refine HT1.out.mono ?_; rintro e w5 ⟨rfl, f5⟩; have d3 := fresh_cell f5 c3)
    | (go_at_call 69; with_reducible refine (HT2.out _).mono ?_; rintro e w6 ⟨rfl, f6⟩))
  go_ret
  exact ⟨rfl, fb.trans ((fresh_trans f5 f6).mono fb.size)⟩
set_option maxRecDepth 20000 in
set_option maxHeartbeats 1600000 in
theorem natp_hold {w : World} {wd : Nat} (h : w.rowIs wd 63 7 nilW) (tO : Option Addr) (T cap : Nat) (bO : Option Addr) (m bcap : Nat) (n who : Int) :
    Calls Try.prog 52 #[.pointer (some ⟨wd, 0, none⟩), .agg #[.int .i64 2, .int .i64 who, .slice tO T cap, .slice bO m bcap, .int .i64 n]] w (NilP w) := by
  obtain ⟨wb, hwb⟩ : ∃ wb, wb = w.alloc (.cells #[.int .i64 2, .int .i64 who, .slice tO T cap, .slice bO m bcap, .int .i64 n] 56) := ⟨_, rfl⟩
  have fb : Below w.heap.size w wb := by rw [hwb]; exact fresh_alloc _ _
  have x0 : wb.cell? ⟨w.heap.size, 0, none⟩ = some (.int .i64 2) := by rw [hwb]; simp
  have x4 : wb.cell? ⟨w.heap.size, 4, none⟩ = some (.int .i64 n) := by rw [hwb]; simp
  obtain ⟨c0, _, c3, _, c6⟩ := nil_cells (nil_row h fb)
  clear h
  have HB1 : Hid (∀ z : Later wb, Calls Try.prog 65 #[.pointer none, .int .i64 n] z.val fun e w' => e = .returned (.int .i64 1) ∧ Below z.val.heap.size z.val w') := fun z => nHold_nil z.val n
  have HB2 : Hid (∀ (z : World) (z2 : Later z), Calls Try.prog 62 #[.pointer none, .int .i64 n] z2.val fun e w' => e = .returned (.int .i64 1) ∧ Below z2.val.heap.size z2.val w') := fun z z2 => rnHold_nil z2.val n
  have l0 := later_cell c0
  have l3 := later_cell c3
  have lx := later_cell x4
  have ne := later_some wb
  go_enter Try.func52, Try.ntmps52
  go_upto_region 1 with fail
  rw [← hwb]
  clear hwb
  go_upto_region 9 with fail
  refine wp_region_later (by kernel_rfl) (by kernel_rfl) ?_
  repeat (go_big_quiet_step (fail))
  go_big_quiet_step (exact later_of (HB1.out _))
  repeat (go_big_quiet_step (fail))
  refine wpQuiet_nil ?_
  rintro _ ⟨z, rfl⟩
  have q3 := l3 z
  have qx := lx z
  have p3 := later_cell q3
  have px := later_cell qx
  have ne2 := later_some z.val
  have HB3 := hidd (HB2.out z.val)
  have fz := z.fresh
  clear l0 l3 lx HB1 HB2 ne
  generalize z.val = zv at *
  go_upto_region 10 with fail
  refine wp_region_later (by kernel_rfl) (by kernel_rfl) ?_
  repeat (go_big_quiet_step (fail))
  go_big_quiet_step (exact later_of (HB3.out _))
  repeat (go_big_quiet_step (fail))
  refine wpQuiet_nil ?_
  rintro _ ⟨z2, rfl⟩
  have fz2 := z2.fresh
  go_wp2
  go_ret
  exact ⟨rfl, fb.trans ((fresh_trans fz fz2).mono fb.size)⟩
set_option maxRecDepth 20000 in
set_option maxHeartbeats 1600000 in
theorem nmine_any {w : World} {wd : Nat} (h : w.rowIs wd 63 7 nilW) (n : Int) : Calls Try.prog 70 #[.pointer (some ⟨wd, 0, none⟩), .int .i64 n] w fun e w' => e = .returned (.bool false) ∧ w' = w := by
  obtain ⟨_, _, _, _, c6⟩ := nil_cells h
  clear h
  by_cases h0 : n < 0
  · have hd : decide (0 ≤ n) = false := by simp; omega
    go_enter Try.func70, Try.ntmps70
    go_wp2
    go_ret
    exact ⟨rfl, rfl⟩
  · have hd : decide (0 ≤ n) = true := by simp; omega
    have hd1 : decide (n < 0) = false := by simp; omega
    go_enter Try.func70, Try.ntmps70
    go_wp2
    go_ret
    exact ⟨rfl, rfl⟩
set_option maxRecDepth 20000 in
set_option maxHeartbeats 1600000 in
theorem natp_drop {w : World} {wd : Nat} (h : w.rowIs wd 63 7 nilW) (tO : Option Addr) (T cap : Nat) (bO : Option Addr) (m bcap : Nat) (n who : Int) :
    Calls Try.prog 52 #[.pointer (some ⟨wd, 0, none⟩), .agg #[.int .i64 3, .int .i64 who, .slice tO T cap, .slice bO m bcap, .int .i64 n]] w (NilP w) := by
  obtain ⟨wb, hwb⟩ : ∃ wb, wb = w.alloc (.cells #[.int .i64 3, .int .i64 who, .slice tO T cap, .slice bO m bcap, .int .i64 n] 56) := ⟨_, rfl⟩
  have fb : Below w.heap.size w wb := by rw [hwb]; exact fresh_alloc _ _
  have x0 : wb.cell? ⟨w.heap.size, 0, none⟩ = some (.int .i64 3) := by rw [hwb]; simp
  have x4 : wb.cell? ⟨w.heap.size, 4, none⟩ = some (.int .i64 n) := by rw [hwb]; simp
  obtain ⟨c0, _, c3, _, c6⟩ := nil_cells (nil_row h fb)
  have HM := hidd (nmine_any (nil_row h fb) n)
  clear h
  go_enter Try.func52, Try.ntmps52
  go_upto_region 1 with fail
  rw [← hwb]
  clear hwb
  go_wp2_with (first
    | (go_at_call 70; with_reducible refine HM.out.mono ?_; rintro e w5 ⟨rfl, h5⟩; rw [h5]; clear h5))
  go_ret
  exact ⟨rfl, fb⟩
set_option maxRecDepth 20000 in
set_option maxHeartbeats 1600000 in
theorem nstep_take {w : World} {wd : Nat} (h : w.rowIs wd 63 7 nilW) (tO : Option Addr) (T cap : Nat) (bO : Option Addr) (m bcap : Nat) (n who : Int) {k : Nat} (hk : k < 2) (hr : who.tmod 2 = (k : Int) ∨ (who.tmod 2 = -1 ∧ k = 1)) :
    Calls Try.prog 28 #[.pointer (some ⟨wd, 0, none⟩), .agg #[.int .i64 1, .int .i64 who, .slice tO T cap, .slice bO m bcap, .int .i64 n]] w (NilP w) := by
  obtain ⟨wb, hwb⟩ : ∃ wb, wb = w.alloc (.cells #[.int .i64 1, .int .i64 who, .slice tO T cap, .slice bO m bcap, .int .i64 n] 56) := ⟨_, rfl⟩
  have fb : Below w.heap.size w wb := by rw [hwb]; exact fresh_alloc _ _
  have x0 : wb.cell? ⟨w.heap.size, 0, none⟩ = some (.int .i64 1) := by rw [hwb]; simp
  have x1 : wb.cell? ⟨w.heap.size, 1, none⟩ = some (.int .i64 who) := by rw [hwb]; simp
  have x2 : wb.cell? ⟨w.heap.size, 2, none⟩ = some (.slice tO T cap) := by rw [hwb]; simp
  have x3 : wb.cell? ⟨w.heap.size, 3, none⟩ = some (.slice bO m bcap) := by rw [hwb]; simp
  have x4 : wb.cell? ⟨w.heap.size, 4, none⟩ = some (.int .i64 n) := by rw [hwb]; simp
  obtain ⟨c0, ck, c3, dk, c6⟩ := nil_cells (nil_row h fb)
  have ckk := ck k hk
  have dkk := dk k hk
  have HAT : Hid (Calls Try.prog 52 #[.pointer (some ⟨wd, 0, none⟩), .agg #[.int .i64 1, .int .i64 who, .slice tO T cap, .slice bO m bcap, .int .i64 n]] wb fun e w' => e = .returned (.bool true) ∧ Below wb.heap.size wb w') := natp_take (nil_row h fb) tO T cap bO m bcap n who
  clear h ck dk
  rcases hr with hr | ⟨hr, rfl⟩
  · have hkd : decide ((k : Int) < 0) = false := by simp
    have k0 : (0 : Int) ≤ (k : Int) := by omega
    have k1 : (k : Int) < 2 := by omega
    go_enter Try.func28, Try.ntmps28
    go_upto_region 1 with fail
    rw [← hwb]
    clear hwb
    go_wp2_with (first
      | (go_at_call 52; with_reducible refine HAT.out.mono ?_; rintro e w5 ⟨rfl, f5⟩))
    go_ret
    exact ⟨rfl, fb.trans (f5.mono fb.size)⟩
  · go_enter Try.func28, Try.ntmps28
    go_upto_region 1 with fail
    rw [← hwb]
    clear hwb
    go_wp2_with (first
      | (go_at_call 52; with_reducible refine HAT.out.mono ?_; rintro e w5 ⟨rfl, f5⟩))
    go_ret
    exact ⟨rfl, fb.trans (f5.mono fb.size)⟩
set_option maxRecDepth 20000 in
set_option maxHeartbeats 1600000 in
theorem nstep_hold {w : World} {wd : Nat} (h : w.rowIs wd 63 7 nilW) (tO : Option Addr) (T cap : Nat) (bO : Option Addr) (m bcap : Nat) (n who : Int) {k : Nat} (hk : k < 2) (hr : who.tmod 2 = (k : Int) ∨ (who.tmod 2 = -1 ∧ k = 1)) :
    Calls Try.prog 28 #[.pointer (some ⟨wd, 0, none⟩), .agg #[.int .i64 2, .int .i64 who, .slice tO T cap, .slice bO m bcap, .int .i64 n]] w (NilP w) := by
  obtain ⟨wb, hwb⟩ : ∃ wb, wb = w.alloc (.cells #[.int .i64 2, .int .i64 who, .slice tO T cap, .slice bO m bcap, .int .i64 n] 56) := ⟨_, rfl⟩
  have fb : Below w.heap.size w wb := by rw [hwb]; exact fresh_alloc _ _
  have x0 : wb.cell? ⟨w.heap.size, 0, none⟩ = some (.int .i64 2) := by rw [hwb]; simp
  have x1 : wb.cell? ⟨w.heap.size, 1, none⟩ = some (.int .i64 who) := by rw [hwb]; simp
  have x2 : wb.cell? ⟨w.heap.size, 2, none⟩ = some (.slice tO T cap) := by rw [hwb]; simp
  have x3 : wb.cell? ⟨w.heap.size, 3, none⟩ = some (.slice bO m bcap) := by rw [hwb]; simp
  have x4 : wb.cell? ⟨w.heap.size, 4, none⟩ = some (.int .i64 n) := by rw [hwb]; simp
  obtain ⟨c0, ck, c3, dk, c6⟩ := nil_cells (nil_row h fb)
  have ckk := ck k hk
  have dkk := dk k hk
  have HAT : Hid (Calls Try.prog 52 #[.pointer (some ⟨wd, 0, none⟩), .agg #[.int .i64 2, .int .i64 who, .slice tO T cap, .slice bO m bcap, .int .i64 n]] wb fun e w' => e = .returned (.bool true) ∧ Below wb.heap.size wb w') := natp_hold (nil_row h fb) tO T cap bO m bcap n who
  clear h ck dk
  rcases hr with hr | ⟨hr, rfl⟩
  · have hkd : decide ((k : Int) < 0) = false := by simp
    have k0 : (0 : Int) ≤ (k : Int) := by omega
    have k1 : (k : Int) < 2 := by omega
    go_enter Try.func28, Try.ntmps28
    go_upto_region 1 with fail
    rw [← hwb]
    clear hwb
    go_wp2_with (first
      | (go_at_call 52; with_reducible refine HAT.out.mono ?_; rintro e w5 ⟨rfl, f5⟩))
    go_ret
    exact ⟨rfl, fb.trans (f5.mono fb.size)⟩
  · go_enter Try.func28, Try.ntmps28
    go_upto_region 1 with fail
    rw [← hwb]
    clear hwb
    go_wp2_with (first
      | (go_at_call 52; with_reducible refine HAT.out.mono ?_; rintro e w5 ⟨rfl, f5⟩))
    go_ret
    exact ⟨rfl, fb.trans (f5.mono fb.size)⟩
set_option maxRecDepth 20000 in
set_option maxHeartbeats 1600000 in
theorem nstep_drop {w : World} {wd : Nat} (h : w.rowIs wd 63 7 nilW) (tO : Option Addr) (T cap : Nat) (bO : Option Addr) (m bcap : Nat) (n who : Int) {k : Nat} (hk : k < 2) (hr : who.tmod 2 = (k : Int) ∨ (who.tmod 2 = -1 ∧ k = 1)) :
    Calls Try.prog 28 #[.pointer (some ⟨wd, 0, none⟩), .agg #[.int .i64 3, .int .i64 who, .slice tO T cap, .slice bO m bcap, .int .i64 n]] w (NilP w) := by
  obtain ⟨wb, hwb⟩ : ∃ wb, wb = w.alloc (.cells #[.int .i64 3, .int .i64 who, .slice tO T cap, .slice bO m bcap, .int .i64 n] 56) := ⟨_, rfl⟩
  have fb : Below w.heap.size w wb := by rw [hwb]; exact fresh_alloc _ _
  have x0 : wb.cell? ⟨w.heap.size, 0, none⟩ = some (.int .i64 3) := by rw [hwb]; simp
  have x1 : wb.cell? ⟨w.heap.size, 1, none⟩ = some (.int .i64 who) := by rw [hwb]; simp
  have x2 : wb.cell? ⟨w.heap.size, 2, none⟩ = some (.slice tO T cap) := by rw [hwb]; simp
  have x3 : wb.cell? ⟨w.heap.size, 3, none⟩ = some (.slice bO m bcap) := by rw [hwb]; simp
  have x4 : wb.cell? ⟨w.heap.size, 4, none⟩ = some (.int .i64 n) := by rw [hwb]; simp
  obtain ⟨c0, ck, c3, dk, c6⟩ := nil_cells (nil_row h fb)
  have ckk := ck k hk
  have dkk := dk k hk
  have HAT : Hid (Calls Try.prog 52 #[.pointer (some ⟨wd, 0, none⟩), .agg #[.int .i64 3, .int .i64 who, .slice tO T cap, .slice bO m bcap, .int .i64 n]] wb fun e w' => e = .returned (.bool true) ∧ Below wb.heap.size wb w') := natp_drop (nil_row h fb) tO T cap bO m bcap n who
  clear h ck dk
  rcases hr with hr | ⟨hr, rfl⟩
  · have hkd : decide ((k : Int) < 0) = false := by simp
    have k0 : (0 : Int) ≤ (k : Int) := by omega
    have k1 : (k : Int) < 2 := by omega
    go_enter Try.func28, Try.ntmps28
    go_upto_region 1 with fail
    rw [← hwb]
    clear hwb
    go_wp2_with (first
      | (go_at_call 52; with_reducible refine HAT.out.mono ?_; rintro e w5 ⟨rfl, f5⟩))
    go_ret
    exact ⟨rfl, fb.trans (f5.mono fb.size)⟩
  · go_enter Try.func28, Try.ntmps28
    go_upto_region 1 with fail
    rw [← hwb]
    clear hwb
    go_wp2_with (first
      | (go_at_call 52; with_reducible refine HAT.out.mono ?_; rintro e w5 ⟨rfl, f5⟩))
    go_ret
    exact ⟨rfl, fb.trans (f5.mono fb.size)⟩
set_option maxRecDepth 20000 in
set_option maxHeartbeats 1600000 in
theorem nstep_find {w : World} {wd : Nat} (h : w.rowIs wd 63 7 nilW) (tO : Option Addr) (T cap : Nat) (bO : Option Addr) (m bcap : Nat) (n who : Int) {t : Nat → Int} (ht : RdA w tO 1 T cap (fun i => .int .i64 (t i))) (hT : T ≤ 2147483647) {k : Nat} (hk : k < 2) (hr : who.tmod 2 = (k : Int) ∨ (who.tmod 2 = -1 ∧ k = 1)) :
    Calls Try.prog 28 #[.pointer (some ⟨wd, 0, none⟩), .agg #[.int .i64 4, .int .i64 who, .slice tO T cap, .slice bO m bcap, .int .i64 n]] w (NilP w) := by
  obtain ⟨wb, hwb⟩ : ∃ wb, wb = w.alloc (.cells #[.int .i64 4, .int .i64 who, .slice tO T cap, .slice bO m bcap, .int .i64 n] 56) := ⟨_, rfl⟩
  have fb : Below w.heap.size w wb := by rw [hwb]; exact fresh_alloc _ _
  have x0 : wb.cell? ⟨w.heap.size, 0, none⟩ = some (.int .i64 4) := by rw [hwb]; simp
  have x1 : wb.cell? ⟨w.heap.size, 1, none⟩ = some (.int .i64 who) := by rw [hwb]; simp
  have x2 : wb.cell? ⟨w.heap.size, 2, none⟩ = some (.slice tO T cap) := by rw [hwb]; simp
  have x3 : wb.cell? ⟨w.heap.size, 3, none⟩ = some (.slice bO m bcap) := by rw [hwb]; simp
  have x4 : wb.cell? ⟨w.heap.size, 4, none⟩ = some (.int .i64 n) := by rw [hwb]; simp
  obtain ⟨c0, ck, c3, dk, c6⟩ := nil_cells (nil_row h fb)
  have ckk := ck k hk
  have dkk := dk k hk
  have HMK := hidd (marked_any (ht.fresh fb) hT)
  have HF1 : Hid (∀ w' ao, Calls Try.prog 11 #[.pointer none, .slice ao T (T + 64)] w' fun e w'' => e = .returned (.slice none 0 0) ∧ w'' = w') := fun w' ao => find_nil ao T (T + 64) w'
  have HF2 : Hid (∀ w', Calls Try.prog 32 #[.pointer none, .slice tO T cap] w' fun e w'' => e = .returned (.slice none 0 0) ∧ w'' = w') := fun w' => rfind_nil tO T cap w'
  have HEQ : Hid (∀ w', Calls Try.prog 29 #[.slice none 0 0, .slice none 0 0] w' fun e w'' => e = .returned (.bool true) ∧ Below w'.heap.size w' w'') := fun w' => by
    have hz : RdA w' none 1 0 0 (fun i => .int .i64 ((fun _ => 0) i)) := ⟨Nat.le_refl _, Nat.zero_le _, fun h => absurd h (by omega)⟩
    refine (eqInts_any hz hz).mono ?_
    rintro e w'' ⟨⟨r, rfl, hr⟩, f⟩
    have : r = true := hr.2 ⟨rfl, fun _ _ => rfl⟩
    subst this
    exact ⟨rfl, f⟩
  have HST : Hid (∀ w5 w8, w5.rowIs wb.heap.size 3 (T + 64) (fun i => .int .i64 (mkd t T i)) → Below wb.heap.size wb w5 → Below w5.heap.size w5 w8 → Calls Try.prog 54 #[.slice (some ⟨wb.heap.size, 0, none⟩) T (T + 64), .slice tO T cap] w8 fun e w9 => e = .returned (.bool true) ∧ Below w8.heap.size w8 w9) := fun w5 w8 r5 f5 f8 => still_any (((ht.fresh fb).fresh f5).fresh f8) ((Chg.of_below (fun _ => False) f8).row r5 id) hT
  clear ht
  clear h ck dk
  rcases hr with hr | ⟨hr, rfl⟩
  · have hkd : decide ((k : Int) < 0) = false := by simp
    have k0 : (0 : Int) ≤ (k : Int) := by omega
    have k1 : (k : Int) < 2 := by omega
    go_enter Try.func28, Try.ntmps28
    go_upto_region 1 with fail
    rw [← hwb]
    clear hwb
    go_wp2_with (first
      | (go_at_call 53; with_reducible refine HMK.out.mono ?_; rintro e w5 ⟨rfl, r5, f5⟩; have R5 := hidd r5; clear r5; have y2 := fresh_cell f5 x2)
      | (go_at_call 11; with_reducible refine (HF1.out _ _).mono ?_; rintro e w6 ⟨rfl, h6⟩; rw [h6]; clear h6)
      | (go_at_call 32; with_reducible refine (HF2.out _).mono ?_; rintro e w6 ⟨rfl, h6⟩; rw [h6]; clear h6)
      | (go_at_call 29; with_reducible refine (HEQ.out _).mono ?_; rintro e w8 ⟨rfl, f8⟩; have z2 := fresh_cell f8 y2)
      | (go_at_call 54; with_reducible refine (HST.out w5 w8 R5.out f5 f8).mono ?_; rintro e w9 ⟨rfl, f9⟩))
    go_ret
    exact ⟨rfl, fb.trans ((fresh_trans (fresh_trans f5 f8) f9).mono fb.size)⟩
  · go_enter Try.func28, Try.ntmps28
    go_upto_region 1 with fail
    rw [← hwb]
    clear hwb
    go_wp2_with (first
      | (go_at_call 53; with_reducible refine HMK.out.mono ?_; rintro e w5 ⟨rfl, r5, f5⟩; have R5 := hidd r5; clear r5; have y2 := fresh_cell f5 x2)
      | (go_at_call 11; with_reducible refine (HF1.out _ _).mono ?_; rintro e w6 ⟨rfl, h6⟩; rw [h6]; clear h6)
      | (go_at_call 32; with_reducible refine (HF2.out _).mono ?_; rintro e w6 ⟨rfl, h6⟩; rw [h6]; clear h6)
      | (go_at_call 29; with_reducible refine (HEQ.out _).mono ?_; rintro e w8 ⟨rfl, f8⟩; have z2 := fresh_cell f8 y2)
      | (go_at_call 54; with_reducible refine (HST.out w5 w8 R5.out f5 f8).mono ?_; rintro e w9 ⟨rfl, f9⟩))
    go_ret
    exact ⟨rfl, fb.trans ((fresh_trans (fresh_trans f5 f8) f9).mono fb.size)⟩
set_option maxRecDepth 20000 in
set_option maxHeartbeats 1600000 in
theorem nstep_keep {w : World} {wd : Nat} (h : w.rowIs wd 63 7 nilW) (tO : Option Addr) (T cap : Nat) (bO : Option Addr) (m bcap : Nat) (n who : Int) {t : Nat → Int} (ht : RdA w tO 1 T cap (fun i => .int .i64 (t i))) (hT : T ≤ 2147483647) {g : Nat → Int} (hb : RdA w bO 1 m bcap (fun i => .int .i64 (g i))) (hm : m ≤ 2147483647) {k : Nat} (hk : k < 2) (hr : who.tmod 2 = (k : Int) ∨ (who.tmod 2 = -1 ∧ k = 1)) :
    Calls Try.prog 28 #[.pointer (some ⟨wd, 0, none⟩), .agg #[.int .i64 5, .int .i64 who, .slice tO T cap, .slice bO m bcap, .int .i64 n]] w (NilP w) := by
  obtain ⟨wb, hwb⟩ : ∃ wb, wb = w.alloc (.cells #[.int .i64 5, .int .i64 who, .slice tO T cap, .slice bO m bcap, .int .i64 n] 56) := ⟨_, rfl⟩
  have fb : Below w.heap.size w wb := by rw [hwb]; exact fresh_alloc _ _
  have x0 : wb.cell? ⟨w.heap.size, 0, none⟩ = some (.int .i64 5) := by rw [hwb]; simp
  have x1 : wb.cell? ⟨w.heap.size, 1, none⟩ = some (.int .i64 who) := by rw [hwb]; simp
  have x2 : wb.cell? ⟨w.heap.size, 2, none⟩ = some (.slice tO T cap) := by rw [hwb]; simp
  have x3 : wb.cell? ⟨w.heap.size, 3, none⟩ = some (.slice bO m bcap) := by rw [hwb]; simp
  have x4 : wb.cell? ⟨w.heap.size, 4, none⟩ = some (.int .i64 n) := by rw [hwb]; simp
  obtain ⟨c0, ck, c3, dk, c6⟩ := nil_cells (nil_row h fb)
  have ckk := ck k hk
  have dkk := dk k hk
  have HMK := hidd (marked_any (ht.fresh fb) hT)
  have HM2 : Hid (∀ w5, Below wb.heap.size wb w5 → Calls Try.prog 53 #[.slice bO m bcap] w5 fun e w' => e = .returned (.slice (some ⟨w5.heap.size, 0, none⟩) m (m + 64)) ∧ w'.rowIs w5.heap.size 3 (m + 64) (fun i => .int .i64 (mkd g m i)) ∧ Below w5.heap.size w5 w') := fun w5 f5 => marked_any ((hb.fresh fb).fresh f5) hm
  have HF1 : Hid (∀ w' ao bo, Calls Try.prog 12 #[.pointer none, .slice ao T (T + 64), .slice bo m (m + 64)] w' fun e w'' => e = .returned (.int .i64 1) ∧ w'' = w') := fun w' ao bo => keep_nil ao bo T (T + 64) m (m + 64) w'
  have HF2 : Hid (∀ w', Calls Try.prog 30 #[.pointer none, .slice tO T cap, .slice bO m bcap] w' fun e w'' => e = .returned (.int .i64 1) ∧ w'' = w') := fun w' => rkeep_nil tO bO T cap m bcap w'
  have HS1 : Hid (∀ w5 w8, w5.rowIs wb.heap.size 3 (T + 64) (fun i => .int .i64 (mkd t T i)) → Below wb.heap.size wb w5 → Below w5.heap.size w5 w8 → Calls Try.prog 54 #[.slice (some ⟨wb.heap.size, 0, none⟩) T (T + 64), .slice tO T cap] w8 fun e w9 => e = .returned (.bool true) ∧ Below w8.heap.size w8 w9) := fun w5 w8 r5 f5 f8 => still_any (((ht.fresh fb).fresh f5).fresh f8) ((Chg.of_below (fun _ => False) f8).row r5 id) hT
  have HS2 : Hid (∀ (w5 w6 w8 : World), w6.rowIs w5.heap.size 3 (m + 64) (fun i => .int .i64 (mkd g m i)) → Below wb.heap.size wb w6 → Below w6.heap.size w6 w8 → Calls Try.prog 54 #[.slice (some ⟨w5.heap.size, 0, none⟩) m (m + 64), .slice bO m bcap] w8 fun e w9 => e = .returned (.bool true) ∧ Below w8.heap.size w8 w9) := fun w5 w6 w8 r6 f6 f8 => still_any (((hb.fresh fb).fresh f6).fresh f8) ((Chg.of_below (fun _ => False) f8).row r6 id) hm
  clear ht hb
  clear h ck dk
  rcases hr with hr | ⟨hr, rfl⟩
  · have hkd : decide ((k : Int) < 0) = false := by simp
    have k0 : (0 : Int) ≤ (k : Int) := by omega
    have k1 : (k : Int) < 2 := by omega
    go_enter Try.func28, Try.ntmps28
    go_upto_region 1 with fail
    rw [← hwb]
    clear hwb
    go_wp2_with (first
      | (go_at_call 53; with_reducible refine HMK.out.mono ?_; rintro e w5 ⟨rfl, r5, f5⟩; have R5 := hidd r5; clear r5; have y3 := fresh_cell f5 x3; have y2 := fresh_cell f5 x2)
      | (go_at_call 53; with_reducible refine (HM2.out w5 f5).mono ?_; rintro e w6 ⟨rfl, r6, f6⟩; have R6 := hidd r6; clear r6; have z3 := fresh_cell f6 y3; have z2 := fresh_cell f6 y2)
      | (go_at_call 12; with_reducible refine (HF1.out _ _ _).mono ?_; rintro e w7 ⟨rfl, h7⟩; rw [h7]; clear h7)
      | (go_at_call 30; with_reducible refine (HF2.out _).mono ?_; rintro e w7 ⟨rfl, h7⟩; rw [h7]; clear h7)
      | (go_at_call 54; with_reducible refine (HS1.out w5 w6 R5.out f5 f6).mono ?_; rintro e w8 ⟨rfl, f8⟩; have v3 := fresh_cell f8 z3)
      | (go_at_call 54; with_reducible refine (HS2.out w5 w6 w8 R6.out (fresh_trans f5 f6) f8).mono ?_; rintro e w9 ⟨rfl, f9⟩))
    go_ret
    exact ⟨rfl, fb.trans ((fresh_trans (fresh_trans (fresh_trans f5 f6) f8) f9).mono fb.size)⟩
  · go_enter Try.func28, Try.ntmps28
    go_upto_region 1 with fail
    rw [← hwb]
    clear hwb
    go_wp2_with (first
      | (go_at_call 53; with_reducible refine HMK.out.mono ?_; rintro e w5 ⟨rfl, r5, f5⟩; have R5 := hidd r5; clear r5; have y3 := fresh_cell f5 x3; have y2 := fresh_cell f5 x2)
      | (go_at_call 53; with_reducible refine (HM2.out w5 f5).mono ?_; rintro e w6 ⟨rfl, r6, f6⟩; have R6 := hidd r6; clear r6; have z3 := fresh_cell f6 y3; have z2 := fresh_cell f6 y2)
      | (go_at_call 12; with_reducible refine (HF1.out _ _ _).mono ?_; rintro e w7 ⟨rfl, h7⟩; rw [h7]; clear h7)
      | (go_at_call 30; with_reducible refine (HF2.out _).mono ?_; rintro e w7 ⟨rfl, h7⟩; rw [h7]; clear h7)
      | (go_at_call 54; with_reducible refine (HS1.out w5 w6 R5.out f5 f6).mono ?_; rintro e w8 ⟨rfl, f8⟩; have v3 := fresh_cell f8 z3)
      | (go_at_call 54; with_reducible refine (HS2.out w5 w6 w8 R6.out (fresh_trans f5 f6) f8).mono ?_; rintro e w9 ⟨rfl, f9⟩))
    go_ret
    exact ⟨rfl, fb.trans ((fresh_trans (fresh_trans (fresh_trans f5 f6) f8) f9).mono fb.size)⟩
set_option maxRecDepth 20000 in
set_option maxHeartbeats 1600000 in
theorem nstep_shrink {w : World} {wd : Nat} (h : w.rowIs wd 63 7 nilW) (tO : Option Addr) (T cap : Nat) (bO : Option Addr) (m bcap : Nat) (n who : Int) {k : Nat} (hk : k < 2) (hr : who.tmod 2 = (k : Int) ∨ (who.tmod 2 = -1 ∧ k = 1)) :
    Calls Try.prog 28 #[.pointer (some ⟨wd, 0, none⟩), .agg #[.int .i64 6, .int .i64 who, .slice tO T cap, .slice bO m bcap, .int .i64 n]] w (NilP w) := by
  obtain ⟨wb, hwb⟩ : ∃ wb, wb = w.alloc (.cells #[.int .i64 6, .int .i64 who, .slice tO T cap, .slice bO m bcap, .int .i64 n] 56) := ⟨_, rfl⟩
  have fb : Below w.heap.size w wb := by rw [hwb]; exact fresh_alloc _ _
  have x0 : wb.cell? ⟨w.heap.size, 0, none⟩ = some (.int .i64 6) := by rw [hwb]; simp
  have x1 : wb.cell? ⟨w.heap.size, 1, none⟩ = some (.int .i64 who) := by rw [hwb]; simp
  have x2 : wb.cell? ⟨w.heap.size, 2, none⟩ = some (.slice tO T cap) := by rw [hwb]; simp
  have x3 : wb.cell? ⟨w.heap.size, 3, none⟩ = some (.slice bO m bcap) := by rw [hwb]; simp
  have x4 : wb.cell? ⟨w.heap.size, 4, none⟩ = some (.int .i64 n) := by rw [hwb]; simp
  obtain ⟨c0, ck, c3, dk, c6⟩ := nil_cells (nil_row h fb)
  have ckk := ck k hk
  have dkk := dk k hk
  have HB1 : Hid (∀ z : Later wb, Calls Try.prog 13 #[.pointer none, .int .i64 n] z.val fun e w' => e = .returned (.int .i64 0) ∧ w' = z.val) := fun z => shrink_nil n z.val
  have HB2 : Hid (∀ z : Later wb, Calls Try.prog 55 #[.pointer none, .int .i64 n] z.val fun e w' => e = .returned (.int .i64 0) ∧ w' = z.val) := fun z => rshrink_nil n z.val
  have lx := later_cell x4
  have ne := later_some wb
  clear h ck dk
  rcases hr with hr | ⟨hr, rfl⟩
  · have hkd : decide ((k : Int) < 0) = false := by simp
    have k0 : (0 : Int) ≤ (k : Int) := by omega
    have k1 : (k : Int) < 2 := by omega
    go_enter Try.func28, Try.ntmps28
    go_upto_region 1 with fail
    rw [← hwb]
    clear hwb
    go_upto_region 23 with fail
    refine wp_region_later (by kernel_rfl) (by kernel_rfl) ?_
    repeat (go_big_quiet_step (fail))
    go_big_quiet_step (exact later_same (HB1.out _))
    repeat (go_big_quiet_step (fail))
    go_big_quiet_step (exact later_same (HB2.out _))
    repeat (go_big_quiet_step (fail))
    refine wpQuiet_nil ?_
    rintro _ ⟨z, rfl⟩
    have fz := z.fresh
    go_wp2
    go_ret
    exact ⟨rfl, fb.trans (fz.mono fb.size)⟩
  · go_enter Try.func28, Try.ntmps28
    go_upto_region 1 with fail
    rw [← hwb]
    clear hwb
    go_upto_region 23 with fail
    refine wp_region_later (by kernel_rfl) (by kernel_rfl) ?_
    repeat (go_big_quiet_step (fail))
    go_big_quiet_step (exact later_same (HB1.out _))
    repeat (go_big_quiet_step (fail))
    go_big_quiet_step (exact later_same (HB2.out _))
    repeat (go_big_quiet_step (fail))
    refine wpQuiet_nil ?_
    rintro _ ⟨z, rfl⟩
    have fz := z.fresh
    go_wp2
    go_ret
    exact ⟨rfl, fb.trans (fz.mono fb.size)⟩
set_option maxRecDepth 20000 in
set_option maxHeartbeats 1600000 in
theorem nstep_len {w : World} {wd : Nat} (h : w.rowIs wd 63 7 nilW) (tO : Option Addr) (T cap : Nat) (bO : Option Addr) (m bcap : Nat) (n who : Int) {k : Nat} (hk : k < 2) (hr : who.tmod 2 = (k : Int) ∨ (who.tmod 2 = -1 ∧ k = 1)) :
    Calls Try.prog 28 #[.pointer (some ⟨wd, 0, none⟩), .agg #[.int .i64 7, .int .i64 who, .slice tO T cap, .slice bO m bcap, .int .i64 n]] w (NilP w) := by
  obtain ⟨wb, hwb⟩ : ∃ wb, wb = w.alloc (.cells #[.int .i64 7, .int .i64 who, .slice tO T cap, .slice bO m bcap, .int .i64 n] 56) := ⟨_, rfl⟩
  have fb : Below w.heap.size w wb := by rw [hwb]; exact fresh_alloc _ _
  have x0 : wb.cell? ⟨w.heap.size, 0, none⟩ = some (.int .i64 7) := by rw [hwb]; simp
  have x1 : wb.cell? ⟨w.heap.size, 1, none⟩ = some (.int .i64 who) := by rw [hwb]; simp
  have x2 : wb.cell? ⟨w.heap.size, 2, none⟩ = some (.slice tO T cap) := by rw [hwb]; simp
  have x3 : wb.cell? ⟨w.heap.size, 3, none⟩ = some (.slice bO m bcap) := by rw [hwb]; simp
  have x4 : wb.cell? ⟨w.heap.size, 4, none⟩ = some (.int .i64 n) := by rw [hwb]; simp
  obtain ⟨c0, ck, c3, dk, c6⟩ := nil_cells (nil_row h fb)
  have ckk := ck k hk
  have dkk := dk k hk
  have HB1 := hidd (len_nil wb)
  have HB2 := hidd (rlen_nil wb)
  clear h ck dk
  rcases hr with hr | ⟨hr, rfl⟩
  · have hkd : decide ((k : Int) < 0) = false := by simp
    have k0 : (0 : Int) ≤ (k : Int) := by omega
    have k1 : (k : Int) < 2 := by omega
    go_enter Try.func28, Try.ntmps28
    go_upto_region 1 with fail
    rw [← hwb]
    clear hwb
    go_wp2_with (first
      | (go_at_call 14; with_reducible refine HB1.out.mono ?_; rintro e w5 ⟨rfl, h5⟩; rw [h5]; clear h5)
      | (go_at_call 56; with_reducible refine HB2.out.mono ?_; rintro e w5 ⟨rfl, h5⟩; rw [h5]; clear h5))
    go_ret
    exact ⟨rfl, fb⟩
  · go_enter Try.func28, Try.ntmps28
    go_upto_region 1 with fail
    rw [← hwb]
    clear hwb
    go_wp2_with (first
      | (go_at_call 14; with_reducible refine HB1.out.mono ?_; rintro e w5 ⟨rfl, h5⟩; rw [h5]; clear h5)
      | (go_at_call 56; with_reducible refine HB2.out.mono ?_; rintro e w5 ⟨rfl, h5⟩; rw [h5]; clear h5))
    go_ret
    exact ⟨rfl, fb⟩
set_option maxRecDepth 20000 in
set_option maxHeartbeats 1600000 in
theorem nstep_other {w : World} {wd : Nat} (h : w.rowIs wd 63 7 nilW) (tO : Option Addr) (T cap : Nat) (bO : Option Addr) (m bcap : Nat) (n who : Int) (kind : Int) (hkind : kind < 1 ∨ 7 < kind) {k : Nat} (hk : k < 2) (hr : who.tmod 2 = (k : Int) ∨ (who.tmod 2 = -1 ∧ k = 1)) :
    Calls Try.prog 28 #[.pointer (some ⟨wd, 0, none⟩), .agg #[.int .i64 kind, .int .i64 who, .slice tO T cap, .slice bO m bcap, .int .i64 n]] w (NilP w) := by
  obtain ⟨wb, hwb⟩ : ∃ wb, wb = w.alloc (.cells #[.int .i64 kind, .int .i64 who, .slice tO T cap, .slice bO m bcap, .int .i64 n] 56) := ⟨_, rfl⟩
  have fb : Below w.heap.size w wb := by rw [hwb]; exact fresh_alloc _ _
  have x0 : wb.cell? ⟨w.heap.size, 0, none⟩ = some (.int .i64 kind) := by rw [hwb]; simp
  have x1 : wb.cell? ⟨w.heap.size, 1, none⟩ = some (.int .i64 who) := by rw [hwb]; simp
  have x2 : wb.cell? ⟨w.heap.size, 2, none⟩ = some (.slice tO T cap) := by rw [hwb]; simp
  have x3 : wb.cell? ⟨w.heap.size, 3, none⟩ = some (.slice bO m bcap) := by rw [hwb]; simp
  have x4 : wb.cell? ⟨w.heap.size, 4, none⟩ = some (.int .i64 n) := by rw [hwb]; simp
  obtain ⟨c0, ck, c3, dk, c6⟩ := nil_cells (nil_row h fb)
  have ckk := ck k hk
  have dkk := dk k hk
  have e1 : (kind == 1) = false := by simp; omega
  have e2 : (kind == 2) = false := by simp; omega
  have e3 : (kind == 3) = false := by simp; omega
  have e4 : (kind == 4) = false := by simp; omega
  have e5 : (kind == 5) = false := by simp; omega
  have e6 : (kind == 6) = false := by simp; omega
  have e7 : (kind == 7) = false := by simp; omega
  clear hkind
  clear h ck dk
  rcases hr with hr | ⟨hr, rfl⟩
  · have hkd : decide ((k : Int) < 0) = false := by simp
    have k0 : (0 : Int) ≤ (k : Int) := by omega
    have k1 : (k : Int) < 2 := by omega
    go_enter Try.func28, Try.ntmps28
    go_upto_region 1 with fail
    rw [← hwb]
    clear hwb
    go_wp2
    go_ret
    exact ⟨rfl, fb⟩
  · go_enter Try.func28, Try.ntmps28
    go_upto_region 1 with fail
    rw [← hwb]
    clear hwb
    go_wp2
    go_ret
    exact ⟨rfl, fb⟩
set_option maxRecDepth 20000 in
set_option maxHeartbeats 1600000 in
theorem ncounts_any {w : World} {wd : Nat} (h : w.rowIs wd 63 7 nilW) : Calls Try.prog 33 #[.pointer (some ⟨wd, 0, none⟩)] w fun e w' => e = .returned (.bool true) ∧ Below w.heap.size w w' := by
  obtain ⟨c0, _, c3, _, c6⟩ := nil_cells h
  clear h
  go_enter Try.func33, Try.ntmps33
  go_wp2
  go_loopw [3] (fun i wr => i = .int .i64 0 ∧ wr = w) (fun _ _ => 0)
  case atStart => exact ⟨rfl, rfl⟩
  case round =>
    obtain ⟨rfl, rfl⟩ := hrel
    have l0 := later_cell c0
    have l3 := later_cell c3
    have ne := later_some wr
    have HC1 : Hid (∀ z : Later wr, Calls Try.prog 24 #[.pointer none] z.val fun e w' => e = .returned (.int .i64 0) ∧ Below z.val.heap.size z.val w') := fun z => nLeft_nil z.val
    have HC2 : Hid (∀ z : Later wr, Calls Try.prog 63 #[.pointer none] z.val fun e w' => e = .returned (.int .i64 0) ∧ Below z.val.heap.size z.val w') := fun z => rnLeft_nil z.val
    go_wp2
    refine wp_region_later (by kernel_rfl) (by kernel_rfl) ?_
    repeat (go_big_quiet_step (fail))
    go_big_quiet_step (exact later_of (HC1.out _))
    repeat (go_big_quiet_step (fail))
    go_big_quiet_step (exact later_of (HC2.out _))
    repeat (go_big_quiet_step (fail))
    refine wpQuiet_nil ?_
    rintro _ ⟨z, rfl⟩
    have hz := z.fresh
    go_wp2
    go_ret
    exact ⟨rfl, hz⟩
end Go.Proofs.Ytaalinlggjimcaa
namespace Go.Proofs.Ytaalinlggjimcaa
open Go.RowKit
/-! begun: what is new. -/
set_option maxHeartbeats 400000 in
theorem rpnew_nil (w : World) : Calls Try.prog 51 #[.pointer none] w fun e w' => e = .returned (.pointer none) ∧ w' = w := by
  go_enter Try.func51, Try.ntmps51
  go_wp2
  go_ret
  exact ⟨rfl, rfl⟩
theorem rc_new (w : World) (g S : Nat) : RcAt (w.alloc (.cells #[.pointer (some ⟨g, 0, none⟩), .slice none 0 0, .int .i64 0] 102)) 0 w.heap.size g (.slice none 0 0) [] S 0 (fun _ => none) (fun _ => 0) :=
  ⟨World.rowIs_alloc w #[.pointer (some ⟨g, 0, none⟩), .slice none 0 0, .int .i64 0] 102 _ (fun i hi => by
    match i, hi with
    | 0, _ => rfl
    | 1, _ => rfl
    | 2, _ => rfl), own_nil _ _ _ _ _, fun i hi => absurd hi (by simp)⟩
set_option maxHeartbeats 400000 in
theorem rpnew_ok (w : World) (g S : Nat) : Calls Try.prog 51 #[.pointer (some ⟨g, 0, none⟩)] w fun e w' => e = .returned (.pointer (some ⟨w.heap.size, 0, none⟩)) ∧ RcF w' (fun z => z = w.heap.size) w.heap.size g (.slice none 0 0) [] S 0 (fun _ => none) (fun _ => 0) ∧ Below w.heap.size w w' := by
  have H1 := hidd (rc_new w g S)
  go_enter Try.func51, Try.ntmps51
  go_wp2
  go_ret
  exact ⟨rfl, ⟨H1.out, rfl, fun z hz => by simp [Value.ownBlock] at hz, fun i hi => absurd hi (by simp), fun z hz => by rw [hz]; simp⟩, fresh_alloc _ _⟩
set_option maxHeartbeats 1600000 in
theorem new_badG (w : World) (B S : Int) (h : ¬ (1 ≤ B ∧ B ≤ 256 ∧ 1 ≤ S ∧ S ≤ 16)) : Calls Try.prog 16 #[.int .i64 1, .int .i64 1, .int .i64 B, .int .i64 S] w fun e w' => e = .returned (.tuple #[.pointer none, .int .i64 1]) ∧ w' = w := by
  have HA : Hid (Calls Try.prog 44 #[.int .i64 1, .int .i64 4] w fun e w' => e = .returned (.bool true) ∧ w' = w) := isMeasure_in 1 4 w (by omega)
  have HB : Hid (Calls Try.prog 44 #[.int .i64 1, .int .i64 32] w fun e w' => e = .returned (.bool true) ∧ w' = w) := isMeasure_in 1 32 w (by omega)
  by_cases hB : 1 ≤ B ∧ B ≤ 256
  · have hS : S < 1 ∨ 16 < S := by omega
    have HC : Hid (Calls Try.prog 44 #[.int .i64 B, .int .i64 256] w fun e w' => e = .returned (.bool true) ∧ w' = w) := by
      have := isMeasure_in B.toNat 256 w (by omega)
      rw [show ((B.toNat : Nat) : Int) = B by omega] at this
      exact this
    have HD := hidd (isMeasure_out S 16 w hS)
    clear h hS hB
    go_enter Try.func16, Try.ntmps16
    go_wp2_with (go_at_call 44; first
      | (with_reducible refine HD.out.mono ?_; rintro e w9 ⟨rfl, h9⟩; rw [h9]; clear h9)
      | (with_reducible refine HA.out.mono ?_; rintro e w9 ⟨rfl, h9⟩; rw [h9]; clear h9)
      | (with_reducible refine HB.out.mono ?_; rintro e w9 ⟨rfl, h9⟩; rw [h9]; clear h9)
      | (with_reducible refine HC.out.mono ?_; rintro e w9 ⟨rfl, h9⟩; rw [h9]; clear h9))
    go_ret2
    exact ⟨rfl, rfl⟩
  · have HC := hidd (isMeasure_out B 256 w (by omega))
    clear h hB
    go_enter Try.func16, Try.ntmps16
    go_wp2_with (go_at_call 44; first
      | (with_reducible refine HA.out.mono ?_; rintro e w9 ⟨rfl, h9⟩; rw [h9]; clear h9)
      | (with_reducible refine HB.out.mono ?_; rintro e w9 ⟨rfl, h9⟩; rw [h9]; clear h9)
      | (with_reducible refine HC.out.mono ?_; rintro e w9 ⟨rfl, h9⟩; rw [h9]; clear h9))
    go_ret2
    exact ⟨rfl, rfl⟩
theorem seven7 (w : World) (a b c d e f g : Value) : (w.alloc (.cells #[a, b, c, d, e, f, g] 63)).rowIs w.heap.size 63 7 (seven a b c d e f g) :=
  World.rowIs_alloc w #[a, b, c, d, e, f, g] 63 _ (fun i hi => by
    match i, hi with
    | 0, _ => rfl
    | 1, _ => rfl
    | 2, _ => rfl
    | 3, _ => rfl
    | 4, _ => rfl
    | 5, _ => rfl
    | 6, _ => rfl)
theorem seven_put {w : World} {p : Nat} {t : TypeId} {a b c d e f g u : Value} (h : w.rowIs p t 7 (seven a b c d e f g)) : (w.setCell ⟨p, 1, none⟩ u).rowIs p t 7 (seven a u c d e f g) ∧ (w.setCell ⟨p, 2, none⟩ u).rowIs p t 7 (seven a b u d e f g) ∧ (w.setCell ⟨p, 4, none⟩ u).rowIs p t 7 (seven a b c d u f g) ∧ (w.setCell ⟨p, 5, none⟩ u).rowIs p t 7 (seven a b c d e u g) ∧ (w.setCell ⟨p, 6, none⟩ u).rowIs p t 7 (seven a b c d e f u) := by
  refine ⟨(h.set 1 u).congr (fun i hi => ?_), (h.set 2 u).congr (fun i hi => ?_), (h.set 4 u).congr (fun i hi => ?_), (h.set 5 u).congr (fun i hi => ?_), (h.set 6 u).congr (fun i hi => ?_)⟩ <;>
  · match i, hi with
    | 0, _ => rfl
    | 1, _ => rfl
    | 2, _ => rfl
    | 3, _ => rfl
    | 4, _ => rfl
    | 5, _ => rfl
    | 6, _ => rfl
set_option maxRecDepth 20000 in
set_option maxHeartbeats 3200000 in
theorem begun_nil (w : World) (B S : Int) (h : ¬ (1 ≤ B ∧ B ≤ 256 ∧ 1 ≤ S ∧ S ≤ 16)) : Calls Try.prog 26 #[.int .i64 B, .int .i64 S] w fun e w' => e = .returned (.tuple #[.pointer (some ⟨w.heap.size, 0, none⟩), .bool true]) ∧ w'.rowIs w.heap.size 63 7 nilW ∧ Below w.heap.size w w' := by
  have HN1 := hidd (new_badG w B S h)
  have HN2 := hidd (rnew_bad w 1 1 B S (fun q => h ⟨q.2.2.2.2.1, q.2.2.2.2.2.1, q.2.2.2.2.2.2.1, q.2.2.2.2.2.2.2⟩))
  clear h
  have R0 := hidd (seven7 w (.pointer none) (.pointer none) (.pointer none) (.pointer none) (.pointer none) (.pointer none) (.slice none 0 0))
  have f0 := fresh_alloc w (.cells #[.pointer none, .pointer none, .pointer none, .pointer none, .pointer none, .pointer none, .slice none 0 0] 63)
  have HC1 : Hid (∀ w', Calls Try.prog 10 #[.pointer none] w' fun e w'' => e = .returned (.pointer none) ∧ w'' = w') := fun w' => pnew_nil w'
  have HC2 : Hid (∀ w', Calls Try.prog 51 #[.pointer none] w' fun e w'' => e = .returned (.pointer none) ∧ w'' = w') := fun w' => rpnew_nil w'
  go_enter Try.func26, Try.ntmps26
  go_wp2_with (first
    | (go_at_call 16; with_reducible refine HN1.out.mono ?_; rintro e w9 ⟨rfl, h9⟩; rw [h9]; clear h9)
    | (go_at_call 50; with_reducible refine HN2.out.mono ?_; rintro e w9 ⟨rfl, h9⟩; rw [h9]; clear h9))
  clear HN1 HN2
  go_loopw [11] (fun i wr => ∃ k : Nat, k ≤ 2 ∧ i = .int .i64 k ∧ Hid (wr.rowIs w.heap.size 63 7 (seven (.pointer none) (.pointer none) (.pointer none) (.pointer none) (.pointer none) (.pointer none) (.slice none 0 0))) ∧ Below w.heap.size w wr) (fun i _ => 2 - (intOf i).toNat)
  case atStart => exact ⟨0, by omega, rfl, R0.out, f0⟩
  case round =>
    clear R0 f0
    obtain ⟨k, hk, rfl, HR, hf⟩ := hrel
    have c1 : wr.cell? ⟨w.heap.size, 1, none⟩ = some (.pointer none) := HR.out.cell (i := 1) (by decide)
    have c2 : wr.cell? ⟨w.heap.size, 2, none⟩ = some (.pointer none) := HR.out.cell (i := 2) (by decide)
    have c4 : wr.cell? ⟨w.heap.size, 4, none⟩ = some (.pointer none) := HR.out.cell (i := 4) (by decide)
    have c5 : wr.cell? ⟨w.heap.size, 5, none⟩ = some (.pointer none) := HR.out.cell (i := 5) (by decide)
    have fz := HR.out.frozen
    by_cases hlt : k < 2
    · rcases (show k = 0 ∨ k = 1 by omega) with rfl | rfl
      · have HR1 := hidd (seven_put (u := .pointer none) HR.out).1
        have d4 : (wr.drew.setCell ⟨w.heap.size, 1, none⟩ (.pointer none)).cell? ⟨w.heap.size, 4, none⟩ = some (.pointer none) := HR1.out.cell (i := 4) (by decide)
        have fz4 : ∀ j, (wr.drew.setCell ⟨w.heap.size, 1, none⟩ (.pointer none)).frozen? ⟨w.heap.size, j, none⟩ = false := HR1.out.frozen
        have HR2 := hidd (seven_put (u := .pointer none) HR1.out).2.2.1
        go_wp2
        go_region_held3 (fun _ => True)
          (first | trivial)
          (first | (go_at_call 10; with_reducible refine (HC1.out _).mono ?_; rintro e w9 ⟨rfl, h9⟩; rw [h9]; clear h9))
        all_goals
          go_wp2
          go_region_held3 (fun _ => True)
            (first | trivial)
            (first | (go_at_call 51; with_reducible refine (HC2.out _).mono ?_; rintro e w9 ⟨rfl, h9⟩; rw [h9]; clear h9))
          all_goals
            go_wp2
            go_roundw
            case rel => exact ⟨1, by omega, by go_num, HR2.out, ((hf.drew.setCell (Nat.le_refl _) _).drew).setCell (Nat.le_refl _) _⟩
            case measure => simp [intOf]
      · have HR1 := hidd (seven_put (u := .pointer none) HR.out).2.1
        have d4 : (wr.drew.setCell ⟨w.heap.size, 2, none⟩ (.pointer none)).cell? ⟨w.heap.size, 5, none⟩ = some (.pointer none) := HR1.out.cell (i := 5) (by decide)
        have fz4 : ∀ j, (wr.drew.setCell ⟨w.heap.size, 2, none⟩ (.pointer none)).frozen? ⟨w.heap.size, j, none⟩ = false := HR1.out.frozen
        have HR2 := hidd (seven_put (u := .pointer none) HR1.out).2.2.2.1
        go_wp2
        go_region_held3 (fun _ => True)
          (first | trivial)
          (first | (go_at_call 10; with_reducible refine (HC1.out _).mono ?_; rintro e w9 ⟨rfl, h9⟩; rw [h9]; clear h9))
        all_goals
          go_wp2
          go_region_held3 (fun _ => True)
            (first | trivial)
            (first | (go_at_call 51; with_reducible refine (HC2.out _).mono ?_; rintro e w9 ⟨rfl, h9⟩; rw [h9]; clear h9))
          all_goals
            go_wp2
            go_roundw
            case rel => exact ⟨2, by omega, by go_num, HR2.out, ((hf.drew.setCell (Nat.le_refl _) _).drew).setCell (Nat.le_refl _) _⟩
            case measure => simp [intOf]
    · obtain rfl : k = 2 := by omega
      go_wp2
      go_quiet (fail)
      go_wp2
      go_ret2
      refine ⟨rfl, ((Chg.of_below (fun _ => False) (below_drewN (Below.refl _ _) _)).row HR.out id).congr (fun i hi => ?_), below_drewN hf _⟩
      match i, hi with
      | 0, _ => rfl
      | 1, _ => rfl
      | 2, _ => rfl
      | 3, _ => rfl
      | 4, _ => rfl
      | 5, _ => rfl
      | 6, _ => rfl
end Go.Proofs.Ytaalinlggjimcaa
namespace Go.Proofs.Ytaalinlggjimcaa
open Go.RowKit
/-! begun, where there is a pool. -/
def pN : Value := .pointer none
def bcs (X : Wx) (i j : Nat) : Nat → Value := seven (.pointer (some ⟨X.pg, 0, none⟩)) (if 0 < i then .pointer (some ⟨(X.c 0).C, 0, none⟩) else pN) (if 1 < i then .pointer (some ⟨(X.c 1).C, 0, none⟩) else pN) (.pointer (some ⟨X.x.g, 0, none⟩)) (if 0 < j then .pointer (some ⟨X.D 0, 0, none⟩) else pN) (if 1 < j then .pointer (some ⟨X.D 1, 0, none⟩) else pN) (.slice none 0 0)
structure Bg (w0 w : World) (X : Wx) (lab : Nat → Nat) (y : Ry) (i j : Nat) : Prop where
  pool : PoolAt w X.pg X.cb X.nb 1 1 X.B X.S (fun _ => 0) (fun _ => 0)
  lp : lab X.pg = 2 ∧ lab X.cb = 2 ∧ lab X.nb = 2
  ca : ∀ k, k < i → CacheAt w (X.c k) (fun z => lab z = 3 + k) [] 0
  cc : ∀ k, k < i → (X.c k).pg = X.pg ∧ (X.c k).S = X.S ∧ (X.c k).B = X.B
  ref : RefAt w X.x y
  lr : lab X.x.g = 5 ∧ lab X.x.cb = 5 ∧ lab X.x.kb = 5 ∧ lab X.x.vb = 5
  li : ∀ i, i < X.x.n → lab (y.ka i) = 5 ∧ lab (y.va i) = 5
  rc : ∀ k, k < j → ∃ v Ta Tc, RcF w (fun z => lab z = 6 + k) (X.D k) X.x.g v [] X.x.S 0 Ta Tc
  xx : X.x.B = X.B ∧ X.x.S = X.S ∧ X.x.L = 1 ∧ X.x.W = 1
  row : w.rowIs X.wd 63 7 (bcs X i j)
  lw : lab X.wd = 1
  low : ∀ z, lab z ≠ 0 → z < w.heap.size
  nw : ∀ z, lab z ≠ 0 → w0.heap.size ≤ z
  bel : Below w0.heap.size w0 w
  yc : y.cnt = fun _ => 0
  f3 : ∀ z k, i ≤ k → k < 2 → lab z ≠ 3 + k
  f6 : ∀ z k, j ≤ k → k < 2 → lab z ≠ 6 + k
theorem Bg.fresh {w0 w w' : World} {X : Wx} {lab : Nat → Nat} {y : Ry} {i j : Nat} (h : Bg w0 w X lab y i j) (f : Below w.heap.size w w') : Bg w0 w' X lab y i j := by
  have k := Chg.of_below (fun _ => False) f
  exact ⟨h.pool.fresh f, h.lp, fun k hk => (h.ca k hk).fresh f, h.cc, h.ref.fresh f, h.lr, h.li, fun k hk => by
    obtain ⟨v, Ta, Tc, hr⟩ := h.rc k hk
    exact ⟨v, Ta, Tc, hr.fresh f⟩, h.xx, k.row h.row id, h.lw, fun z hz => Nat.lt_of_lt_of_le (h.low z hz) f.size, h.nw, h.bel.trans (f.mono h.bel.size), h.yc, h.f3, h.f6⟩
theorem Bg.cacheP {w0 w w5 : World} {X : Wx} {lab : Nat → Nat} {y : Ry} {i j : Nat} (h : Bg w0 w X lab y i j) (hi : i < 2) {c : Ca} {A : Nat → Prop} (hc : CacheAt w5 c A [] 0) (c1 : c.pg = X.pg ∧ c.S = X.S ∧ c.B = X.B) (hA : ∀ z, A z → w.heap.size ≤ z) (f : Below w.heap.size w w5) :
    Bg w0 (w5.setCell ⟨X.wd, 1 + i, none⟩ (.pointer (some ⟨c.C, 0, none⟩))) { X with c := setF X.c i c } (relab lab w.heap.size A (3 + i)) y (i + 1) j := by
  have h5 := h.fresh f
  have k := Chg.of_set w5 X.wd (1 + i) (.pointer (some ⟨c.C, 0, none⟩))
  have lw := h.lw
  have wl : X.wd < w.heap.size := h.low _ (by omega)
  have hne : ∀ z, lab z ≠ 0 → lab z ≠ 1 → ¬ z = X.wd := fun z _ h1 e => h1 (by rw [e]; exact lw)
  obtain ⟨l1, l2, l3⟩ := h.lp
  obtain ⟨a, b, c', d⟩ := h.lr
  have oth : ∀ u, u ≠ 0 → u ≠ 3 + i → ∀ z, relab lab w.heap.size A (3 + i) z = u ↔ lab z = u := fun u h0 h1 => relab_other h.low h0 h1
  have this : ∀ z, relab lab w.heap.size A (3 + i) z = 3 + i ↔ A z := relab_this (A := fun z => lab z = 3 + i) (fun _ => Iff.rfl) (fun z hz => absurd hz (h.f3 z i (Nat.le_refl _) hi)) (fun z hz => .inr (hA z hz))
  refine ⟨h5.pool.chg k (hne _ (by omega) (by omega)) (hne _ (by omega) (by omega)) (hne _ (by omega) (by omega)), ⟨(oth 2 (by omega) (by omega) _).2 l1, (oth 2 (by omega) (by omega) _).2 l2, (oth 2 (by omega) (by omega) _).2 l3⟩, fun q hq => ?_, fun q hq => ?_, h5.ref.chg k (hne _ (by omega) (by omega)) (hne _ (by omega) (by omega)) (hne _ (by omega) (by omega)) (hne _ (by omega) (by omega)) (fun t ht => hne _ (by have := (h.li t ht).1; omega) (by have := (h.li t ht).1; omega)) (fun t ht => hne _ (by have := (h.li t ht).2; omega) (by have := (h.li t ht).2; omega)), ⟨(oth 5 (by omega) (by omega) _).2 a, (oth 5 (by omega) (by omega) _).2 b, (oth 5 (by omega) (by omega) _).2 c', (oth 5 (by omega) (by omega) _).2 d⟩, fun t ht => ⟨(oth 5 (by omega) (by omega) _).2 (h.li t ht).1, (oth 5 (by omega) (by omega) _).2 (h.li t ht).2⟩, fun q hq => ?_, h.xx, ?_, (oth 1 (by omega) (by omega) _).2 lw, fun z hz => ?_, fun z hz => ?_, h5.bel.setCell (h.nw X.wd (by omega)) _, h.yc, fun z q h1 h2 e => ?_, fun z q h1 h2 e => ?_⟩
  · by_cases e : q = i
    · subst e
      show CacheAt _ (setF X.c q c q) _ _ _
      rw [setF_at]
      have : (fun z => relab lab w.heap.size A (3 + q) z = 3 + q) = A := funext fun z => propext (this z)
      rw [this]
      exact hc.chg k (fun z hz e => by have := hA z hz; have e : z = X.wd := e; omega)
    · show CacheAt _ (setF X.c i c q) _ _ _
      rw [setF_ne _ _ e]
      have : (fun z => relab lab w.heap.size A (3 + i) z = 3 + q) = (fun z => lab z = 3 + q) := funext fun z => propext (oth (3 + q) (by omega) (by omega) z)
      rw [this]
      exact (h5.ca q (by omega)).chg k (fun z hz e => by have hz : lab z = 3 + q := hz; have e : z = X.wd := e; rw [e] at hz; omega)
  · by_cases e : q = i
    · subst e
      show (setF X.c q c q).pg = _ ∧ (setF X.c q c q).S = _ ∧ (setF X.c q c q).B = _
      rw [setF_at]
      exact c1
    · show (setF X.c i c q).pg = _ ∧ (setF X.c i c q).S = _ ∧ (setF X.c i c q).B = _
      rw [setF_ne _ _ e]
      exact h.cc q (by omega)
  · obtain ⟨v, Ta, Tc, hr⟩ := h5.rc q hq
    have : (fun z => relab lab w.heap.size A (3 + i) z = 6 + q) = (fun z => lab z = 6 + q) := funext fun z => propext (by
      by_cases e : 6 + q = 3 + i
      · omega
      · exact oth (6 + q) (by omega) e z)
    rw [this]
    exact ⟨v, Ta, Tc, hr.chg k (fun z hz e => by have hz : lab z = 6 + q := hz; have e : z = X.wd := e; rw [e] at hz; omega)⟩
  · have hi2 : i = 0 ∨ i = 1 := by omega
    rcases hi2 with rfl | rfl
    · have := (seven_put (u := .pointer (some ⟨c.C, 0, none⟩)) h5.row).1
      unfold bcs
      simp only [setF_at, setF_ne _ _ (show (1 : Nat) ≠ 0 by decide)]
      exact this
    · have := (seven_put (u := .pointer (some ⟨c.C, 0, none⟩)) h5.row).2.1
      unfold bcs
      simp only [setF_at, setF_ne _ _ (show (0 : Nat) ≠ 1 by decide)]
      exact this
  · exact relab_low h.low (by have := f.size; have := k.size; omega) (fun z hz => Nat.lt_of_lt_of_le (hc.low z hz) k.size) z hz
  · unfold relab at hz
    by_cases e : w.heap.size ≤ z ∧ A z
    · have := h.bel.size; omega
    · rw [if_neg e] at hz
      exact h.nw z hz
  · rw [oth (3 + q) (by omega) (by omega)] at e
    exact h.f3 z q (by omega) h2 e
  · by_cases e2 : 6 + q = 3 + i
    · omega
    · rw [oth (6 + q) (by omega) e2] at e
      exact h.f6 z q h1 h2 e
theorem Bg.cacheR {w0 w w5 : World} {X : Wx} {lab : Nat → Nat} {y : Ry} {i j D : Nat} (h : Bg w0 w X lab y i j) (hi2 : i ≤ 2) (hj : j < 2) (hD : w.heap.size ≤ D) {v : Value} {Ta : Nat → Option Addr} {Tc : Nat → Nat} (hc : RcF w5 (fun z => z = D) D X.x.g v [] X.x.S 0 Ta Tc) (f : Below w.heap.size w w5) :
    Bg w0 (w5.setCell ⟨X.wd, 4 + j, none⟩ (.pointer (some ⟨D, 0, none⟩))) { X with D := setF X.D j D } (relab lab w.heap.size (fun z => z = D) (6 + j)) y i (j + 1) := by
  have h5 := h.fresh f
  have k := Chg.of_set w5 X.wd (4 + j) (.pointer (some ⟨D, 0, none⟩))
  have lw := h.lw
  have wl : X.wd < w.heap.size := h.low _ (by omega)
  have hne : ∀ z, lab z ≠ 0 → lab z ≠ 1 → ¬ z = X.wd := fun z _ h1 e => h1 (by rw [e]; exact lw)
  obtain ⟨l1, l2, l3⟩ := h.lp
  obtain ⟨a, b, c', d⟩ := h.lr
  have oth : ∀ u, u ≠ 0 → u ≠ 6 + j → ∀ z, relab lab w.heap.size (fun z => z = D) (6 + j) z = u ↔ lab z = u := fun u h0 h1 => relab_other h.low h0 h1
  have this : ∀ z, relab lab w.heap.size (fun z => z = D) (6 + j) z = 6 + j ↔ z = D := relab_this (A := fun z => lab z = 6 + j) (A' := fun z => z = D) (fun _ => Iff.rfl) (fun z hz => absurd hz (h.f6 z j (Nat.le_refl _) hj)) (fun z hz => .inr (by rw [hz]; exact hD))
  refine ⟨h5.pool.chg k (hne _ (by omega) (by omega)) (hne _ (by omega) (by omega)) (hne _ (by omega) (by omega)), ⟨(oth 2 (by omega) (by omega) _).2 l1, (oth 2 (by omega) (by omega) _).2 l2, (oth 2 (by omega) (by omega) _).2 l3⟩, fun q hq => ?_, h.cc, h5.ref.chg k (hne _ (by omega) (by omega)) (hne _ (by omega) (by omega)) (hne _ (by omega) (by omega)) (hne _ (by omega) (by omega)) (fun t ht => hne _ (by have := (h.li t ht).1; omega) (by have := (h.li t ht).1; omega)) (fun t ht => hne _ (by have := (h.li t ht).2; omega) (by have := (h.li t ht).2; omega)), ⟨(oth 5 (by omega) (by omega) _).2 a, (oth 5 (by omega) (by omega) _).2 b, (oth 5 (by omega) (by omega) _).2 c', (oth 5 (by omega) (by omega) _).2 d⟩, fun t ht => ⟨(oth 5 (by omega) (by omega) _).2 (h.li t ht).1, (oth 5 (by omega) (by omega) _).2 (h.li t ht).2⟩, fun q hq => ?_, h.xx, ?_, (oth 1 (by omega) (by omega) _).2 lw, fun z hz => ?_, fun z hz => ?_, h5.bel.setCell (h.nw X.wd (by omega)) _, h.yc, fun z q h1 h2 e => ?_, fun z q h1 h2 e => ?_⟩
  · have : (fun z => relab lab w.heap.size (fun z => z = D) (6 + j) z = 3 + q) = (fun z => lab z = 3 + q) := funext fun z => propext (by
      by_cases e : 3 + q = 6 + j
      · omega
      · exact oth (3 + q) (by omega) e z)
    rw [this]
    exact (h5.ca q hq).chg k (fun z hz e => by have hz : lab z = 3 + q := hz; have e : z = X.wd := e; rw [e] at hz; omega)
  · by_cases e : q = j
    · subst e
      show ∃ v Ta Tc, RcF _ _ (setF X.D q D q) _ _ _ _ _ _ _
      rw [setF_at]
      have : (fun z => relab lab w.heap.size (fun z => z = D) (6 + q) z = 6 + q) = (fun z => z = D) := funext fun z => propext (this z)
      rw [this]
      exact ⟨v, Ta, Tc, hc.chg k (fun z hz e => by have hz : z = D := hz; have e : z = X.wd := e; omega)⟩
    · show ∃ v Ta Tc, RcF _ _ (setF X.D j D q) _ _ _ _ _ _ _
      rw [setF_ne _ _ e]
      obtain ⟨v, Ta, Tc, hr⟩ := h5.rc q (by omega)
      have : (fun z => relab lab w.heap.size (fun z => z = D) (6 + j) z = 6 + q) = (fun z => lab z = 6 + q) := funext fun z => propext (oth (6 + q) (by omega) (by omega) z)
      rw [this]
      exact ⟨v, Ta, Tc, hr.chg k (fun z hz e => by have hz : lab z = 6 + q := hz; have e : z = X.wd := e; rw [e] at hz; omega)⟩
  · have hj2 : j = 0 ∨ j = 1 := by omega
    rcases hj2 with rfl | rfl
    · have := (seven_put (u := .pointer (some ⟨D, 0, none⟩)) h5.row).2.2.1
      unfold bcs
      simp only [setF_at, setF_ne _ _ (show (1 : Nat) ≠ 0 by decide)]
      exact this
    · have := (seven_put (u := .pointer (some ⟨D, 0, none⟩)) h5.row).2.2.2.1
      unfold bcs
      simp only [setF_at, setF_ne _ _ (show (0 : Nat) ≠ 1 by decide)]
      exact this
  · exact relab_low h.low (by have := f.size; have := k.size; omega) (fun z hz => Nat.lt_of_lt_of_le (hc.low z hz) k.size) z hz
  · unfold relab at hz
    by_cases e : w.heap.size ≤ z ∧ z = D
    · have := h.bel.size; omega
    · rw [if_neg e] at hz
      exact h.nw z hz
  · by_cases e2 : 3 + q = 6 + j
    · omega
    · rw [oth (3 + q) (by omega) e2] at e
      exact h.f3 z q h1 h2 e
  · rw [oth (6 + q) (by omega) (by omega)] at e
    exact h.f6 z q (by omega) h2 e
/-- the state that begun leaves -/
theorem Bg.done {w0 w : World} {X : Wx} {lab : Nat → Nat} {y : Ry} (h : Bg w0 w X lab y 2 2) : St ((w.alloc (.cells (madeCells #[.int .i64 0] X.B) 3)).setCell ⟨X.wd, 6, none⟩ (.slice (some ⟨w.heap.size, 0, none⟩) X.B X.B)) { X with mb := w.heap.size } (relab lab w.heap.size (fun z => z = w.heap.size) 1) (fun _ => []) (fun _ => 0) (fun _ => 0) y (fun _ => 0) 0 ∧ (∀ z, relab lab w.heap.size (fun z => z = w.heap.size) 1 z ≠ 0 → w0.heap.size ≤ z) ∧ Below w0.heap.size w0 ((w.alloc (.cells (madeCells #[.int .i64 0] X.B) 3)).setCell ⟨X.wd, 6, none⟩ (.slice (some ⟨w.heap.size, 0, none⟩) X.B X.B)) := by
  have f := fresh_alloc w (.cells (madeCells #[.int .i64 0] X.B) 3)
  have hr := World.rowIs_made w (.int .i64 0) X.B 3
  have h5 := h.fresh f
  have k := Chg.of_set (w.alloc (.cells (madeCells #[.int .i64 0] X.B) 3)) X.wd 6 (.slice (some ⟨w.heap.size, 0, none⟩) X.B X.B)
  have lw := h.lw
  have wl : X.wd < w.heap.size := h.low _ (by omega)
  have hne : ∀ z, lab z ≠ 0 → lab z ≠ 1 → ¬ z = X.wd := fun z _ h1 e => h1 (by rw [e]; exact lw)
  obtain ⟨l1, l2, l3⟩ := h.lp
  obtain ⟨a, b, c', d⟩ := h.lr
  have oth : ∀ u, u ≠ 0 → u ≠ 1 → ∀ z, relab lab w.heap.size (fun z => z = w.heap.size) 1 z = u ↔ lab z = u := fun u h0 h1 => relab_other h.low h0 h1
  have hps : PS (w.alloc (.cells (madeCells #[.int .i64 0] X.B) 3)) { X with mb := w.heap.size } lab (fun _ => []) (fun _ => 0) (fun _ => 0) (fun _ => 0) := ⟨h5.pool, h.lp, fun q hq => h5.ca q hq, fun q hq => h.cc q hq⟩
  have hrs : RS (w.alloc (.cells (madeCells #[.int .i64 0] X.B) 3)) { X with mb := w.heap.size } lab (fun _ => []) (fun _ => 0) y := ⟨h5.ref, h.lr, h.li, fun q hq => h5.rc q hq, h.xx⟩
  refine ⟨⟨?_, ?_, ⟨?_, ?_, ⟨?_, ?_⟩, fun z hz => ?_⟩, ?_⟩, fun z hz => ?_, (h5.bel.setCell (h.nw X.wd (by omega)) _)⟩
  · rw [h.yc]
    exact (hps.chg k (fun z e => by rw [e]; omega)).relab (fun u h1 h2 => oth u (by omega) (by omega))
  · exact (hrs.chg k (fun z e => by rw [e]; omega)).relab (fun u h1 h2 => oth u (by omega) (by omega))
  · have := (seven_put (u := .slice (some ⟨w.heap.size, 0, none⟩) X.B X.B) h5.row).2.2.2.2
    refine this.congr (fun q hq => ?_)
    match q, hq with
    | 0, _ => rfl
    | 1, _ => rfl
    | 2, _ => rfl
    | 3, _ => rfl
    | 4, _ => rfl
    | 5, _ => rfl
    | 6, _ => rfl
  · exact k.row hr (fun e => by have e : w.heap.size = X.wd := e; omega)
  · show relab lab w.heap.size (fun z => z = w.heap.size) 1 X.wd = 1
    rw [relab_old wl]; exact lw
  · show relab lab w.heap.size (fun z => z = w.heap.size) 1 w.heap.size = 1
    unfold relab
    rw [if_pos ⟨Nat.le_refl _, rfl⟩]
  · exact relab_low h.low (Nat.le_trans f.size k.size) (fun z hz => Nat.lt_of_lt_of_le (by rw [hz]; exact hr.lt) k.size) z hz
  · rw [h.yc]
    exact ⟨fun q hq x hx => (by cases hx), fun q hq => Tie.nil, fun b => by simp [hs], fun q hq => Nat.le_refl _, fun b => Nat.le_refl _, fun _ _ _ => rfl⟩
  · unfold relab at hz
    by_cases e : w.heap.size ≤ z ∧ z = w.heap.size
    · have := h.bel.size; omega
    · rw [if_neg e] at hz
      exact h.nw z hz
end Go.Proofs.Ytaalinlggjimcaa
namespace Go.Proofs.Ytaalinlggjimcaa
open Go.RowKit
/-! begun: the walk. -/
open Classical in
theorem bg_start (Z : Nat → Prop) {w w1 w2 : World} {B S g cb nb : Nat} {x : Rx} {ka va kx vx : Nat → Nat} (hp : PoolAt w1 g cb nb 1 1 B S (fun _ => 0) (fun _ => 0)) (hg : w.heap.size ≤ g ∧ w.heap.size ≤ cb ∧ w.heap.size ≤ nb) (f1 : Below w.heap.size w w1) (x1 : x.g = w1.heap.size) (x2 : x.L = 1) (x3 : x.W = 1) (x4 : x.B = B) (x5 : x.S = S) (x6 : w1.heap.size ≤ x.cb) (x7 : w1.heap.size ≤ x.kb) (x8 : w1.heap.size ≤ x.vb) (hr : RefAt w2 x ⟨fun _ => 0, fun _ => 0, ka, va, kx, vx⟩) (f2 : Below w1.heap.size w1 w2) (x9 : ∀ u, u < x.n → w1.heap.size ≤ ka u ∧ w1.heap.size ≤ va u) :
    ∃ lab, Bg w (w2.alloc (.cells #[.pointer (some ⟨g, 0, none⟩), .pointer none, .pointer none, .pointer (some ⟨x.g, 0, none⟩), .pointer none, .pointer none, .slice none 0 0] 63)) ⟨w2.heap.size, 0, g, cb, nb, B, S, fun _ => ⟨0, 0, 0, 0, 0, 0⟩, x, fun _ => 0, Z⟩ lab ⟨fun _ => 0, fun _ => 0, ka, va, kx, vx⟩ 0 0 := by
  have hn := fresh_alloc w2 (.cells #[.pointer (some ⟨g, 0, none⟩), .pointer none, .pointer none, .pointer (some ⟨x.g, 0, none⟩), .pointer none, .pointer none, .slice none 0 0] 63)
  have hrow := seven7 w2 (.pointer (some ⟨g, 0, none⟩)) (.pointer none) (.pointer none) (.pointer (some ⟨x.g, 0, none⟩)) (.pointer none) (.pointer none) (.slice none 0 0)
  have p1 := hp.row.lt
  have p2 := hp.cnts.lt
  have p3 := hp.nums.lt
  have lo := hr.lows
  have q1 := Nat.not_le.1 lo.g
  have q2 := Nat.not_le.1 lo.cb
  have q3 := Nat.not_le.1 lo.kb
  have q4 := Nat.not_le.1 lo.vb
  have s1 := f1.size
  have s2 := f2.size
  let Rf : Nat → Prop := fun z => z = x.g ∨ z = x.cb ∨ z = x.kb ∨ z = x.vb ∨ ∃ i, i < x.n ∧ (z = ka i ∨ z = va i)
  have hRf : ∀ z, Rf z → w1.heap.size ≤ z ∧ z < w2.heap.size := fun z hz => by
    rcases hz with e | e | e | e | ⟨i, hi, e | e⟩
    · omega
    · omega
    · omega
    · omega
    · have := (x9 i hi).1; have := Nat.not_le.1 (lo.ka i hi); exact ⟨by omega, by rw [e]; exact this⟩
    · have := (x9 i hi).2; have := Nat.not_le.1 (lo.va i hi); exact ⟨by omega, by rw [e]; exact this⟩
  let lab : Nat → Nat := fun z => if z = g ∨ z = cb ∨ z = nb then 2 else if Rf z then 5 else if z = w2.heap.size then 1 else 0
  have l2 : ∀ z, (z = g ∨ z = cb ∨ z = nb) → lab z = 2 := fun z hz => if_pos hz
  have l5 : ∀ z, Rf z → lab z = 5 := fun z hz => by
    have := hRf z hz
    show (if z = g ∨ z = cb ∨ z = nb then 2 else if Rf z then 5 else if z = w2.heap.size then 1 else 0) = 5
    rw [if_neg (by omega), if_pos hz]
  have l1 : lab w2.heap.size = 1 := by
    show (if w2.heap.size = g ∨ w2.heap.size = cb ∨ w2.heap.size = nb then 2 else if Rf w2.heap.size then 5 else if w2.heap.size = w2.heap.size then 1 else 0) = 1
    rw [if_neg (by omega), if_neg (fun q => by have := hRf _ q; omega), if_pos rfl]
  have lc : ∀ z, lab z ≠ 0 → (z = g ∨ z = cb ∨ z = nb) ∨ Rf z ∨ z = w2.heap.size := fun z hz => by
    by_cases e1 : z = g ∨ z = cb ∨ z = nb
    · exact .inl e1
    · by_cases e2 : Rf z
      · exact .inr (.inl e2)
      · by_cases e3 : z = w2.heap.size
        · exact .inr (.inr e3)
        · refine absurd ?_ hz
          show (if z = g ∨ z = cb ∨ z = nb then 2 else if Rf z then 5 else if z = w2.heap.size then 1 else 0) = 0
          rw [if_neg e1, if_neg e2, if_neg e3]
  have lv : ∀ z, lab z = 0 ∨ lab z = 1 ∨ lab z = 2 ∨ lab z = 5 := fun z => by
    show (if z = g ∨ z = cb ∨ z = nb then 2 else if Rf z then 5 else if z = w2.heap.size then 1 else 0) = 0 ∨ (if z = g ∨ z = cb ∨ z = nb then 2 else if Rf z then 5 else if z = w2.heap.size then 1 else 0) = 1 ∨ (if z = g ∨ z = cb ∨ z = nb then 2 else if Rf z then 5 else if z = w2.heap.size then 1 else 0) = 2 ∨ (if z = g ∨ z = cb ∨ z = nb then 2 else if Rf z then 5 else if z = w2.heap.size then 1 else 0) = 5
    split
    · omega
    · split
      · omega
      · split <;> omega
  have hlow : ∀ z, lab z ≠ 0 → z ≤ w2.heap.size ∧ w.heap.size ≤ z := fun z hz => by
    rcases lc z hz with e | e | e
    · omega
    · have := hRf z e; omega
    · omega
  refine ⟨lab, ⟨(hp.fresh f2).fresh hn, ⟨l2 _ (.inl rfl), l2 _ (.inr (.inl rfl)), l2 _ (.inr (.inr rfl))⟩, fun k hk => absurd hk (by omega), fun k hk => absurd hk (by omega), hr.fresh hn, ⟨l5 _ (.inl rfl), l5 _ (.inr (.inl rfl)), l5 _ (.inr (.inr (.inl rfl))), l5 _ (.inr (.inr (.inr (.inl rfl))))⟩, fun i hi => ⟨l5 _ (.inr (.inr (.inr (.inr ⟨i, hi, .inl rfl⟩)))), l5 _ (.inr (.inr (.inr (.inr ⟨i, hi, .inr rfl⟩))))⟩, fun k hk => absurd hk (by omega), ⟨x4, x5, x2, x3⟩, hrow, l1, fun z hz => ?_, fun z hz => (hlow z hz).2, f1.trans ((f2.trans (hn.mono f2.size)).mono f1.size), rfl, fun z k _ hk e => by have := lv z; omega, fun z k _ hk e => by have := lv z; omega⟩⟩
  have h1 := (hlow z hz).1
  have h2 := hrow.lt
  omega
theorem bcs_c {X : Wx} {k : Nat} (h : k < 2) : bcs X k k (1 + k) = .pointer none := by
  rcases (show k = 0 ∨ k = 1 by omega) with rfl | rfl <;> rfl
theorem bcs_d {X : Wx} {k : Nat} (h : k < 2) : bcs X (k + 1) k (4 + k) = .pointer none := by
  rcases (show k = 0 ∨ k = 1 by omega) with rfl | rfl <;> rfl
def BegP (w : World) (B S : Nat) (Z : Nat → Prop) (e : Ending) (w' : World) : Prop := ∃ X lab y, e = .returned (.tuple #[.pointer (some ⟨X.wd, 0, none⟩), .bool true]) ∧ X.B = B ∧ X.S = S ∧ X.Z = Z ∧ St w' X lab (fun _ => []) (fun _ => 0) (fun _ => 0) y (fun _ => 0) 0 ∧ (∀ z, lab z ≠ 0 → w.heap.size ≤ z) ∧ Below w.heap.size w w'
set_option maxRecDepth 20000 in
set_option maxHeartbeats 6400000 in
theorem begun_ok (Z : Nat → Prop) (w : World) {B S : Nat} (hB : 1 ≤ B ∧ B ≤ 256) (hS : 1 ≤ S ∧ S ≤ 16) : Calls Try.prog 26 #[.int .i64 (B : Int), .int .i64 (S : Int)] w (BegP w B S Z) := by
  have HN1 : Hid (Calls Try.prog 16 #[.int .i64 1, .int .i64 1, .int .i64 (B : Int), .int .i64 (S : Int)] w fun e w' => ∃ g cb nb, e = .returned (.tuple #[.pointer (some ⟨g, 0, none⟩), .int .i64 0]) ∧ PoolAt w' g cb nb 1 1 B S (fun _ => 0) (fun _ => 0) ∧ (w.heap.size ≤ g ∧ w.heap.size ≤ cb ∧ w.heap.size ≤ nb) ∧ Below w.heap.size w w') := new_any (L := 1) (W := 1) w (by omega) (by omega) hB hS
  have HN2 : Hid (∀ w1, Calls Try.prog 50 #[.int .i64 1, .int .i64 1, .int .i64 (B : Int), .int .i64 (S : Int)] w1 fun e w' => e = .returned (.tuple #[.pointer (some ⟨w1.heap.size, 0, none⟩), .int .i64 0]) ∧ Hid (∃ (x : Rx) (ka va kx vx : Nat → Nat), x.g = w1.heap.size ∧ x.L = 1 ∧ x.W = 1 ∧ x.B = B ∧ x.S = S ∧ w1.heap.size ≤ x.cb ∧ w1.heap.size ≤ x.kb ∧ w1.heap.size ≤ x.vb ∧ RefAt w' x ⟨fun _ => 0, fun _ => 0, ka, va, kx, vx⟩ ∧ Below w1.heap.size w1 w' ∧ (∀ u, u < x.n → w1.heap.size ≤ ka u ∧ w1.heap.size ≤ va u))) := fun w1 => rnew_ok (L := 1) (W := 1) w1 (by omega) (by omega) hB hS
  obtain ⟨iI, hiI, zI0, zI1, zI2⟩ := info_parts infoI
  have hmk : ∀ w, (Instr.makeSlice 22 (.int .i64 (B : Int)) (.int .i64 (B : Int))).run Try.prog w = .ok (.slice (some ⟨w.heap.size, 0, none⟩) B B) (w.alloc (.cells (madeCells #[.int .i64 0] B) 3)) := run_make_row 22 3 iI (.int .i64 0) Try.underlying22 hiI zI0 zI1 rfl .i64 .i64 B (by rw [zI2]; omega) (by omega)
  clear hiI zI0 zI1 zI2
  go_enter Try.func26, Try.ntmps26
  go_wp2_with (first
    | (go_at_call 16; with_reducible refine HN1.out.mono ?_; rintro e w1 ⟨g, cb, nb, rfl, hp, hg, f1⟩)
    | (go_at_call 50; with_reducible refine (HN2.out w1).mono ?_; rintro e w2 ⟨rfl, H2⟩))
  obtain ⟨x, ka, va, kx, vx, x1, x2, x3, x4, x5, x6, x7, x8, hr, f2, x9⟩ := H2.out
  obtain ⟨lab, hbg⟩ := bg_start Z hp hg f1 x1 x2 x3 x4 x5 x6 x7 x8 hr f2 x9
  rw [x1] at hbg
  obtain ⟨xg, hxg⟩ : ∃ xg, w1.heap.size = xg := ⟨_, rfl⟩
  obtain ⟨wd, hwd⟩ : ∃ wd, w2.heap.size = wd := ⟨_, rfl⟩
  rw [hxg, hwd] at hbg
  rw [hxg] at x1
  have HBG := hidd hbg
  have HX1 := hidd x1
  rw [hxg, hwd]
  clear HN1 HN2 H2 hbg hr x9 hp hg x1 x2 x3 x4 x5 x6 x7 x8 hxg hwd
  go_loopw [11] (fun i wr => ∃ (k : Nat) (X : Wx) (lab : Nat → Nat) (y : Ry), k ≤ 2 ∧ i = .int .i64 k ∧ Hid (X.wd = wd ∧ X.pg = g ∧ X.x.g = xg ∧ X.B = B ∧ X.S = S ∧ X.Z = Z ∧ Bg w wr X lab y k k)) (fun i _ => 2 - (intOf i).toNat)
  case atStart => exact ⟨0, ⟨wd, 0, g, cb, nb, B, S, fun _ => ⟨0, 0, 0, 0, 0, 0⟩, x, fun _ => 0, Z⟩, lab, ⟨fun _ => 0, fun _ => 0, ka, va, kx, vx⟩, by omega, rfl, rfl, rfl, HX1.out, rfl, rfl, rfl, HBG.out⟩
  case round =>
    clear HBG HX1
    obtain ⟨k, X, lab, y, hk, rfl, HB⟩ := hrel
    obtain ⟨rfl, rfl, rfl, rfl, rfl, rfl, hbg⟩ := HB.out
    by_cases hlt : k < 2
    · have f0 : Below wr.heap.size wr wr.drew := (Below.refl _ _).drew
      have HC : Hid (Calls Try.prog 10 #[.pointer (some ⟨X.pg, 0, none⟩)] wr.drew fun e w5 => ∃ cC, e = .returned (.pointer (some ⟨cC, 0, none⟩)) ∧ w5.cell? ⟨X.wd, 1 + k, none⟩ = some (.pointer none) ∧ (∀ j, w5.frozen? ⟨X.wd, j, none⟩ = false) ∧ Hid (∃ X' lab', (X'.wd = X.wd ∧ X'.pg = X.pg ∧ X'.x = X.x ∧ X'.B = X.B ∧ X'.S = X.S ∧ X'.Z = X.Z) ∧ Bg w (w5.setCell ⟨X.wd, 1 + k, none⟩ (.pointer (some ⟨cC, 0, none⟩))) X' lab' y (k + 1) k)) := by
        have hb0 := hbg.fresh f0
        refine (pnew_any hb0.pool).mono ?_
        rintro e w5 ⟨c, A, rfl, c1, c2, c3, hc, hA, f5⟩
        have hb5 := hb0.fresh f5
        exact ⟨c.C, rfl, by rw [hb5.row.cell (i := 1 + k) (by omega), bcs_c hlt], hb5.row.frozen, { X with c := setF X.c k c }, relab lab wr.drew.heap.size A (3 + k), ⟨rfl, rfl, rfl, rfl, rfl, rfl⟩, hb0.cacheP hlt hc ⟨c1, c2, c3⟩ hA f5⟩
      have HD : Hid (∀ w6 X' lab', (X'.wd = X.wd ∧ X'.pg = X.pg ∧ X'.x = X.x ∧ X'.B = X.B ∧ X'.S = X.S ∧ X'.Z = X.Z) → Bg w w6 X' lab' y (k + 1) k → Calls Try.prog 51 #[.pointer (some ⟨X.x.g, 0, none⟩)] w6.drew fun e w7 => ∃ D, e = .returned (.pointer (some ⟨D, 0, none⟩)) ∧ w7.cell? ⟨X.wd, 4 + k, none⟩ = some (.pointer none) ∧ (∀ j, w7.frozen? ⟨X.wd, j, none⟩ = false) ∧ Hid (∃ X2 lab2, (X2.wd = X.wd ∧ X2.pg = X.pg ∧ X2.x.g = X.x.g ∧ X2.B = X.B ∧ X2.S = X.S ∧ X2.Z = X.Z) ∧ Bg w (w7.setCell ⟨X.wd, 4 + k, none⟩ (.pointer (some ⟨D, 0, none⟩))) X2 lab2 y (k + 1) (k + 1))) := fun w6 X' lab' hX hb6 => by
        obtain ⟨e1, e2, e3, e4, e5, e6⟩ := hX
        have f6 : Below w6.heap.size w6 w6.drew := (Below.refl _ _).drew
        have hb0 := hb6.fresh f6
        rw [← e3]
        refine (rpnew_ok w6.drew X'.x.g X'.x.S).mono ?_
        rintro e w7 ⟨rfl, hc, f7⟩
        have hb7 := hb0.fresh f7
        refine ⟨_, rfl, by rw [← e1, hb7.row.cell (i := 4 + k) (by omega), bcs_d hlt], by rw [← e1]; exact hb7.row.frozen, { X' with D := setF X'.D k w6.drew.heap.size }, relab lab' w6.drew.heap.size (fun z => z = w6.drew.heap.size) (6 + k), ⟨e1, e2, rfl, e4, e5, e6⟩, ?_⟩
        rw [← e1]
        exact hb0.cacheR (by omega) hlt (Nat.le_refl _) hc f7
      clear hbg HB
      rcases (show k = 0 ∨ k = 1 by omega) with rfl | rfl
      · simp only [Nat.add_zero, Nat.reduceAdd] at HC HD
        go_wp2
        go_region_held3 (fun _ => True)
          (first | trivial)
          (first | (go_at_call 10; with_reducible refine HC.out.mono ?_; rintro e w5 ⟨cC, rfl, k5, kf, A5⟩))
        all_goals
          obtain ⟨X', lab', hX, hb6⟩ := A5.out
          have HD' := hidd (HD.out _ X' lab' hX hb6)
          clear HC A5 hb6 k5
          generalize w5.setCell ⟨X.wd, 1, none⟩ (.pointer (some ⟨cC, 0, none⟩)) = w6 at *
          go_wp2
          go_region_held3 (fun _ => True)
            (first | trivial)
            (first | (go_at_call 51; with_reducible refine HD'.out.mono ?_; rintro e w7 ⟨D, rfl, k7, kg, A7⟩))
          all_goals
            go_wp2
            go_roundw
            case rel =>
              obtain ⟨X2, lab2, ⟨h1, h2, h3, h4, h5, h6⟩, hb8⟩ := A7.out
              exact ⟨1, X2, lab2, y, by omega, by go_num, h1, h2, h3, h4, h5, h6, hb8⟩
            case measure => simp [intOf]
      · simp only [Nat.reduceAdd] at HC HD
        go_wp2
        go_region_held3 (fun _ => True)
          (first | trivial)
          (first | (go_at_call 10; with_reducible refine HC.out.mono ?_; rintro e w5 ⟨cC, rfl, k5, kf, A5⟩))
        all_goals
          obtain ⟨X', lab', hX, hb6⟩ := A5.out
          have HD' := hidd (HD.out _ X' lab' hX hb6)
          clear HC A5 hb6 k5
          generalize w5.setCell ⟨X.wd, 2, none⟩ (.pointer (some ⟨cC, 0, none⟩)) = w6 at *
          go_wp2
          go_region_held3 (fun _ => True)
            (first | trivial)
            (first | (go_at_call 51; with_reducible refine HD'.out.mono ?_; rintro e w7 ⟨D, rfl, k7, kg, A7⟩))
          all_goals
            go_wp2
            go_roundw
            case rel =>
              obtain ⟨X2, lab2, ⟨h1, h2, h3, h4, h5, h6⟩, hb8⟩ := A7.out
              exact ⟨2, X2, lab2, y, by omega, by go_num, h1, h2, h3, h4, h5, h6, hb8⟩
            case measure => simp [intOf]
    · obtain rfl : k = 2 := by omega
      have HDN := hidd hbg.done
      have c6 : wr.cell? ⟨X.wd, 6, none⟩ = some (.slice none 0 0) := hbg.row.cell (i := 6) (by decide)
      have c6a := fresh_cell (fresh_alloc wr (.cells (madeCells #[.int .i64 0] X.B) 3)) c6
      have fz := (hbg.fresh (fresh_alloc wr (.cells (madeCells #[.int .i64 0] X.B) 3))).row.frozen
      obtain ⟨_, ck, _, _, _⟩ := PS.cells hbg.done.1.ws
      have d1 := ck 0 (by decide)
      have d2 := ck 1 (by decide)
      clear hbg HB ck
      go_wp2
      generalize ((wr.alloc (.cells (madeCells #[.int .i64 0] X.B) 3)).setCell ⟨X.wd, 6, none⟩ (.slice (some ⟨wr.heap.size, 0, none⟩) X.B X.B)) = wf at *
      go_quiet (fail)
      go_wp2
      go_ret2
      obtain ⟨h1, h2, h3⟩ := HDN.out
      exact ⟨{ X with mb := wr.heap.size }, _, _, rfl, rfl, rfl, rfl, h1.fresh (below_drewN (Below.refl _ _) _), h2, below_drewN h3 _⟩
end Go.Proofs.Ytaalinlggjimcaa
