import Derived.Test.YtjjfbpjejhjdiabDoorRkG
import Derived.Test.YtjjfbpjejhjdiabDoorRkM
import Derived.Test.YtjjfbpjejhjdiabDoorPkO
namespace Go.Proofs.YtjjfbpjejhjdiabDoor
open Go.RowKit
/-! PickChances, PickChooses: the laws. -/
theorem row_fresh {w w' : World} {g n : Nat} {t : TypeId} {f : Nat → Value} (h : w.rowIs g t n f) (k : Below w.heap.size w w') : w'.rowIs g t n f := h.of_block (k.block _ h.lt)
open Classical in
noncomputable def coA (p : Prm) (pos : Int) (n m l : Nat) (f s : Nat → Int) (b : Nat → Bool) : Int := if p.Ok then choi p pos (chOf p n m l f s b) else 0
theorem choose_any (p : Prm) {w : World} {ao so bo : Option Addr} {n ca m cb l cl : Nat} {f s : Nat → Int} {b : Nat → Bool} (h : In3 w ao so bo n ca m cb l cl f s b) (hD : Dw.Holds w) (pos : Int) :
    Calls Tryd.prog 9 #[.agg #[.int .i64 p.temp, .int .i64 p.topk, .int .i64 p.topp, .int .i64 p.pen, .int .u64 (p.seed : Int)], .slice ao n ca, .slice so m cb, .int .i64 pos, .slice bo l cl] w fun e w' => e = .returned (.tuple #[.int .i64 (coA p pos n m l f s b), .int .i64 (erOf p)]) ∧ Below w.heap.size w w' := by
  unfold erOf coA
  by_cases ok : p.Ok
  · simp only [if_pos ok]
    exact choose_ok p ok h hD pos
  · simp only [if_neg ok]
    exact choose_bad p ok w _ _ _ pos
theorem choose_ref_any (p : Prm) {w : World} {ao so bo : Option Addr} {n ca m cb l cl : Nat} {f s : Nat → Int} {b : Nat → Bool} (h : In3 w ao so bo n ca m cb l cl f s b) (pos : Int) :
    Calls Tryd.prog 21 #[.agg #[.int .i64 p.temp, .int .i64 p.topk, .int .i64 p.topp, .int .i64 p.pen, .int .u64 (p.seed : Int)], .slice ao n ca, .slice so m cb, .int .i64 pos, .slice bo l cl] w fun e w' => e = .returned (.tuple #[.int .i64 (coA p pos n m l f s b), .int .i64 (erOf p)]) ∧ Below w.heap.size w w' := by
  unfold erOf coA
  by_cases ok : p.Ok
  · simp only [if_pos ok]
    exact choose_ref_ok p ok h pos
  · simp only [if_neg ok]
    exact choose_ref_bad p ok w _ _ _ pos
theorem chances_ref_any (p : Prm) {w : World} {ao so bo : Option Addr} {n ca m cb l cl : Nat} {f s : Nat → Int} {b : Nat → Bool} (h : In3 w ao so bo n ca m cb l cl f s b) :
    Calls Tryd.prog 12 #[.agg #[.int .i64 p.temp, .int .i64 p.topk, .int .i64 p.topp, .int .i64 p.pen, .int .u64 (p.seed : Int)], .slice ao n ca, .slice so m cb, .slice bo l cl] w fun e w' => ∃ u c, e = .returned (.tuple #[.slice u (chA p n m l f s b).length c, .int .i64 (erOf p)]) ∧ PL w' w.heap.size u c (chA p n m l f s b) ∧ Below w.heap.size w w' := by
  unfold erOf chA
  by_cases ok : p.Ok
  · simp only [if_pos ok]
    exact chances_ref_ok p ok h
  · simp only [if_neg ok]
    exact (chances_ref_bad p ok w _ _ _).mono fun e w' ⟨h1, h2⟩ => ⟨none, 0, h1, pl_nil _ _, h2⟩
set_option maxRecDepth 20000 in
set_option maxHeartbeats 3200000 in
theorem lchances_law (p : Prm) {w : World} {ao so bo : Option Addr} {n ca m cb l cl : Nat} {f s : Nat → Int} {b : Nat → Bool} (h : In3 w ao so bo n ca m cb l cl f s b) (hD : Dw.Holds w) (hl : l ≤ 1048576) :
    Calls Tryd.prog 5 #[.agg #[.int .i64 p.temp, .int .i64 p.topk, .int .i64 p.topp, .int .i64 p.pen, .int .u64 (p.seed : Int)], .slice ao n ca, .slice so m cb, .slice bo l cl] w fun e w' => e = .returned (.bool true) ∧ Below w.heap.size w w' := by
  have f1 := fresh_alloc w (.cells #[.int .i64 p.temp, .int .i64 p.topk, .int .i64 p.topp, .int .i64 p.pen, .int .u64 (p.seed : Int)] 24)
  have HWK := hidd (works_any (h.ta.fresh f1) (hD.fresh f1))
  have HP0 := hidd (PrmAt.new w p 24)
  have HI := hidd h
  have hn := h.hn
  have hm := h.hm
  have hle := h.lo.le
  have htop := h.lo.top
  have hle2 := h.se.le
  have htop2 := h.se.top
  have hle3 := h.al.le
  have htop3 := h.al.top
  unfold maxLen at htop htop2 htop3
  have HCA : Hid (∀ (w1 : World) (ao' so' bo' : Option Addr) (ca' cb' cl' : Nat), In3 w1 ao' so' bo' n ca' m cb' l cl' f s b → Calls Tryd.prog 8 #[.agg #[.int .i64 p.temp, .int .i64 p.topk, .int .i64 p.topp, .int .i64 p.pen, .int .u64 (p.seed : Int)], .slice ao' n ca', .slice so' m cb', .slice bo' l cl'] w1 fun e w' => ∃ u c, e = .returned (.tuple #[.slice u (chA p n m l f s b).length c, .int .i64 (erOf p)]) ∧ PL w' w1.heap.size u c (chA p n m l f s b) ∧ Below w1.heap.size w1 w') := fun w1 ao' so' bo' ca' cb' cl' h1 => chances_any p h1
  have HCR : Hid (∀ (w1 : World) (ao' so' bo' : Option Addr) (ca' cb' cl' : Nat), In3 w1 ao' so' bo' n ca' m cb' l cl' f s b → Calls Tryd.prog 12 #[.agg #[.int .i64 p.temp, .int .i64 p.topk, .int .i64 p.topp, .int .i64 p.pen, .int .u64 (p.seed : Int)], .slice ao' n ca', .slice so' m cb', .slice bo' l cl'] w1 fun e w' => ∃ u c, e = .returned (.tuple #[.slice u (chA p n m l f s b).length c, .int .i64 (erOf p)]) ∧ PL w' w1.heap.size u c (chA p n m l f s b) ∧ Below w1.heap.size w1 w') := fun w1 ao' so' bo' ca' cb' cl' h1 => chances_ref_any p h1
  clear h hD
  generalize chA p n m l f s b = L at *
  generalize erOf p = er at *
  go_enter Tryd.func5, Tryd.ntmps5
  go_wp2_with fail
  refine HWK.out.mono ?_
  rintro e w1 ⟨rfl, f2⟩
  have F1 := hidd (fresh_trans f1 f2)
  have HP1 := hidd (HP0.out.fresh f2)
  clear f1 f2 HWK HP0
  go_wp2_with fail
  refine (markedW_any (HI.out.lo.fresh F1.out) (by omega)).mono ?_
  rintro e w2 ⟨rfl, rx, f2⟩
  have F2 := hidd (fresh_trans F1.out f2)
  have HP2 := hidd (HP1.out.fresh f2)
  have HX2 := hidd rx
  clear f2 rx HP1
  go_wp2_with fail
  refine (marked_any (HI.out.se.fresh F2.out) (by omega)).mono ?_
  rintro e w3 ⟨rfl, ry, f2⟩
  have F3 := hidd (fresh_trans F2.out f2)
  have HP3 := hidd (HP2.out.fresh f2)
  have HX3 := hidd (row_fresh HX2.out f2)
  have HY3 := hidd ry
  clear f2 ry HP2 HX2
  go_wp2_with fail
  refine (markedB_any (HI.out.al.fresh F3.out) (by omega)).mono ?_
  rintro e w4 ⟨rfl, rz, f2⟩
  have F4 := hidd (fresh_trans F3.out f2)
  have hp := HP3.out.fresh f2
  have HX4 := hidd (row_fresh HX3.out f2)
  have HY4 := hidd (row_fresh HY3.out f2)
  have HZ4 := hidd rz
  clear f2 rz HP3 HX3 HY3
  have HIN : Hid (In3 w4 (some ⟨w1.heap.size, 0, none⟩) (some ⟨w2.heap.size, 0, none⟩) (some ⟨w3.heap.size, 0, none⟩) n (n + 64) m (m + 64) l (l + 64) f s b) := ⟨mkd_rd HX4.out (by omega), mkd_rd HY4.out (by omega), mkb_rd HZ4.out (by omega), HI.out.fb, hn, hm, HI.out.ta.fresh F4.out⟩
  have r0 := hp.c0
  have r1 := hp.c1
  have r2 := hp.c2
  have r3 := hp.c3
  have r4 := hp.c4
  have HP4 := hidd hp
  clear hp
  go_wp2_with fail
  refine (HCA.out _ _ _ _ _ _ _ HIN.out).mono ?_
  rintro e w5 ⟨u, c, rfl, hpl, f2⟩
  have F5 := hidd (fresh_trans F4.out f2)
  have hp := HP4.out.fresh f2
  have HX5 := hidd (row_fresh HX4.out f2)
  have HY5 := hidd (row_fresh HY4.out f2)
  have HZ5 := hidd (row_fresh HZ4.out f2)
  have HL5 := hidd hpl
  replace r0 := hp.c0
  replace r1 := hp.c1
  replace r2 := hp.c2
  replace r3 := hp.c3
  replace r4 := hp.c4
  clear f2 hp hpl HX4 HY4 HZ4 HP4 HCA HIN
  go_wp2_with fail
  refine (HCR.out _ _ _ _ _ _ _ (HI.out.fresh F5.out)).mono ?_
  rintro e w6 ⟨u2, c2, rfl, hpl, f2⟩
  have F6 := hidd (fresh_trans F5.out f2)
  have HX6 := hidd (row_fresh HX5.out f2)
  have HY6 := hidd (row_fresh HY5.out f2)
  have HZ6 := hidd (row_fresh HZ5.out f2)
  have HL6 := hidd (HL5.out.kept f2)
  have HM6 := hidd hpl
  clear f2 hpl HX5 HY5 HZ5 HL5 r0 r1 r2 r3 r4 HCR
  go_wp2_with fail
  refine (eqc_any HL6.out HM6.out).mono ?_
  rintro e w7 ⟨rfl, f2⟩
  have F7 := hidd (fresh_trans F6.out f2)
  have HXE := hidd (row_fresh HX6.out f2)
  have HYE := hidd (row_fresh HY6.out f2)
  have HZE := hidd (row_fresh HZ6.out f2)
  clear f2 HX6 HY6 HZ6 HL6 HM6
  go_wp2_with fail
  refine (stillW_any (HI.out.lo.fresh F7.out) HXE.out (by omega)).mono ?_
  rintro e w8 ⟨rfl, f2⟩
  have F8 := hidd (fresh_trans F7.out f2)
  have HY8 := hidd (row_fresh HYE.out f2)
  have HZ8 := hidd (row_fresh HZE.out f2)
  clear f2 HYE HZE
  go_wp2_with fail
  refine (still_any (HI.out.se.fresh F8.out) HY8.out (by omega)).mono ?_
  rintro e w9 ⟨rfl, f2⟩
  have F9 := hidd (fresh_trans F8.out f2)
  have HZ9 := hidd (row_fresh HZ8.out f2)
  clear f2 HZ8
  go_wp2_with fail
  refine (stillB_any (HI.out.al.fresh F9.out) HZ9.out (by omega)).mono ?_
  rintro e w10 ⟨rfl, f2⟩
  have F10 := hidd (fresh_trans F9.out f2)
  clear f2
  go_wp2
  go_ret
  exact ⟨by first | rfl | simp, F10.out⟩
set_option maxRecDepth 20000 in
set_option maxHeartbeats 3200000 in
theorem lchooses_law (p : Prm) {w : World} {ao so bo : Option Addr} {n ca m cb l cl : Nat} {f s : Nat → Int} {b : Nat → Bool} (h : In3 w ao so bo n ca m cb l cl f s b) (hD : Dw.Holds w) (pos : Int) (hl : l ≤ 1048576) :
    Calls Tryd.prog 6 #[.agg #[.int .i64 p.temp, .int .i64 p.topk, .int .i64 p.topp, .int .i64 p.pen, .int .u64 (p.seed : Int)], .slice ao n ca, .slice so m cb, .int .i64 pos, .slice bo l cl] w fun e w' => e = .returned (.bool true) ∧ Below w.heap.size w w' := by
  have f1 := fresh_alloc w (.cells #[.int .i64 p.temp, .int .i64 p.topk, .int .i64 p.topp, .int .i64 p.pen, .int .u64 (p.seed : Int)] 24)
  have HWK := hidd (works_any (h.ta.fresh f1) (hD.fresh f1))
  have HP0 := hidd (PrmAt.new w p 24)
  have HI := hidd h
  have hn := h.hn
  have hm := h.hm
  have hle := h.lo.le
  have htop := h.lo.top
  have hle2 := h.se.le
  have htop2 := h.se.top
  have hle3 := h.al.le
  have htop3 := h.al.top
  unfold maxLen at htop htop2 htop3
  have HCA : Hid (∀ (w1 : World) (ao' so' bo' : Option Addr) (ca' cb' cl' : Nat), In3 w1 ao' so' bo' n ca' m cb' l cl' f s b → Dw.Holds w1 → Calls Tryd.prog 9 #[.agg #[.int .i64 p.temp, .int .i64 p.topk, .int .i64 p.topp, .int .i64 p.pen, .int .u64 (p.seed : Int)], .slice ao' n ca', .slice so' m cb', .int .i64 pos, .slice bo' l cl'] w1 fun e w' => e = .returned (.tuple #[.int .i64 (coA p pos n m l f s b), .int .i64 (erOf p)]) ∧ Below w1.heap.size w1 w') := fun w1 ao' so' bo' ca' cb' cl' h1 h2 => choose_any p h1 h2 pos
  have HCR : Hid (∀ (w1 : World) (ao' so' bo' : Option Addr) (ca' cb' cl' : Nat), In3 w1 ao' so' bo' n ca' m cb' l cl' f s b → Calls Tryd.prog 21 #[.agg #[.int .i64 p.temp, .int .i64 p.topk, .int .i64 p.topp, .int .i64 p.pen, .int .u64 (p.seed : Int)], .slice ao' n ca', .slice so' m cb', .int .i64 pos, .slice bo' l cl'] w1 fun e w' => e = .returned (.tuple #[.int .i64 (coA p pos n m l f s b), .int .i64 (erOf p)]) ∧ Below w1.heap.size w1 w') := fun w1 ao' so' bo' ca' cb' cl' h1 => choose_ref_any p h1 pos
  have HD := hidd hD
  clear h hD
  generalize coA p pos n m l f s b = T at *
  generalize erOf p = er at *
  go_enter Tryd.func6, Tryd.ntmps6
  go_wp2_with fail
  refine HWK.out.mono ?_
  rintro e w1 ⟨rfl, f2⟩
  have F1 := hidd (fresh_trans f1 f2)
  have HP1 := hidd (HP0.out.fresh f2)
  clear f1 f2 HWK HP0
  go_wp2_with fail
  refine (markedW_any (HI.out.lo.fresh F1.out) (by omega)).mono ?_
  rintro e w2 ⟨rfl, rx, f2⟩
  have F2 := hidd (fresh_trans F1.out f2)
  have HP2 := hidd (HP1.out.fresh f2)
  have HX2 := hidd rx
  clear f2 rx HP1
  go_wp2_with fail
  refine (marked_any (HI.out.se.fresh F2.out) (by omega)).mono ?_
  rintro e w3 ⟨rfl, ry, f2⟩
  have F3 := hidd (fresh_trans F2.out f2)
  have HP3 := hidd (HP2.out.fresh f2)
  have HX3 := hidd (row_fresh HX2.out f2)
  have HY3 := hidd ry
  clear f2 ry HP2 HX2
  go_wp2_with fail
  refine (markedB_any (HI.out.al.fresh F3.out) (by omega)).mono ?_
  rintro e w4 ⟨rfl, rz, f2⟩
  have F4 := hidd (fresh_trans F3.out f2)
  have hp := HP3.out.fresh f2
  have HX4 := hidd (row_fresh HX3.out f2)
  have HY4 := hidd (row_fresh HY3.out f2)
  have HZ4 := hidd rz
  clear f2 rz HP3 HX3 HY3
  have HIN : Hid (In3 w4 (some ⟨w1.heap.size, 0, none⟩) (some ⟨w2.heap.size, 0, none⟩) (some ⟨w3.heap.size, 0, none⟩) n (n + 64) m (m + 64) l (l + 64) f s b) := ⟨mkd_rd HX4.out (by omega), mkd_rd HY4.out (by omega), mkb_rd HZ4.out (by omega), HI.out.fb, hn, hm, HI.out.ta.fresh F4.out⟩
  have r0 := hp.c0
  have r1 := hp.c1
  have r2 := hp.c2
  have r3 := hp.c3
  have r4 := hp.c4
  have HP4 := hidd hp
  clear hp
  go_wp2_with fail
  refine (HCA.out _ _ _ _ _ _ _ HIN.out (HD.out.fresh F4.out)).mono ?_
  rintro e w5 ⟨rfl, f2⟩
  have F5 := hidd (fresh_trans F4.out f2)
  have hp := HP4.out.fresh f2
  have HX5 := hidd (row_fresh HX4.out f2)
  have HY5 := hidd (row_fresh HY4.out f2)
  have HZ5 := hidd (row_fresh HZ4.out f2)
  replace r0 := hp.c0
  replace r1 := hp.c1
  replace r2 := hp.c2
  replace r3 := hp.c3
  replace r4 := hp.c4
  clear f2 hp HX4 HY4 HZ4 HP4 HCA HIN
  go_wp2_with fail
  refine (HCR.out _ _ _ _ _ _ _ (HI.out.fresh F5.out)).mono ?_
  rintro e w6 ⟨rfl, f2⟩
  have F6 := hidd (fresh_trans F5.out f2)
  have HXE := hidd (row_fresh HX5.out f2)
  have HYE := hidd (row_fresh HY5.out f2)
  have HZE := hidd (row_fresh HZ5.out f2)
  clear f2 HX5 HY5 HZ5 r0 r1 r2 r3 r4 HCR
  go_wp2_with fail
  refine (stillW_any (HI.out.lo.fresh F6.out) HXE.out (by omega)).mono ?_
  rintro e w8 ⟨rfl, f2⟩
  have F8 := hidd (fresh_trans F6.out f2)
  have HY8 := hidd (row_fresh HYE.out f2)
  have HZ8 := hidd (row_fresh HZE.out f2)
  clear f2 HYE HZE
  go_wp2_with fail
  refine (still_any (HI.out.se.fresh F8.out) HY8.out (by omega)).mono ?_
  rintro e w9 ⟨rfl, f2⟩
  have F9 := hidd (fresh_trans F8.out f2)
  have HZ9 := hidd (row_fresh HZ8.out f2)
  clear f2 HZ8
  go_wp2_with fail
  refine (stillB_any (HI.out.al.fresh F9.out) HZ9.out (by omega)).mono ?_
  rintro e w10 ⟨rfl, f2⟩
  have F10 := hidd (fresh_trans F9.out f2)
  clear f2
  go_wp2
  go_ret
  exact ⟨by first | rfl | simp, F10.out⟩
end Go.Proofs.YtjjfbpjejhjdiabDoor
