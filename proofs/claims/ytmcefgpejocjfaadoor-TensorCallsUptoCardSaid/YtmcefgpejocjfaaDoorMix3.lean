import Derived.Test.YtmcefgpejocjfaaDoorUni
import Derived.Test.YtmcefgpejocjfaaDoorVec
import Derived.Deep.DeepCutAuto
namespace Go.Proofs.YtmcefgpejocjfaaDoor
open Go.RowKit
attribute [local go_sem ↓] Go.wp_at_zero Go.wp_at_succ
/-! One call of the last four kinds, and its answer. -/
theorem sall_next {w1 wa wb : World} {g : Nat} {u0 u1 u2 u3 u4 u5 u6 u7 u8 u9 v0 v1 v2 v3 v4 v5 : Value} (h : Below w1.heap.size w1 wa ∧ wa.cell? ⟨g, 0, none⟩ = some u0 ∧ wa.cell? ⟨g, 1, none⟩ = some u1 ∧ wa.cell? ⟨g, 2, none⟩ = some u2 ∧ wa.cell? ⟨g, 3, none⟩ = some u3 ∧ wa.cell? ⟨g, 4, none⟩ = some u4 ∧ wa.cell? ⟨g, 5, none⟩ = some u5 ∧ wa.cell? ⟨g, 6, none⟩ = some u6 ∧ wa.cell? ⟨g, 7, none⟩ = some u7 ∧ wa.cell? ⟨g, 8, none⟩ = some u8 ∧ wa.cell? ⟨g, 9, none⟩ = some u9 ∧ wa.cell? ⟨g + 1, 0, none⟩ = some v0 ∧ wa.cell? ⟨g + 1, 1, none⟩ = some v1 ∧ wa.cell? ⟨g + 1, 2, none⟩ = some v2 ∧ wa.cell? ⟨g + 1, 3, none⟩ = some v3 ∧ wa.cell? ⟨g + 1, 4, none⟩ = some v4 ∧ wa.cell? ⟨g + 1, 5, none⟩ = some v5) (f : Below wa.heap.size wa wb) :
    Below w1.heap.size w1 wb ∧ wb.cell? ⟨g, 0, none⟩ = some u0 ∧ wb.cell? ⟨g, 1, none⟩ = some u1 ∧ wb.cell? ⟨g, 2, none⟩ = some u2 ∧ wb.cell? ⟨g, 3, none⟩ = some u3 ∧ wb.cell? ⟨g, 4, none⟩ = some u4 ∧ wb.cell? ⟨g, 5, none⟩ = some u5 ∧ wb.cell? ⟨g, 6, none⟩ = some u6 ∧ wb.cell? ⟨g, 7, none⟩ = some u7 ∧ wb.cell? ⟨g, 8, none⟩ = some u8 ∧ wb.cell? ⟨g, 9, none⟩ = some u9 ∧ wb.cell? ⟨g + 1, 0, none⟩ = some v0 ∧ wb.cell? ⟨g + 1, 1, none⟩ = some v1 ∧ wb.cell? ⟨g + 1, 2, none⟩ = some v2 ∧ wb.cell? ⟨g + 1, 3, none⟩ = some v3 ∧ wb.cell? ⟨g + 1, 4, none⟩ = some v4 ∧ wb.cell? ⟨g + 1, 5, none⟩ = some v5 :=
  ⟨fresh_trans h.1 f, fresh_cell f h.2.1, fresh_cell f h.2.2.1, fresh_cell f h.2.2.2.1, fresh_cell f h.2.2.2.2.1, fresh_cell f h.2.2.2.2.2.1, fresh_cell f h.2.2.2.2.2.2.1, fresh_cell f h.2.2.2.2.2.2.2.1, fresh_cell f h.2.2.2.2.2.2.2.2.1, fresh_cell f h.2.2.2.2.2.2.2.2.2.1, fresh_cell f h.2.2.2.2.2.2.2.2.2.2.1, fresh_cell f h.2.2.2.2.2.2.2.2.2.2.2.1, fresh_cell f h.2.2.2.2.2.2.2.2.2.2.2.2.1, fresh_cell f h.2.2.2.2.2.2.2.2.2.2.2.2.2.1, fresh_cell f h.2.2.2.2.2.2.2.2.2.2.2.2.2.2.1, fresh_cell f h.2.2.2.2.2.2.2.2.2.2.2.2.2.2.2.1, fresh_cell f h.2.2.2.2.2.2.2.2.2.2.2.2.2.2.2.2⟩
set_option maxRecDepth 20000 in
set_option maxHeartbeats 4000000 in
theorem mixed_softmax {w : World} {o : OpD} {ab af bb bf db df xb xf tb tf cA cB cD cX cT cV : Nat} {vO : Option Addr} {Va : Nat → Option Addr} {Vk : Nat → Nat} (hw : Holds w) (hI : InR w ⟨some ⟨ab, af, none⟩, cA, some ⟨bb, bf, none⟩, cB, some ⟨db, df, none⟩, cD, some ⟨xb, xf, none⟩, cX, some ⟨tb, tf, none⟩, cT, vO, cV, Va, Vk⟩ o) (hR : OpR w o) (hk : o.kind = 6) :
    Calls Tryd.prog 17 #[.agg #[.int .i64 o.kind, .int .i64 o.R, .int .i64 o.C, .slice o.dO o.nD o.cD, .slice o.aO o.nA o.cA, .slice o.bO o.nB o.cB, .slice o.xO o.nX o.cX, .slice o.vO o.nV o.cV, .slice o.tO o.nT o.cT, .int .i64 o.N], .agg #[.slice (some ⟨ab, af, none⟩) (o.nA + 64) cA, .slice (some ⟨bb, bf, none⟩) (o.nB + 64) cB, .slice (some ⟨db, df, none⟩) (o.nD + 64) cD, .slice (some ⟨xb, xf, none⟩) (o.nX + 64) cX, .slice (some ⟨tb, tf, none⟩) (o.nT + 64) cT, .slice vO o.nV cV]] w fun e w' => e = .returned (.bool true) ∧ Below w.heap.size w w' := by
  obtain ⟨k, er, F, hp, hr⟩ := softmax_uni o.nX o.X hR.sX hR.bX
  have HI := hidd hI
  have HR := hidd hR
  have HP := hidd hp
  have HQ := hidd hr
  clear hp hr
  have lA : o.nA + 64 ≤ cA := hI.a.le
  have jA : (0 : Int) ≤ (o.nA : Int) := Int.natCast_nonneg _
  have iA : (o.nA : Int) ≤ (cA : Int) := by omega
  have lB : o.nB + 64 ≤ cB := hI.b.le
  have jB : (0 : Int) ≤ (o.nB : Int) := Int.natCast_nonneg _
  have iB : (o.nB : Int) ≤ (cB : Int) := by omega
  have lD : o.nD + 64 ≤ cD := hI.d.le
  have jD : (0 : Int) ≤ (o.nD : Int) := Int.natCast_nonneg _
  have iD : (o.nD : Int) ≤ (cD : Int) := by omega
  have lX : o.nX + 64 ≤ cX := hI.x.le
  have jX : (0 : Int) ≤ (o.nX : Int) := Int.natCast_nonneg _
  have iX : (o.nX : Int) ≤ (cX : Int) := by omega
  have lT : o.nT + 64 ≤ cT := hI.t.le
  have jT : (0 : Int) ≤ (o.nT : Int) := Int.natCast_nonneg _
  have iT : (o.nT : Int) ≤ (cT : Int) := by omega
  have e6 : (o.kind == 6) = true := by simp [hk]
  have e7 : (o.kind == 7) = false := by simp [hk]
  have e8 : (o.kind == 8) = false := by simp [hk]
  have e9 : (o.kind == 9) = false := by simp [hk]
  have HW := hidd hw
  clear hw
  clear hI hR hk
  go_enter Tryd.func17, Tryd.ntmps17
  go_wp2_with fail
  have hf0 := fresh_trans (fresh_alloc w (.cells #[.int .i64 o.kind, .int .i64 o.R, .int .i64 o.C, .slice o.dO o.nD o.cD, .slice o.aO o.nA o.cA, .slice o.bO o.nB o.cB, .slice o.xO o.nX o.cX, .slice o.vO o.nV o.cV, .slice o.tO o.nT o.cT, .int .i64 o.N] 33)) (fresh_alloc _ (.cells #[.slice (some ⟨ab, af, none⟩) (o.nA + 64) cA, .slice (some ⟨bb, bf, none⟩) (o.nB + 64) cB, .slice (some ⟨db, df, none⟩) (o.nD + 64) cD, .slice (some ⟨xb, xf, none⟩) (o.nX + 64) cX, .slice (some ⟨tb, tf, none⟩) (o.nT + 64) cT, .slice vO o.nV cV] 41))
  have c0 : ((w.alloc (.cells #[.int .i64 o.kind, .int .i64 o.R, .int .i64 o.C, .slice o.dO o.nD o.cD, .slice o.aO o.nA o.cA, .slice o.bO o.nB o.cB, .slice o.xO o.nX o.cX, .slice o.vO o.nV o.cV, .slice o.tO o.nT o.cT, .int .i64 o.N] 33)).alloc (.cells #[.slice (some ⟨ab, af, none⟩) (o.nA + 64) cA, .slice (some ⟨bb, bf, none⟩) (o.nB + 64) cB, .slice (some ⟨db, df, none⟩) (o.nD + 64) cD, .slice (some ⟨xb, xf, none⟩) (o.nX + 64) cX, .slice (some ⟨tb, tf, none⟩) (o.nT + 64) cT, .slice vO o.nV cV] 41)).cell? ⟨w.heap.size, 0, none⟩ = some (.int .i64 o.kind) := by simp
  have c1 : ((w.alloc (.cells #[.int .i64 o.kind, .int .i64 o.R, .int .i64 o.C, .slice o.dO o.nD o.cD, .slice o.aO o.nA o.cA, .slice o.bO o.nB o.cB, .slice o.xO o.nX o.cX, .slice o.vO o.nV o.cV, .slice o.tO o.nT o.cT, .int .i64 o.N] 33)).alloc (.cells #[.slice (some ⟨ab, af, none⟩) (o.nA + 64) cA, .slice (some ⟨bb, bf, none⟩) (o.nB + 64) cB, .slice (some ⟨db, df, none⟩) (o.nD + 64) cD, .slice (some ⟨xb, xf, none⟩) (o.nX + 64) cX, .slice (some ⟨tb, tf, none⟩) (o.nT + 64) cT, .slice vO o.nV cV] 41)).cell? ⟨w.heap.size, 1, none⟩ = some (.int .i64 o.R) := by simp
  have c2 : ((w.alloc (.cells #[.int .i64 o.kind, .int .i64 o.R, .int .i64 o.C, .slice o.dO o.nD o.cD, .slice o.aO o.nA o.cA, .slice o.bO o.nB o.cB, .slice o.xO o.nX o.cX, .slice o.vO o.nV o.cV, .slice o.tO o.nT o.cT, .int .i64 o.N] 33)).alloc (.cells #[.slice (some ⟨ab, af, none⟩) (o.nA + 64) cA, .slice (some ⟨bb, bf, none⟩) (o.nB + 64) cB, .slice (some ⟨db, df, none⟩) (o.nD + 64) cD, .slice (some ⟨xb, xf, none⟩) (o.nX + 64) cX, .slice (some ⟨tb, tf, none⟩) (o.nT + 64) cT, .slice vO o.nV cV] 41)).cell? ⟨w.heap.size, 2, none⟩ = some (.int .i64 o.C) := by simp
  have c3 : ((w.alloc (.cells #[.int .i64 o.kind, .int .i64 o.R, .int .i64 o.C, .slice o.dO o.nD o.cD, .slice o.aO o.nA o.cA, .slice o.bO o.nB o.cB, .slice o.xO o.nX o.cX, .slice o.vO o.nV o.cV, .slice o.tO o.nT o.cT, .int .i64 o.N] 33)).alloc (.cells #[.slice (some ⟨ab, af, none⟩) (o.nA + 64) cA, .slice (some ⟨bb, bf, none⟩) (o.nB + 64) cB, .slice (some ⟨db, df, none⟩) (o.nD + 64) cD, .slice (some ⟨xb, xf, none⟩) (o.nX + 64) cX, .slice (some ⟨tb, tf, none⟩) (o.nT + 64) cT, .slice vO o.nV cV] 41)).cell? ⟨w.heap.size, 3, none⟩ = some (.slice o.dO o.nD o.cD) := by simp
  have c4 : ((w.alloc (.cells #[.int .i64 o.kind, .int .i64 o.R, .int .i64 o.C, .slice o.dO o.nD o.cD, .slice o.aO o.nA o.cA, .slice o.bO o.nB o.cB, .slice o.xO o.nX o.cX, .slice o.vO o.nV o.cV, .slice o.tO o.nT o.cT, .int .i64 o.N] 33)).alloc (.cells #[.slice (some ⟨ab, af, none⟩) (o.nA + 64) cA, .slice (some ⟨bb, bf, none⟩) (o.nB + 64) cB, .slice (some ⟨db, df, none⟩) (o.nD + 64) cD, .slice (some ⟨xb, xf, none⟩) (o.nX + 64) cX, .slice (some ⟨tb, tf, none⟩) (o.nT + 64) cT, .slice vO o.nV cV] 41)).cell? ⟨w.heap.size, 4, none⟩ = some (.slice o.aO o.nA o.cA) := by simp
  have c5 : ((w.alloc (.cells #[.int .i64 o.kind, .int .i64 o.R, .int .i64 o.C, .slice o.dO o.nD o.cD, .slice o.aO o.nA o.cA, .slice o.bO o.nB o.cB, .slice o.xO o.nX o.cX, .slice o.vO o.nV o.cV, .slice o.tO o.nT o.cT, .int .i64 o.N] 33)).alloc (.cells #[.slice (some ⟨ab, af, none⟩) (o.nA + 64) cA, .slice (some ⟨bb, bf, none⟩) (o.nB + 64) cB, .slice (some ⟨db, df, none⟩) (o.nD + 64) cD, .slice (some ⟨xb, xf, none⟩) (o.nX + 64) cX, .slice (some ⟨tb, tf, none⟩) (o.nT + 64) cT, .slice vO o.nV cV] 41)).cell? ⟨w.heap.size, 5, none⟩ = some (.slice o.bO o.nB o.cB) := by simp
  have c6 : ((w.alloc (.cells #[.int .i64 o.kind, .int .i64 o.R, .int .i64 o.C, .slice o.dO o.nD o.cD, .slice o.aO o.nA o.cA, .slice o.bO o.nB o.cB, .slice o.xO o.nX o.cX, .slice o.vO o.nV o.cV, .slice o.tO o.nT o.cT, .int .i64 o.N] 33)).alloc (.cells #[.slice (some ⟨ab, af, none⟩) (o.nA + 64) cA, .slice (some ⟨bb, bf, none⟩) (o.nB + 64) cB, .slice (some ⟨db, df, none⟩) (o.nD + 64) cD, .slice (some ⟨xb, xf, none⟩) (o.nX + 64) cX, .slice (some ⟨tb, tf, none⟩) (o.nT + 64) cT, .slice vO o.nV cV] 41)).cell? ⟨w.heap.size, 6, none⟩ = some (.slice o.xO o.nX o.cX) := by simp
  have c7 : ((w.alloc (.cells #[.int .i64 o.kind, .int .i64 o.R, .int .i64 o.C, .slice o.dO o.nD o.cD, .slice o.aO o.nA o.cA, .slice o.bO o.nB o.cB, .slice o.xO o.nX o.cX, .slice o.vO o.nV o.cV, .slice o.tO o.nT o.cT, .int .i64 o.N] 33)).alloc (.cells #[.slice (some ⟨ab, af, none⟩) (o.nA + 64) cA, .slice (some ⟨bb, bf, none⟩) (o.nB + 64) cB, .slice (some ⟨db, df, none⟩) (o.nD + 64) cD, .slice (some ⟨xb, xf, none⟩) (o.nX + 64) cX, .slice (some ⟨tb, tf, none⟩) (o.nT + 64) cT, .slice vO o.nV cV] 41)).cell? ⟨w.heap.size, 7, none⟩ = some (.slice o.vO o.nV o.cV) := by simp
  have c8 : ((w.alloc (.cells #[.int .i64 o.kind, .int .i64 o.R, .int .i64 o.C, .slice o.dO o.nD o.cD, .slice o.aO o.nA o.cA, .slice o.bO o.nB o.cB, .slice o.xO o.nX o.cX, .slice o.vO o.nV o.cV, .slice o.tO o.nT o.cT, .int .i64 o.N] 33)).alloc (.cells #[.slice (some ⟨ab, af, none⟩) (o.nA + 64) cA, .slice (some ⟨bb, bf, none⟩) (o.nB + 64) cB, .slice (some ⟨db, df, none⟩) (o.nD + 64) cD, .slice (some ⟨xb, xf, none⟩) (o.nX + 64) cX, .slice (some ⟨tb, tf, none⟩) (o.nT + 64) cT, .slice vO o.nV cV] 41)).cell? ⟨w.heap.size, 8, none⟩ = some (.slice o.tO o.nT o.cT) := by simp
  have c9 : ((w.alloc (.cells #[.int .i64 o.kind, .int .i64 o.R, .int .i64 o.C, .slice o.dO o.nD o.cD, .slice o.aO o.nA o.cA, .slice o.bO o.nB o.cB, .slice o.xO o.nX o.cX, .slice o.vO o.nV o.cV, .slice o.tO o.nT o.cT, .int .i64 o.N] 33)).alloc (.cells #[.slice (some ⟨ab, af, none⟩) (o.nA + 64) cA, .slice (some ⟨bb, bf, none⟩) (o.nB + 64) cB, .slice (some ⟨db, df, none⟩) (o.nD + 64) cD, .slice (some ⟨xb, xf, none⟩) (o.nX + 64) cX, .slice (some ⟨tb, tf, none⟩) (o.nT + 64) cT, .slice vO o.nV cV] 41)).cell? ⟨w.heap.size, 9, none⟩ = some (.int .i64 o.N) := by simp
  have d0 : ((w.alloc (.cells #[.int .i64 o.kind, .int .i64 o.R, .int .i64 o.C, .slice o.dO o.nD o.cD, .slice o.aO o.nA o.cA, .slice o.bO o.nB o.cB, .slice o.xO o.nX o.cX, .slice o.vO o.nV o.cV, .slice o.tO o.nT o.cT, .int .i64 o.N] 33)).alloc (.cells #[.slice (some ⟨ab, af, none⟩) (o.nA + 64) cA, .slice (some ⟨bb, bf, none⟩) (o.nB + 64) cB, .slice (some ⟨db, df, none⟩) (o.nD + 64) cD, .slice (some ⟨xb, xf, none⟩) (o.nX + 64) cX, .slice (some ⟨tb, tf, none⟩) (o.nT + 64) cT, .slice vO o.nV cV] 41)).cell? ⟨w.heap.size + 1, 0, none⟩ = some (.slice (some ⟨ab, af, none⟩) (o.nA + 64) cA) := by simp
  have d1 : ((w.alloc (.cells #[.int .i64 o.kind, .int .i64 o.R, .int .i64 o.C, .slice o.dO o.nD o.cD, .slice o.aO o.nA o.cA, .slice o.bO o.nB o.cB, .slice o.xO o.nX o.cX, .slice o.vO o.nV o.cV, .slice o.tO o.nT o.cT, .int .i64 o.N] 33)).alloc (.cells #[.slice (some ⟨ab, af, none⟩) (o.nA + 64) cA, .slice (some ⟨bb, bf, none⟩) (o.nB + 64) cB, .slice (some ⟨db, df, none⟩) (o.nD + 64) cD, .slice (some ⟨xb, xf, none⟩) (o.nX + 64) cX, .slice (some ⟨tb, tf, none⟩) (o.nT + 64) cT, .slice vO o.nV cV] 41)).cell? ⟨w.heap.size + 1, 1, none⟩ = some (.slice (some ⟨bb, bf, none⟩) (o.nB + 64) cB) := by simp
  have d2 : ((w.alloc (.cells #[.int .i64 o.kind, .int .i64 o.R, .int .i64 o.C, .slice o.dO o.nD o.cD, .slice o.aO o.nA o.cA, .slice o.bO o.nB o.cB, .slice o.xO o.nX o.cX, .slice o.vO o.nV o.cV, .slice o.tO o.nT o.cT, .int .i64 o.N] 33)).alloc (.cells #[.slice (some ⟨ab, af, none⟩) (o.nA + 64) cA, .slice (some ⟨bb, bf, none⟩) (o.nB + 64) cB, .slice (some ⟨db, df, none⟩) (o.nD + 64) cD, .slice (some ⟨xb, xf, none⟩) (o.nX + 64) cX, .slice (some ⟨tb, tf, none⟩) (o.nT + 64) cT, .slice vO o.nV cV] 41)).cell? ⟨w.heap.size + 1, 2, none⟩ = some (.slice (some ⟨db, df, none⟩) (o.nD + 64) cD) := by simp
  have d3 : ((w.alloc (.cells #[.int .i64 o.kind, .int .i64 o.R, .int .i64 o.C, .slice o.dO o.nD o.cD, .slice o.aO o.nA o.cA, .slice o.bO o.nB o.cB, .slice o.xO o.nX o.cX, .slice o.vO o.nV o.cV, .slice o.tO o.nT o.cT, .int .i64 o.N] 33)).alloc (.cells #[.slice (some ⟨ab, af, none⟩) (o.nA + 64) cA, .slice (some ⟨bb, bf, none⟩) (o.nB + 64) cB, .slice (some ⟨db, df, none⟩) (o.nD + 64) cD, .slice (some ⟨xb, xf, none⟩) (o.nX + 64) cX, .slice (some ⟨tb, tf, none⟩) (o.nT + 64) cT, .slice vO o.nV cV] 41)).cell? ⟨w.heap.size + 1, 3, none⟩ = some (.slice (some ⟨xb, xf, none⟩) (o.nX + 64) cX) := by simp
  have d4 : ((w.alloc (.cells #[.int .i64 o.kind, .int .i64 o.R, .int .i64 o.C, .slice o.dO o.nD o.cD, .slice o.aO o.nA o.cA, .slice o.bO o.nB o.cB, .slice o.xO o.nX o.cX, .slice o.vO o.nV o.cV, .slice o.tO o.nT o.cT, .int .i64 o.N] 33)).alloc (.cells #[.slice (some ⟨ab, af, none⟩) (o.nA + 64) cA, .slice (some ⟨bb, bf, none⟩) (o.nB + 64) cB, .slice (some ⟨db, df, none⟩) (o.nD + 64) cD, .slice (some ⟨xb, xf, none⟩) (o.nX + 64) cX, .slice (some ⟨tb, tf, none⟩) (o.nT + 64) cT, .slice vO o.nV cV] 41)).cell? ⟨w.heap.size + 1, 4, none⟩ = some (.slice (some ⟨tb, tf, none⟩) (o.nT + 64) cT) := by simp
  have d5 : ((w.alloc (.cells #[.int .i64 o.kind, .int .i64 o.R, .int .i64 o.C, .slice o.dO o.nD o.cD, .slice o.aO o.nA o.cA, .slice o.bO o.nB o.cB, .slice o.xO o.nX o.cX, .slice o.vO o.nV o.cV, .slice o.tO o.nT o.cT, .int .i64 o.N] 33)).alloc (.cells #[.slice (some ⟨ab, af, none⟩) (o.nA + 64) cA, .slice (some ⟨bb, bf, none⟩) (o.nB + 64) cB, .slice (some ⟨db, df, none⟩) (o.nD + 64) cD, .slice (some ⟨xb, xf, none⟩) (o.nX + 64) cX, .slice (some ⟨tb, tf, none⟩) (o.nT + 64) cT, .slice vO o.nV cV] 41)).cell? ⟨w.heap.size + 1, 5, none⟩ = some (.slice vO o.nV cV) := by simp
  generalize ((w.alloc (.cells #[.int .i64 o.kind, .int .i64 o.R, .int .i64 o.C, .slice o.dO o.nD o.cD, .slice o.aO o.nA o.cA, .slice o.bO o.nB o.cB, .slice o.xO o.nX o.cX, .slice o.vO o.nV o.cV, .slice o.tO o.nT o.cT, .int .i64 o.N] 33)).alloc (.cells #[.slice (some ⟨ab, af, none⟩) (o.nA + 64) cA, .slice (some ⟨bb, bf, none⟩) (o.nB + 64) cB, .slice (some ⟨db, df, none⟩) (o.nD + 64) cD, .slice (some ⟨xb, xf, none⟩) (o.nX + 64) cX, .slice (some ⟨tb, tf, none⟩) (o.nT + 64) cT, .slice vO o.nV cV] 41)) = w1 at *
  have C0 := hidd c0
  have C1 := hidd c1
  have C2 := hidd c2
  have C3 := hidd c3
  have C4 := hidd c4
  have C5 := hidd c5
  have C6 := hidd c6
  have C7 := hidd c7
  have C8 := hidd c8
  have C9 := hidd c9
  have D0 := hidd d0
  have D1 := hidd d1
  have D2 := hidd d2
  have D3 := hidd d3
  have D4 := hidd d4
  have D5 := hidd d5
  have HI2 := hidd (HI.out.fresh hf0)
  have HR2 := hidd (HR.out.fresh hf0)
  have hF := hf0
  have hC : Below w1.heap.size w1 w1 := Below.refl _ _
  refine (HP.out _ _ _ ((HW.out.fresh hF).fresh hC) (short_mkd (HI2.out.x.fresh hC))).mono ?_
  rintro e w3 ⟨la, lc, rfl, hl, hn0⟩
  replace hC := fresh_trans hC hn0
  clear c0 c1 c2 c3 c4 c5 c6 c7 c8 c9 d0 d1 d2 d3 d4 d5
  have c0 := fresh_cell hC C0.out
  have c1 := fresh_cell hC C1.out
  have c2 := fresh_cell hC C2.out
  have c3 := fresh_cell hC C3.out
  have c4 := fresh_cell hC C4.out
  have c5 := fresh_cell hC C5.out
  have c6 := fresh_cell hC C6.out
  have c7 := fresh_cell hC C7.out
  have c8 := fresh_cell hC C8.out
  have c9 := fresh_cell hC C9.out
  have d0 := fresh_cell hC D0.out
  have d1 := fresh_cell hC D1.out
  have d2 := fresh_cell hC D2.out
  have d3 := fresh_cell hC D3.out
  have d4 := fresh_cell hC D4.out
  have d5 := fresh_cell hC D5.out
  go_wp2_with fail
  refine (HQ.out _ _ _ (HR2.out.x.fresh hC)).mono ?_
  rintro e w4 ⟨ra, rc', rfl, hv, hn⟩
  replace hC := fresh_trans hC hn
  clear c0 c1 c2 c3 c4 c5 c6 c7 c8 c9 d0 d1 d2 d3 d4 d5
  go_wp2_with fail
  refine (eqWide_same (hl.fresh hn) hv (fun _ _ => rfl)).mono ?_
  rintro e wn ⟨rfl, hn3⟩
  replace hC := fresh_trans hC hn3
  go_wp2
  go_ret
  exact ⟨ret_bool (by simp), fresh_trans hF hC⟩
set_option maxRecDepth 20000 in
set_option maxHeartbeats 4000000 in
theorem mixed_blend {w : World} {o : OpD} {ab af bb bf db df xb xf tb tf cA cB cD cX cT cV : Nat} {vO : Option Addr} {Va : Nat → Option Addr} {Vk : Nat → Nat} (hI : InR w ⟨some ⟨ab, af, none⟩, cA, some ⟨bb, bf, none⟩, cB, some ⟨db, df, none⟩, cD, some ⟨xb, xf, none⟩, cX, some ⟨tb, tf, none⟩, cT, vO, cV, Va, Vk⟩ o) (hR : OpR w o) (hk : o.kind = 7) :
    Calls Tryd.prog 17 #[.agg #[.int .i64 o.kind, .int .i64 o.R, .int .i64 o.C, .slice o.dO o.nD o.cD, .slice o.aO o.nA o.cA, .slice o.bO o.nB o.cB, .slice o.xO o.nX o.cX, .slice o.vO o.nV o.cV, .slice o.tO o.nT o.cT, .int .i64 o.N], .agg #[.slice (some ⟨ab, af, none⟩) (o.nA + 64) cA, .slice (some ⟨bb, bf, none⟩) (o.nB + 64) cB, .slice (some ⟨db, df, none⟩) (o.nD + 64) cD, .slice (some ⟨xb, xf, none⟩) (o.nX + 64) cX, .slice (some ⟨tb, tf, none⟩) (o.nT + 64) cT, .slice vO o.nV cV]] w fun e w' => e = .returned (.bool true) ∧ Below w.heap.size w w' := by
  obtain ⟨k, er, F, hp, hr⟩ := blend_uni o.nX o.nV o.X o.Vl o.Vx hR.sX hR.sL hR.bX hR.bV
  have HI := hidd hI
  have HR := hidd hR
  have HP := hidd hp
  have HQ := hidd hr
  clear hp hr
  have lA : o.nA + 64 ≤ cA := hI.a.le
  have jA : (0 : Int) ≤ (o.nA : Int) := Int.natCast_nonneg _
  have iA : (o.nA : Int) ≤ (cA : Int) := by omega
  have lB : o.nB + 64 ≤ cB := hI.b.le
  have jB : (0 : Int) ≤ (o.nB : Int) := Int.natCast_nonneg _
  have iB : (o.nB : Int) ≤ (cB : Int) := by omega
  have lD : o.nD + 64 ≤ cD := hI.d.le
  have jD : (0 : Int) ≤ (o.nD : Int) := Int.natCast_nonneg _
  have iD : (o.nD : Int) ≤ (cD : Int) := by omega
  have lX : o.nX + 64 ≤ cX := hI.x.le
  have jX : (0 : Int) ≤ (o.nX : Int) := Int.natCast_nonneg _
  have iX : (o.nX : Int) ≤ (cX : Int) := by omega
  have lT : o.nT + 64 ≤ cT := hI.t.le
  have jT : (0 : Int) ≤ (o.nT : Int) := Int.natCast_nonneg _
  have iT : (o.nT : Int) ≤ (cT : Int) := by omega
  have e6 : (o.kind == 6) = false := by simp [hk]
  have e7 : (o.kind == 7) = true := by simp [hk]
  have e8 : (o.kind == 8) = false := by simp [hk]
  have e9 : (o.kind == 9) = false := by simp [hk]
  clear hI hR hk
  go_enter Tryd.func17, Tryd.ntmps17
  go_wp2_with fail
  have hf0 := fresh_trans (fresh_alloc w (.cells #[.int .i64 o.kind, .int .i64 o.R, .int .i64 o.C, .slice o.dO o.nD o.cD, .slice o.aO o.nA o.cA, .slice o.bO o.nB o.cB, .slice o.xO o.nX o.cX, .slice o.vO o.nV o.cV, .slice o.tO o.nT o.cT, .int .i64 o.N] 33)) (fresh_alloc _ (.cells #[.slice (some ⟨ab, af, none⟩) (o.nA + 64) cA, .slice (some ⟨bb, bf, none⟩) (o.nB + 64) cB, .slice (some ⟨db, df, none⟩) (o.nD + 64) cD, .slice (some ⟨xb, xf, none⟩) (o.nX + 64) cX, .slice (some ⟨tb, tf, none⟩) (o.nT + 64) cT, .slice vO o.nV cV] 41))
  have c0 : ((w.alloc (.cells #[.int .i64 o.kind, .int .i64 o.R, .int .i64 o.C, .slice o.dO o.nD o.cD, .slice o.aO o.nA o.cA, .slice o.bO o.nB o.cB, .slice o.xO o.nX o.cX, .slice o.vO o.nV o.cV, .slice o.tO o.nT o.cT, .int .i64 o.N] 33)).alloc (.cells #[.slice (some ⟨ab, af, none⟩) (o.nA + 64) cA, .slice (some ⟨bb, bf, none⟩) (o.nB + 64) cB, .slice (some ⟨db, df, none⟩) (o.nD + 64) cD, .slice (some ⟨xb, xf, none⟩) (o.nX + 64) cX, .slice (some ⟨tb, tf, none⟩) (o.nT + 64) cT, .slice vO o.nV cV] 41)).cell? ⟨w.heap.size, 0, none⟩ = some (.int .i64 o.kind) := by simp
  have c1 : ((w.alloc (.cells #[.int .i64 o.kind, .int .i64 o.R, .int .i64 o.C, .slice o.dO o.nD o.cD, .slice o.aO o.nA o.cA, .slice o.bO o.nB o.cB, .slice o.xO o.nX o.cX, .slice o.vO o.nV o.cV, .slice o.tO o.nT o.cT, .int .i64 o.N] 33)).alloc (.cells #[.slice (some ⟨ab, af, none⟩) (o.nA + 64) cA, .slice (some ⟨bb, bf, none⟩) (o.nB + 64) cB, .slice (some ⟨db, df, none⟩) (o.nD + 64) cD, .slice (some ⟨xb, xf, none⟩) (o.nX + 64) cX, .slice (some ⟨tb, tf, none⟩) (o.nT + 64) cT, .slice vO o.nV cV] 41)).cell? ⟨w.heap.size, 1, none⟩ = some (.int .i64 o.R) := by simp
  have c2 : ((w.alloc (.cells #[.int .i64 o.kind, .int .i64 o.R, .int .i64 o.C, .slice o.dO o.nD o.cD, .slice o.aO o.nA o.cA, .slice o.bO o.nB o.cB, .slice o.xO o.nX o.cX, .slice o.vO o.nV o.cV, .slice o.tO o.nT o.cT, .int .i64 o.N] 33)).alloc (.cells #[.slice (some ⟨ab, af, none⟩) (o.nA + 64) cA, .slice (some ⟨bb, bf, none⟩) (o.nB + 64) cB, .slice (some ⟨db, df, none⟩) (o.nD + 64) cD, .slice (some ⟨xb, xf, none⟩) (o.nX + 64) cX, .slice (some ⟨tb, tf, none⟩) (o.nT + 64) cT, .slice vO o.nV cV] 41)).cell? ⟨w.heap.size, 2, none⟩ = some (.int .i64 o.C) := by simp
  have c3 : ((w.alloc (.cells #[.int .i64 o.kind, .int .i64 o.R, .int .i64 o.C, .slice o.dO o.nD o.cD, .slice o.aO o.nA o.cA, .slice o.bO o.nB o.cB, .slice o.xO o.nX o.cX, .slice o.vO o.nV o.cV, .slice o.tO o.nT o.cT, .int .i64 o.N] 33)).alloc (.cells #[.slice (some ⟨ab, af, none⟩) (o.nA + 64) cA, .slice (some ⟨bb, bf, none⟩) (o.nB + 64) cB, .slice (some ⟨db, df, none⟩) (o.nD + 64) cD, .slice (some ⟨xb, xf, none⟩) (o.nX + 64) cX, .slice (some ⟨tb, tf, none⟩) (o.nT + 64) cT, .slice vO o.nV cV] 41)).cell? ⟨w.heap.size, 3, none⟩ = some (.slice o.dO o.nD o.cD) := by simp
  have c4 : ((w.alloc (.cells #[.int .i64 o.kind, .int .i64 o.R, .int .i64 o.C, .slice o.dO o.nD o.cD, .slice o.aO o.nA o.cA, .slice o.bO o.nB o.cB, .slice o.xO o.nX o.cX, .slice o.vO o.nV o.cV, .slice o.tO o.nT o.cT, .int .i64 o.N] 33)).alloc (.cells #[.slice (some ⟨ab, af, none⟩) (o.nA + 64) cA, .slice (some ⟨bb, bf, none⟩) (o.nB + 64) cB, .slice (some ⟨db, df, none⟩) (o.nD + 64) cD, .slice (some ⟨xb, xf, none⟩) (o.nX + 64) cX, .slice (some ⟨tb, tf, none⟩) (o.nT + 64) cT, .slice vO o.nV cV] 41)).cell? ⟨w.heap.size, 4, none⟩ = some (.slice o.aO o.nA o.cA) := by simp
  have c5 : ((w.alloc (.cells #[.int .i64 o.kind, .int .i64 o.R, .int .i64 o.C, .slice o.dO o.nD o.cD, .slice o.aO o.nA o.cA, .slice o.bO o.nB o.cB, .slice o.xO o.nX o.cX, .slice o.vO o.nV o.cV, .slice o.tO o.nT o.cT, .int .i64 o.N] 33)).alloc (.cells #[.slice (some ⟨ab, af, none⟩) (o.nA + 64) cA, .slice (some ⟨bb, bf, none⟩) (o.nB + 64) cB, .slice (some ⟨db, df, none⟩) (o.nD + 64) cD, .slice (some ⟨xb, xf, none⟩) (o.nX + 64) cX, .slice (some ⟨tb, tf, none⟩) (o.nT + 64) cT, .slice vO o.nV cV] 41)).cell? ⟨w.heap.size, 5, none⟩ = some (.slice o.bO o.nB o.cB) := by simp
  have c6 : ((w.alloc (.cells #[.int .i64 o.kind, .int .i64 o.R, .int .i64 o.C, .slice o.dO o.nD o.cD, .slice o.aO o.nA o.cA, .slice o.bO o.nB o.cB, .slice o.xO o.nX o.cX, .slice o.vO o.nV o.cV, .slice o.tO o.nT o.cT, .int .i64 o.N] 33)).alloc (.cells #[.slice (some ⟨ab, af, none⟩) (o.nA + 64) cA, .slice (some ⟨bb, bf, none⟩) (o.nB + 64) cB, .slice (some ⟨db, df, none⟩) (o.nD + 64) cD, .slice (some ⟨xb, xf, none⟩) (o.nX + 64) cX, .slice (some ⟨tb, tf, none⟩) (o.nT + 64) cT, .slice vO o.nV cV] 41)).cell? ⟨w.heap.size, 6, none⟩ = some (.slice o.xO o.nX o.cX) := by simp
  have c7 : ((w.alloc (.cells #[.int .i64 o.kind, .int .i64 o.R, .int .i64 o.C, .slice o.dO o.nD o.cD, .slice o.aO o.nA o.cA, .slice o.bO o.nB o.cB, .slice o.xO o.nX o.cX, .slice o.vO o.nV o.cV, .slice o.tO o.nT o.cT, .int .i64 o.N] 33)).alloc (.cells #[.slice (some ⟨ab, af, none⟩) (o.nA + 64) cA, .slice (some ⟨bb, bf, none⟩) (o.nB + 64) cB, .slice (some ⟨db, df, none⟩) (o.nD + 64) cD, .slice (some ⟨xb, xf, none⟩) (o.nX + 64) cX, .slice (some ⟨tb, tf, none⟩) (o.nT + 64) cT, .slice vO o.nV cV] 41)).cell? ⟨w.heap.size, 7, none⟩ = some (.slice o.vO o.nV o.cV) := by simp
  have c8 : ((w.alloc (.cells #[.int .i64 o.kind, .int .i64 o.R, .int .i64 o.C, .slice o.dO o.nD o.cD, .slice o.aO o.nA o.cA, .slice o.bO o.nB o.cB, .slice o.xO o.nX o.cX, .slice o.vO o.nV o.cV, .slice o.tO o.nT o.cT, .int .i64 o.N] 33)).alloc (.cells #[.slice (some ⟨ab, af, none⟩) (o.nA + 64) cA, .slice (some ⟨bb, bf, none⟩) (o.nB + 64) cB, .slice (some ⟨db, df, none⟩) (o.nD + 64) cD, .slice (some ⟨xb, xf, none⟩) (o.nX + 64) cX, .slice (some ⟨tb, tf, none⟩) (o.nT + 64) cT, .slice vO o.nV cV] 41)).cell? ⟨w.heap.size, 8, none⟩ = some (.slice o.tO o.nT o.cT) := by simp
  have c9 : ((w.alloc (.cells #[.int .i64 o.kind, .int .i64 o.R, .int .i64 o.C, .slice o.dO o.nD o.cD, .slice o.aO o.nA o.cA, .slice o.bO o.nB o.cB, .slice o.xO o.nX o.cX, .slice o.vO o.nV o.cV, .slice o.tO o.nT o.cT, .int .i64 o.N] 33)).alloc (.cells #[.slice (some ⟨ab, af, none⟩) (o.nA + 64) cA, .slice (some ⟨bb, bf, none⟩) (o.nB + 64) cB, .slice (some ⟨db, df, none⟩) (o.nD + 64) cD, .slice (some ⟨xb, xf, none⟩) (o.nX + 64) cX, .slice (some ⟨tb, tf, none⟩) (o.nT + 64) cT, .slice vO o.nV cV] 41)).cell? ⟨w.heap.size, 9, none⟩ = some (.int .i64 o.N) := by simp
  have d0 : ((w.alloc (.cells #[.int .i64 o.kind, .int .i64 o.R, .int .i64 o.C, .slice o.dO o.nD o.cD, .slice o.aO o.nA o.cA, .slice o.bO o.nB o.cB, .slice o.xO o.nX o.cX, .slice o.vO o.nV o.cV, .slice o.tO o.nT o.cT, .int .i64 o.N] 33)).alloc (.cells #[.slice (some ⟨ab, af, none⟩) (o.nA + 64) cA, .slice (some ⟨bb, bf, none⟩) (o.nB + 64) cB, .slice (some ⟨db, df, none⟩) (o.nD + 64) cD, .slice (some ⟨xb, xf, none⟩) (o.nX + 64) cX, .slice (some ⟨tb, tf, none⟩) (o.nT + 64) cT, .slice vO o.nV cV] 41)).cell? ⟨w.heap.size + 1, 0, none⟩ = some (.slice (some ⟨ab, af, none⟩) (o.nA + 64) cA) := by simp
  have d1 : ((w.alloc (.cells #[.int .i64 o.kind, .int .i64 o.R, .int .i64 o.C, .slice o.dO o.nD o.cD, .slice o.aO o.nA o.cA, .slice o.bO o.nB o.cB, .slice o.xO o.nX o.cX, .slice o.vO o.nV o.cV, .slice o.tO o.nT o.cT, .int .i64 o.N] 33)).alloc (.cells #[.slice (some ⟨ab, af, none⟩) (o.nA + 64) cA, .slice (some ⟨bb, bf, none⟩) (o.nB + 64) cB, .slice (some ⟨db, df, none⟩) (o.nD + 64) cD, .slice (some ⟨xb, xf, none⟩) (o.nX + 64) cX, .slice (some ⟨tb, tf, none⟩) (o.nT + 64) cT, .slice vO o.nV cV] 41)).cell? ⟨w.heap.size + 1, 1, none⟩ = some (.slice (some ⟨bb, bf, none⟩) (o.nB + 64) cB) := by simp
  have d2 : ((w.alloc (.cells #[.int .i64 o.kind, .int .i64 o.R, .int .i64 o.C, .slice o.dO o.nD o.cD, .slice o.aO o.nA o.cA, .slice o.bO o.nB o.cB, .slice o.xO o.nX o.cX, .slice o.vO o.nV o.cV, .slice o.tO o.nT o.cT, .int .i64 o.N] 33)).alloc (.cells #[.slice (some ⟨ab, af, none⟩) (o.nA + 64) cA, .slice (some ⟨bb, bf, none⟩) (o.nB + 64) cB, .slice (some ⟨db, df, none⟩) (o.nD + 64) cD, .slice (some ⟨xb, xf, none⟩) (o.nX + 64) cX, .slice (some ⟨tb, tf, none⟩) (o.nT + 64) cT, .slice vO o.nV cV] 41)).cell? ⟨w.heap.size + 1, 2, none⟩ = some (.slice (some ⟨db, df, none⟩) (o.nD + 64) cD) := by simp
  have d3 : ((w.alloc (.cells #[.int .i64 o.kind, .int .i64 o.R, .int .i64 o.C, .slice o.dO o.nD o.cD, .slice o.aO o.nA o.cA, .slice o.bO o.nB o.cB, .slice o.xO o.nX o.cX, .slice o.vO o.nV o.cV, .slice o.tO o.nT o.cT, .int .i64 o.N] 33)).alloc (.cells #[.slice (some ⟨ab, af, none⟩) (o.nA + 64) cA, .slice (some ⟨bb, bf, none⟩) (o.nB + 64) cB, .slice (some ⟨db, df, none⟩) (o.nD + 64) cD, .slice (some ⟨xb, xf, none⟩) (o.nX + 64) cX, .slice (some ⟨tb, tf, none⟩) (o.nT + 64) cT, .slice vO o.nV cV] 41)).cell? ⟨w.heap.size + 1, 3, none⟩ = some (.slice (some ⟨xb, xf, none⟩) (o.nX + 64) cX) := by simp
  have d4 : ((w.alloc (.cells #[.int .i64 o.kind, .int .i64 o.R, .int .i64 o.C, .slice o.dO o.nD o.cD, .slice o.aO o.nA o.cA, .slice o.bO o.nB o.cB, .slice o.xO o.nX o.cX, .slice o.vO o.nV o.cV, .slice o.tO o.nT o.cT, .int .i64 o.N] 33)).alloc (.cells #[.slice (some ⟨ab, af, none⟩) (o.nA + 64) cA, .slice (some ⟨bb, bf, none⟩) (o.nB + 64) cB, .slice (some ⟨db, df, none⟩) (o.nD + 64) cD, .slice (some ⟨xb, xf, none⟩) (o.nX + 64) cX, .slice (some ⟨tb, tf, none⟩) (o.nT + 64) cT, .slice vO o.nV cV] 41)).cell? ⟨w.heap.size + 1, 4, none⟩ = some (.slice (some ⟨tb, tf, none⟩) (o.nT + 64) cT) := by simp
  have d5 : ((w.alloc (.cells #[.int .i64 o.kind, .int .i64 o.R, .int .i64 o.C, .slice o.dO o.nD o.cD, .slice o.aO o.nA o.cA, .slice o.bO o.nB o.cB, .slice o.xO o.nX o.cX, .slice o.vO o.nV o.cV, .slice o.tO o.nT o.cT, .int .i64 o.N] 33)).alloc (.cells #[.slice (some ⟨ab, af, none⟩) (o.nA + 64) cA, .slice (some ⟨bb, bf, none⟩) (o.nB + 64) cB, .slice (some ⟨db, df, none⟩) (o.nD + 64) cD, .slice (some ⟨xb, xf, none⟩) (o.nX + 64) cX, .slice (some ⟨tb, tf, none⟩) (o.nT + 64) cT, .slice vO o.nV cV] 41)).cell? ⟨w.heap.size + 1, 5, none⟩ = some (.slice vO o.nV cV) := by simp
  generalize ((w.alloc (.cells #[.int .i64 o.kind, .int .i64 o.R, .int .i64 o.C, .slice o.dO o.nD o.cD, .slice o.aO o.nA o.cA, .slice o.bO o.nB o.cB, .slice o.xO o.nX o.cX, .slice o.vO o.nV o.cV, .slice o.tO o.nT o.cT, .int .i64 o.N] 33)).alloc (.cells #[.slice (some ⟨ab, af, none⟩) (o.nA + 64) cA, .slice (some ⟨bb, bf, none⟩) (o.nB + 64) cB, .slice (some ⟨db, df, none⟩) (o.nD + 64) cD, .slice (some ⟨xb, xf, none⟩) (o.nX + 64) cX, .slice (some ⟨tb, tf, none⟩) (o.nT + 64) cT, .slice vO o.nV cV] 41)) = w1 at *
  have C0 := hidd c0
  have C1 := hidd c1
  have C2 := hidd c2
  have C3 := hidd c3
  have C4 := hidd c4
  have C5 := hidd c5
  have C6 := hidd c6
  have C7 := hidd c7
  have C8 := hidd c8
  have C9 := hidd c9
  have D0 := hidd d0
  have D1 := hidd d1
  have D2 := hidd d2
  have D3 := hidd d3
  have D4 := hidd d4
  have D5 := hidd d5
  have HI2 := hidd (HI.out.fresh hf0)
  have HR2 := hidd (HR.out.fresh hf0)
  have hF := hf0
  have hC : Below w1.heap.size w1 w1 := Below.refl _ _
  have hB : Below w1.heap.size w1 w1.drew := (Below.refl _ _).drew
  have s0 := sall_next (g := w.heap.size) ⟨Below.refl w1.heap.size w1, c0, c1, c2, c3, c4, c5, c6, c7, c8, c9, d0, d1, d2, d3, d4, d5⟩ hB
  have sv := s0
  have s3 := s0
  go_region_held3 (fun w' => Below w1.heap.size w1 w' ∧ w'.cell? ⟨w.heap.size, 0, none⟩ = some (.int .i64 o.kind) ∧ w'.cell? ⟨w.heap.size, 1, none⟩ = some (.int .i64 o.R) ∧ w'.cell? ⟨w.heap.size, 2, none⟩ = some (.int .i64 o.C) ∧ w'.cell? ⟨w.heap.size, 3, none⟩ = some (.slice o.dO o.nD o.cD) ∧ w'.cell? ⟨w.heap.size, 4, none⟩ = some (.slice o.aO o.nA o.cA) ∧ w'.cell? ⟨w.heap.size, 5, none⟩ = some (.slice o.bO o.nB o.cB) ∧ w'.cell? ⟨w.heap.size, 6, none⟩ = some (.slice o.xO o.nX o.cX) ∧ w'.cell? ⟨w.heap.size, 7, none⟩ = some (.slice o.vO o.nV o.cV) ∧ w'.cell? ⟨w.heap.size, 8, none⟩ = some (.slice o.tO o.nT o.cT) ∧ w'.cell? ⟨w.heap.size, 9, none⟩ = some (.int .i64 o.N) ∧ w'.cell? ⟨w.heap.size + 1, 0, none⟩ = some (.slice (some ⟨ab, af, none⟩) (o.nA + 64) cA) ∧ w'.cell? ⟨w.heap.size + 1, 1, none⟩ = some (.slice (some ⟨bb, bf, none⟩) (o.nB + 64) cB) ∧ w'.cell? ⟨w.heap.size + 1, 2, none⟩ = some (.slice (some ⟨db, df, none⟩) (o.nD + 64) cD) ∧ w'.cell? ⟨w.heap.size + 1, 3, none⟩ = some (.slice (some ⟨xb, xf, none⟩) (o.nX + 64) cX) ∧ w'.cell? ⟨w.heap.size + 1, 4, none⟩ = some (.slice (some ⟨tb, tf, none⟩) (o.nT + 64) cT) ∧ w'.cell? ⟨w.heap.size + 1, 5, none⟩ = some (.slice vO o.nV cV))
    (first
      | with_reducible exact s3
      | with_reducible exact sv
      | with_reducible exact s0
      | go_keep)
    (first | (go_at_call 10; have hc := vectors_any (HI2.out.fresh (‹Below w1.heap.size w1 _ ∧ _›).1) (HR2.out.fresh (‹Below w1.heap.size w1 _ ∧ _›).1); with_reducible refine hc.mono ?_; clear hc; rintro e wv ⟨vo', cv', rfl, hvs, hfv⟩; have sv := sall_next (g := w.heap.size) (by with_reducible assumption) hfv) | (go_at_call 26; have hc := HP.out _ _ _ _ _ _ _ (short_mkd (HI2.out.x.fresh sv.1)) hvs; unfold Ans at hc; with_reducible refine hc.mono ?_; clear hc; rintro e w3 ⟨la, lc, rfl, hl, hn0⟩; have s3 := sall_next (g := w.heap.size) (by with_reducible assumption) hn0))
  rename_i hHeld
  clear hHeld hC hB s0
  have hC := s3.1
  clear c0 c1 c2 c3 c4 c5 c6 c7 c8 c9 d0 d1 d2 d3 d4 d5
  have c0 := fresh_cell hC C0.out
  have c1 := fresh_cell hC C1.out
  have c2 := fresh_cell hC C2.out
  have c3 := fresh_cell hC C3.out
  have c4 := fresh_cell hC C4.out
  have c5 := fresh_cell hC C5.out
  have c6 := fresh_cell hC C6.out
  have c7 := fresh_cell hC C7.out
  have c8 := fresh_cell hC C8.out
  have c9 := fresh_cell hC C9.out
  have d0 := fresh_cell hC D0.out
  have d1 := fresh_cell hC D1.out
  have d2 := fresh_cell hC D2.out
  have d3 := fresh_cell hC D3.out
  have d4 := fresh_cell hC D4.out
  have d5 := fresh_cell hC D5.out
  go_wp2_with fail
  refine (HQ.out _ _ _ _ _ _ _ (HR2.out.x.fresh hC) (HR2.out.v.fresh hC)).mono ?_
  rintro e w4 ⟨ra, rc', rfl, hv, hn⟩
  replace hC := fresh_trans hC hn
  clear c0 c1 c2 c3 c4 c5 c6 c7 c8 c9 d0 d1 d2 d3 d4 d5
  go_wp2_with fail
  refine (eqNarrow_same (hl.fresh hn) hv (fun _ _ => rfl)).mono ?_
  rintro e wn ⟨rfl, hn3⟩
  replace hC := fresh_trans hC hn3
  go_wp2
  go_ret
  exact ⟨ret_bool (by simp), fresh_trans hF hC⟩
set_option maxRecDepth 20000 in
set_option maxHeartbeats 4000000 in
theorem mixed_turns {w : World} {o : OpD} {ab af bb bf db df xb xf tb tf cA cB cD cX cT cV : Nat} {vO : Option Addr} {Va : Nat → Option Addr} {Vk : Nat → Nat} (hI : InR w ⟨some ⟨ab, af, none⟩, cA, some ⟨bb, bf, none⟩, cB, some ⟨db, df, none⟩, cD, some ⟨xb, xf, none⟩, cX, some ⟨tb, tf, none⟩, cT, vO, cV, Va, Vk⟩ o) (hR : OpR w o) (hk : o.kind = 8) :
    Calls Tryd.prog 17 #[.agg #[.int .i64 o.kind, .int .i64 o.R, .int .i64 o.C, .slice o.dO o.nD o.cD, .slice o.aO o.nA o.cA, .slice o.bO o.nB o.cB, .slice o.xO o.nX o.cX, .slice o.vO o.nV o.cV, .slice o.tO o.nT o.cT, .int .i64 o.N], .agg #[.slice (some ⟨ab, af, none⟩) (o.nA + 64) cA, .slice (some ⟨bb, bf, none⟩) (o.nB + 64) cB, .slice (some ⟨db, df, none⟩) (o.nD + 64) cD, .slice (some ⟨xb, xf, none⟩) (o.nX + 64) cX, .slice (some ⟨tb, tf, none⟩) (o.nT + 64) cT, .slice vO o.nV cV]] w fun e w' => e = .returned (.bool true) ∧ Below w.heap.size w w' := by
  obtain ⟨k, er, hp, hr⟩ := turns_uni o.nT o.Tc o.Ts o.N hR.sT
  have HI := hidd hI
  have HR := hidd hR
  have HP := hidd hp
  have HQ := hidd hr
  clear hp hr
  have lA : o.nA + 64 ≤ cA := hI.a.le
  have jA : (0 : Int) ≤ (o.nA : Int) := Int.natCast_nonneg _
  have iA : (o.nA : Int) ≤ (cA : Int) := by omega
  have lB : o.nB + 64 ≤ cB := hI.b.le
  have jB : (0 : Int) ≤ (o.nB : Int) := Int.natCast_nonneg _
  have iB : (o.nB : Int) ≤ (cB : Int) := by omega
  have lD : o.nD + 64 ≤ cD := hI.d.le
  have jD : (0 : Int) ≤ (o.nD : Int) := Int.natCast_nonneg _
  have iD : (o.nD : Int) ≤ (cD : Int) := by omega
  have lX : o.nX + 64 ≤ cX := hI.x.le
  have jX : (0 : Int) ≤ (o.nX : Int) := Int.natCast_nonneg _
  have iX : (o.nX : Int) ≤ (cX : Int) := by omega
  have lT : o.nT + 64 ≤ cT := hI.t.le
  have jT : (0 : Int) ≤ (o.nT : Int) := Int.natCast_nonneg _
  have iT : (o.nT : Int) ≤ (cT : Int) := by omega
  have e6 : (o.kind == 6) = false := by simp [hk]
  have e7 : (o.kind == 7) = false := by simp [hk]
  have e8 : (o.kind == 8) = true := by simp [hk]
  have e9 : (o.kind == 9) = false := by simp [hk]
  clear hI hR hk
  go_enter Tryd.func17, Tryd.ntmps17
  go_wp2_with fail
  have hf0 := fresh_trans (fresh_alloc w (.cells #[.int .i64 o.kind, .int .i64 o.R, .int .i64 o.C, .slice o.dO o.nD o.cD, .slice o.aO o.nA o.cA, .slice o.bO o.nB o.cB, .slice o.xO o.nX o.cX, .slice o.vO o.nV o.cV, .slice o.tO o.nT o.cT, .int .i64 o.N] 33)) (fresh_alloc _ (.cells #[.slice (some ⟨ab, af, none⟩) (o.nA + 64) cA, .slice (some ⟨bb, bf, none⟩) (o.nB + 64) cB, .slice (some ⟨db, df, none⟩) (o.nD + 64) cD, .slice (some ⟨xb, xf, none⟩) (o.nX + 64) cX, .slice (some ⟨tb, tf, none⟩) (o.nT + 64) cT, .slice vO o.nV cV] 41))
  have c0 : ((w.alloc (.cells #[.int .i64 o.kind, .int .i64 o.R, .int .i64 o.C, .slice o.dO o.nD o.cD, .slice o.aO o.nA o.cA, .slice o.bO o.nB o.cB, .slice o.xO o.nX o.cX, .slice o.vO o.nV o.cV, .slice o.tO o.nT o.cT, .int .i64 o.N] 33)).alloc (.cells #[.slice (some ⟨ab, af, none⟩) (o.nA + 64) cA, .slice (some ⟨bb, bf, none⟩) (o.nB + 64) cB, .slice (some ⟨db, df, none⟩) (o.nD + 64) cD, .slice (some ⟨xb, xf, none⟩) (o.nX + 64) cX, .slice (some ⟨tb, tf, none⟩) (o.nT + 64) cT, .slice vO o.nV cV] 41)).cell? ⟨w.heap.size, 0, none⟩ = some (.int .i64 o.kind) := by simp
  have c1 : ((w.alloc (.cells #[.int .i64 o.kind, .int .i64 o.R, .int .i64 o.C, .slice o.dO o.nD o.cD, .slice o.aO o.nA o.cA, .slice o.bO o.nB o.cB, .slice o.xO o.nX o.cX, .slice o.vO o.nV o.cV, .slice o.tO o.nT o.cT, .int .i64 o.N] 33)).alloc (.cells #[.slice (some ⟨ab, af, none⟩) (o.nA + 64) cA, .slice (some ⟨bb, bf, none⟩) (o.nB + 64) cB, .slice (some ⟨db, df, none⟩) (o.nD + 64) cD, .slice (some ⟨xb, xf, none⟩) (o.nX + 64) cX, .slice (some ⟨tb, tf, none⟩) (o.nT + 64) cT, .slice vO o.nV cV] 41)).cell? ⟨w.heap.size, 1, none⟩ = some (.int .i64 o.R) := by simp
  have c2 : ((w.alloc (.cells #[.int .i64 o.kind, .int .i64 o.R, .int .i64 o.C, .slice o.dO o.nD o.cD, .slice o.aO o.nA o.cA, .slice o.bO o.nB o.cB, .slice o.xO o.nX o.cX, .slice o.vO o.nV o.cV, .slice o.tO o.nT o.cT, .int .i64 o.N] 33)).alloc (.cells #[.slice (some ⟨ab, af, none⟩) (o.nA + 64) cA, .slice (some ⟨bb, bf, none⟩) (o.nB + 64) cB, .slice (some ⟨db, df, none⟩) (o.nD + 64) cD, .slice (some ⟨xb, xf, none⟩) (o.nX + 64) cX, .slice (some ⟨tb, tf, none⟩) (o.nT + 64) cT, .slice vO o.nV cV] 41)).cell? ⟨w.heap.size, 2, none⟩ = some (.int .i64 o.C) := by simp
  have c3 : ((w.alloc (.cells #[.int .i64 o.kind, .int .i64 o.R, .int .i64 o.C, .slice o.dO o.nD o.cD, .slice o.aO o.nA o.cA, .slice o.bO o.nB o.cB, .slice o.xO o.nX o.cX, .slice o.vO o.nV o.cV, .slice o.tO o.nT o.cT, .int .i64 o.N] 33)).alloc (.cells #[.slice (some ⟨ab, af, none⟩) (o.nA + 64) cA, .slice (some ⟨bb, bf, none⟩) (o.nB + 64) cB, .slice (some ⟨db, df, none⟩) (o.nD + 64) cD, .slice (some ⟨xb, xf, none⟩) (o.nX + 64) cX, .slice (some ⟨tb, tf, none⟩) (o.nT + 64) cT, .slice vO o.nV cV] 41)).cell? ⟨w.heap.size, 3, none⟩ = some (.slice o.dO o.nD o.cD) := by simp
  have c4 : ((w.alloc (.cells #[.int .i64 o.kind, .int .i64 o.R, .int .i64 o.C, .slice o.dO o.nD o.cD, .slice o.aO o.nA o.cA, .slice o.bO o.nB o.cB, .slice o.xO o.nX o.cX, .slice o.vO o.nV o.cV, .slice o.tO o.nT o.cT, .int .i64 o.N] 33)).alloc (.cells #[.slice (some ⟨ab, af, none⟩) (o.nA + 64) cA, .slice (some ⟨bb, bf, none⟩) (o.nB + 64) cB, .slice (some ⟨db, df, none⟩) (o.nD + 64) cD, .slice (some ⟨xb, xf, none⟩) (o.nX + 64) cX, .slice (some ⟨tb, tf, none⟩) (o.nT + 64) cT, .slice vO o.nV cV] 41)).cell? ⟨w.heap.size, 4, none⟩ = some (.slice o.aO o.nA o.cA) := by simp
  have c5 : ((w.alloc (.cells #[.int .i64 o.kind, .int .i64 o.R, .int .i64 o.C, .slice o.dO o.nD o.cD, .slice o.aO o.nA o.cA, .slice o.bO o.nB o.cB, .slice o.xO o.nX o.cX, .slice o.vO o.nV o.cV, .slice o.tO o.nT o.cT, .int .i64 o.N] 33)).alloc (.cells #[.slice (some ⟨ab, af, none⟩) (o.nA + 64) cA, .slice (some ⟨bb, bf, none⟩) (o.nB + 64) cB, .slice (some ⟨db, df, none⟩) (o.nD + 64) cD, .slice (some ⟨xb, xf, none⟩) (o.nX + 64) cX, .slice (some ⟨tb, tf, none⟩) (o.nT + 64) cT, .slice vO o.nV cV] 41)).cell? ⟨w.heap.size, 5, none⟩ = some (.slice o.bO o.nB o.cB) := by simp
  have c6 : ((w.alloc (.cells #[.int .i64 o.kind, .int .i64 o.R, .int .i64 o.C, .slice o.dO o.nD o.cD, .slice o.aO o.nA o.cA, .slice o.bO o.nB o.cB, .slice o.xO o.nX o.cX, .slice o.vO o.nV o.cV, .slice o.tO o.nT o.cT, .int .i64 o.N] 33)).alloc (.cells #[.slice (some ⟨ab, af, none⟩) (o.nA + 64) cA, .slice (some ⟨bb, bf, none⟩) (o.nB + 64) cB, .slice (some ⟨db, df, none⟩) (o.nD + 64) cD, .slice (some ⟨xb, xf, none⟩) (o.nX + 64) cX, .slice (some ⟨tb, tf, none⟩) (o.nT + 64) cT, .slice vO o.nV cV] 41)).cell? ⟨w.heap.size, 6, none⟩ = some (.slice o.xO o.nX o.cX) := by simp
  have c7 : ((w.alloc (.cells #[.int .i64 o.kind, .int .i64 o.R, .int .i64 o.C, .slice o.dO o.nD o.cD, .slice o.aO o.nA o.cA, .slice o.bO o.nB o.cB, .slice o.xO o.nX o.cX, .slice o.vO o.nV o.cV, .slice o.tO o.nT o.cT, .int .i64 o.N] 33)).alloc (.cells #[.slice (some ⟨ab, af, none⟩) (o.nA + 64) cA, .slice (some ⟨bb, bf, none⟩) (o.nB + 64) cB, .slice (some ⟨db, df, none⟩) (o.nD + 64) cD, .slice (some ⟨xb, xf, none⟩) (o.nX + 64) cX, .slice (some ⟨tb, tf, none⟩) (o.nT + 64) cT, .slice vO o.nV cV] 41)).cell? ⟨w.heap.size, 7, none⟩ = some (.slice o.vO o.nV o.cV) := by simp
  have c8 : ((w.alloc (.cells #[.int .i64 o.kind, .int .i64 o.R, .int .i64 o.C, .slice o.dO o.nD o.cD, .slice o.aO o.nA o.cA, .slice o.bO o.nB o.cB, .slice o.xO o.nX o.cX, .slice o.vO o.nV o.cV, .slice o.tO o.nT o.cT, .int .i64 o.N] 33)).alloc (.cells #[.slice (some ⟨ab, af, none⟩) (o.nA + 64) cA, .slice (some ⟨bb, bf, none⟩) (o.nB + 64) cB, .slice (some ⟨db, df, none⟩) (o.nD + 64) cD, .slice (some ⟨xb, xf, none⟩) (o.nX + 64) cX, .slice (some ⟨tb, tf, none⟩) (o.nT + 64) cT, .slice vO o.nV cV] 41)).cell? ⟨w.heap.size, 8, none⟩ = some (.slice o.tO o.nT o.cT) := by simp
  have c9 : ((w.alloc (.cells #[.int .i64 o.kind, .int .i64 o.R, .int .i64 o.C, .slice o.dO o.nD o.cD, .slice o.aO o.nA o.cA, .slice o.bO o.nB o.cB, .slice o.xO o.nX o.cX, .slice o.vO o.nV o.cV, .slice o.tO o.nT o.cT, .int .i64 o.N] 33)).alloc (.cells #[.slice (some ⟨ab, af, none⟩) (o.nA + 64) cA, .slice (some ⟨bb, bf, none⟩) (o.nB + 64) cB, .slice (some ⟨db, df, none⟩) (o.nD + 64) cD, .slice (some ⟨xb, xf, none⟩) (o.nX + 64) cX, .slice (some ⟨tb, tf, none⟩) (o.nT + 64) cT, .slice vO o.nV cV] 41)).cell? ⟨w.heap.size, 9, none⟩ = some (.int .i64 o.N) := by simp
  have d0 : ((w.alloc (.cells #[.int .i64 o.kind, .int .i64 o.R, .int .i64 o.C, .slice o.dO o.nD o.cD, .slice o.aO o.nA o.cA, .slice o.bO o.nB o.cB, .slice o.xO o.nX o.cX, .slice o.vO o.nV o.cV, .slice o.tO o.nT o.cT, .int .i64 o.N] 33)).alloc (.cells #[.slice (some ⟨ab, af, none⟩) (o.nA + 64) cA, .slice (some ⟨bb, bf, none⟩) (o.nB + 64) cB, .slice (some ⟨db, df, none⟩) (o.nD + 64) cD, .slice (some ⟨xb, xf, none⟩) (o.nX + 64) cX, .slice (some ⟨tb, tf, none⟩) (o.nT + 64) cT, .slice vO o.nV cV] 41)).cell? ⟨w.heap.size + 1, 0, none⟩ = some (.slice (some ⟨ab, af, none⟩) (o.nA + 64) cA) := by simp
  have d1 : ((w.alloc (.cells #[.int .i64 o.kind, .int .i64 o.R, .int .i64 o.C, .slice o.dO o.nD o.cD, .slice o.aO o.nA o.cA, .slice o.bO o.nB o.cB, .slice o.xO o.nX o.cX, .slice o.vO o.nV o.cV, .slice o.tO o.nT o.cT, .int .i64 o.N] 33)).alloc (.cells #[.slice (some ⟨ab, af, none⟩) (o.nA + 64) cA, .slice (some ⟨bb, bf, none⟩) (o.nB + 64) cB, .slice (some ⟨db, df, none⟩) (o.nD + 64) cD, .slice (some ⟨xb, xf, none⟩) (o.nX + 64) cX, .slice (some ⟨tb, tf, none⟩) (o.nT + 64) cT, .slice vO o.nV cV] 41)).cell? ⟨w.heap.size + 1, 1, none⟩ = some (.slice (some ⟨bb, bf, none⟩) (o.nB + 64) cB) := by simp
  have d2 : ((w.alloc (.cells #[.int .i64 o.kind, .int .i64 o.R, .int .i64 o.C, .slice o.dO o.nD o.cD, .slice o.aO o.nA o.cA, .slice o.bO o.nB o.cB, .slice o.xO o.nX o.cX, .slice o.vO o.nV o.cV, .slice o.tO o.nT o.cT, .int .i64 o.N] 33)).alloc (.cells #[.slice (some ⟨ab, af, none⟩) (o.nA + 64) cA, .slice (some ⟨bb, bf, none⟩) (o.nB + 64) cB, .slice (some ⟨db, df, none⟩) (o.nD + 64) cD, .slice (some ⟨xb, xf, none⟩) (o.nX + 64) cX, .slice (some ⟨tb, tf, none⟩) (o.nT + 64) cT, .slice vO o.nV cV] 41)).cell? ⟨w.heap.size + 1, 2, none⟩ = some (.slice (some ⟨db, df, none⟩) (o.nD + 64) cD) := by simp
  have d3 : ((w.alloc (.cells #[.int .i64 o.kind, .int .i64 o.R, .int .i64 o.C, .slice o.dO o.nD o.cD, .slice o.aO o.nA o.cA, .slice o.bO o.nB o.cB, .slice o.xO o.nX o.cX, .slice o.vO o.nV o.cV, .slice o.tO o.nT o.cT, .int .i64 o.N] 33)).alloc (.cells #[.slice (some ⟨ab, af, none⟩) (o.nA + 64) cA, .slice (some ⟨bb, bf, none⟩) (o.nB + 64) cB, .slice (some ⟨db, df, none⟩) (o.nD + 64) cD, .slice (some ⟨xb, xf, none⟩) (o.nX + 64) cX, .slice (some ⟨tb, tf, none⟩) (o.nT + 64) cT, .slice vO o.nV cV] 41)).cell? ⟨w.heap.size + 1, 3, none⟩ = some (.slice (some ⟨xb, xf, none⟩) (o.nX + 64) cX) := by simp
  have d4 : ((w.alloc (.cells #[.int .i64 o.kind, .int .i64 o.R, .int .i64 o.C, .slice o.dO o.nD o.cD, .slice o.aO o.nA o.cA, .slice o.bO o.nB o.cB, .slice o.xO o.nX o.cX, .slice o.vO o.nV o.cV, .slice o.tO o.nT o.cT, .int .i64 o.N] 33)).alloc (.cells #[.slice (some ⟨ab, af, none⟩) (o.nA + 64) cA, .slice (some ⟨bb, bf, none⟩) (o.nB + 64) cB, .slice (some ⟨db, df, none⟩) (o.nD + 64) cD, .slice (some ⟨xb, xf, none⟩) (o.nX + 64) cX, .slice (some ⟨tb, tf, none⟩) (o.nT + 64) cT, .slice vO o.nV cV] 41)).cell? ⟨w.heap.size + 1, 4, none⟩ = some (.slice (some ⟨tb, tf, none⟩) (o.nT + 64) cT) := by simp
  have d5 : ((w.alloc (.cells #[.int .i64 o.kind, .int .i64 o.R, .int .i64 o.C, .slice o.dO o.nD o.cD, .slice o.aO o.nA o.cA, .slice o.bO o.nB o.cB, .slice o.xO o.nX o.cX, .slice o.vO o.nV o.cV, .slice o.tO o.nT o.cT, .int .i64 o.N] 33)).alloc (.cells #[.slice (some ⟨ab, af, none⟩) (o.nA + 64) cA, .slice (some ⟨bb, bf, none⟩) (o.nB + 64) cB, .slice (some ⟨db, df, none⟩) (o.nD + 64) cD, .slice (some ⟨xb, xf, none⟩) (o.nX + 64) cX, .slice (some ⟨tb, tf, none⟩) (o.nT + 64) cT, .slice vO o.nV cV] 41)).cell? ⟨w.heap.size + 1, 5, none⟩ = some (.slice vO o.nV cV) := by simp
  generalize ((w.alloc (.cells #[.int .i64 o.kind, .int .i64 o.R, .int .i64 o.C, .slice o.dO o.nD o.cD, .slice o.aO o.nA o.cA, .slice o.bO o.nB o.cB, .slice o.xO o.nX o.cX, .slice o.vO o.nV o.cV, .slice o.tO o.nT o.cT, .int .i64 o.N] 33)).alloc (.cells #[.slice (some ⟨ab, af, none⟩) (o.nA + 64) cA, .slice (some ⟨bb, bf, none⟩) (o.nB + 64) cB, .slice (some ⟨db, df, none⟩) (o.nD + 64) cD, .slice (some ⟨xb, xf, none⟩) (o.nX + 64) cX, .slice (some ⟨tb, tf, none⟩) (o.nT + 64) cT, .slice vO o.nV cV] 41)) = w1 at *
  have C0 := hidd c0
  have C1 := hidd c1
  have C2 := hidd c2
  have C3 := hidd c3
  have C4 := hidd c4
  have C5 := hidd c5
  have C6 := hidd c6
  have C7 := hidd c7
  have C8 := hidd c8
  have C9 := hidd c9
  have D0 := hidd d0
  have D1 := hidd d1
  have D2 := hidd d2
  have D3 := hidd d3
  have D4 := hidd d4
  have D5 := hidd d5
  have HI2 := hidd (HI.out.fresh hf0)
  have HR2 := hidd (HR.out.fresh hf0)
  have hF := hf0
  have hC : Below w1.heap.size w1 w1 := Below.refl _ _
  have hB : Below w1.heap.size w1 w1.drew := (Below.refl _ _).drew
  have s0 := sall_next (g := w.heap.size) ⟨Below.refl w1.heap.size w1, c0, c1, c2, c3, c4, c5, c6, c7, c8, c9, d0, d1, d2, d3, d4, d5⟩ hB
  have sv := s0
  have s3 := s0
  go_region_held3 (fun w' => Below w1.heap.size w1 w' ∧ w'.cell? ⟨w.heap.size, 0, none⟩ = some (.int .i64 o.kind) ∧ w'.cell? ⟨w.heap.size, 1, none⟩ = some (.int .i64 o.R) ∧ w'.cell? ⟨w.heap.size, 2, none⟩ = some (.int .i64 o.C) ∧ w'.cell? ⟨w.heap.size, 3, none⟩ = some (.slice o.dO o.nD o.cD) ∧ w'.cell? ⟨w.heap.size, 4, none⟩ = some (.slice o.aO o.nA o.cA) ∧ w'.cell? ⟨w.heap.size, 5, none⟩ = some (.slice o.bO o.nB o.cB) ∧ w'.cell? ⟨w.heap.size, 6, none⟩ = some (.slice o.xO o.nX o.cX) ∧ w'.cell? ⟨w.heap.size, 7, none⟩ = some (.slice o.vO o.nV o.cV) ∧ w'.cell? ⟨w.heap.size, 8, none⟩ = some (.slice o.tO o.nT o.cT) ∧ w'.cell? ⟨w.heap.size, 9, none⟩ = some (.int .i64 o.N) ∧ w'.cell? ⟨w.heap.size + 1, 0, none⟩ = some (.slice (some ⟨ab, af, none⟩) (o.nA + 64) cA) ∧ w'.cell? ⟨w.heap.size + 1, 1, none⟩ = some (.slice (some ⟨bb, bf, none⟩) (o.nB + 64) cB) ∧ w'.cell? ⟨w.heap.size + 1, 2, none⟩ = some (.slice (some ⟨db, df, none⟩) (o.nD + 64) cD) ∧ w'.cell? ⟨w.heap.size + 1, 3, none⟩ = some (.slice (some ⟨xb, xf, none⟩) (o.nX + 64) cX) ∧ w'.cell? ⟨w.heap.size + 1, 4, none⟩ = some (.slice (some ⟨tb, tf, none⟩) (o.nT + 64) cT) ∧ w'.cell? ⟨w.heap.size + 1, 5, none⟩ = some (.slice vO o.nV cV))
    (first
      | with_reducible exact s3
      | with_reducible exact sv
      | with_reducible exact s0
      | go_keep)
    (first | (go_at_call 27; have hc := HP.out _ _ _ (short_tcs (HI2.out.t.fresh (‹Below w1.heap.size w1 _ ∧ _›).1)); unfold AnsT at hc; with_reducible refine hc.mono ?_; clear hc; rintro e w3 ⟨la, lc, LA, LK, rfl, hl, hn0⟩; have s3 := sall_next (g := w.heap.size) (by with_reducible assumption) hn0))
  rename_i hHeld
  clear hHeld hC hB s0
  have hC := s3.1
  clear c0 c1 c2 c3 c4 c5 c6 c7 c8 c9 d0 d1 d2 d3 d4 d5
  have c0 := fresh_cell hC C0.out
  have c1 := fresh_cell hC C1.out
  have c2 := fresh_cell hC C2.out
  have c3 := fresh_cell hC C3.out
  have c4 := fresh_cell hC C4.out
  have c5 := fresh_cell hC C5.out
  have c6 := fresh_cell hC C6.out
  have c7 := fresh_cell hC C7.out
  have c8 := fresh_cell hC C8.out
  have c9 := fresh_cell hC C9.out
  have d0 := fresh_cell hC D0.out
  have d1 := fresh_cell hC D1.out
  have d2 := fresh_cell hC D2.out
  have d3 := fresh_cell hC D3.out
  have d4 := fresh_cell hC D4.out
  have d5 := fresh_cell hC D5.out
  go_wp2_with fail
  refine (HQ.out _ _ _ (HR2.out.t.fresh hC)).mono ?_
  rintro e w4 ⟨ra, rc', RA, RK, rfl, hv, hn⟩
  replace hC := fresh_trans hC hn
  clear c0 c1 c2 c3 c4 c5 c6 c7 c8 c9 d0 d1 d2 d3 d4 d5
  go_wp2_with fail
  refine (eqTables_same (hl.fresh hn) hv).mono ?_
  rintro e wn ⟨rfl, hn3⟩
  replace hC := fresh_trans hC hn3
  go_wp2
  go_ret
  exact ⟨ret_bool (by simp), fresh_trans hF hC⟩
set_option maxRecDepth 20000 in
set_option maxHeartbeats 4000000 in
theorem mixed_rotate {w : World} {o : OpD} {ab af bb bf db df xb xf tb tf cA cB cD cX cT cV : Nat} {vO : Option Addr} {Va : Nat → Option Addr} {Vk : Nat → Nat} (hI : InR w ⟨some ⟨ab, af, none⟩, cA, some ⟨bb, bf, none⟩, cB, some ⟨db, df, none⟩, cD, some ⟨xb, xf, none⟩, cX, some ⟨tb, tf, none⟩, cT, vO, cV, Va, Vk⟩ o) (hR : OpR w o) (hk : o.kind = 9) :
    Calls Tryd.prog 17 #[.agg #[.int .i64 o.kind, .int .i64 o.R, .int .i64 o.C, .slice o.dO o.nD o.cD, .slice o.aO o.nA o.cA, .slice o.bO o.nB o.cB, .slice o.xO o.nX o.cX, .slice o.vO o.nV o.cV, .slice o.tO o.nT o.cT, .int .i64 o.N], .agg #[.slice (some ⟨ab, af, none⟩) (o.nA + 64) cA, .slice (some ⟨bb, bf, none⟩) (o.nB + 64) cB, .slice (some ⟨db, df, none⟩) (o.nD + 64) cD, .slice (some ⟨xb, xf, none⟩) (o.nX + 64) cX, .slice (some ⟨tb, tf, none⟩) (o.nT + 64) cT, .slice vO o.nV cV]] w fun e w' => e = .returned (.bool true) ∧ Below w.heap.size w w' := by
  obtain ⟨k, er, F, hp, hr⟩ := rotate_uni o.nA o.nT o.A o.Tc o.Ts hR.sA hR.sT hR.bA
  have HI := hidd hI
  have HR := hidd hR
  have HP := hidd hp
  have HQ := hidd hr
  clear hp hr
  have lA : o.nA + 64 ≤ cA := hI.a.le
  have jA : (0 : Int) ≤ (o.nA : Int) := Int.natCast_nonneg _
  have iA : (o.nA : Int) ≤ (cA : Int) := by omega
  have lB : o.nB + 64 ≤ cB := hI.b.le
  have jB : (0 : Int) ≤ (o.nB : Int) := Int.natCast_nonneg _
  have iB : (o.nB : Int) ≤ (cB : Int) := by omega
  have lD : o.nD + 64 ≤ cD := hI.d.le
  have jD : (0 : Int) ≤ (o.nD : Int) := Int.natCast_nonneg _
  have iD : (o.nD : Int) ≤ (cD : Int) := by omega
  have lX : o.nX + 64 ≤ cX := hI.x.le
  have jX : (0 : Int) ≤ (o.nX : Int) := Int.natCast_nonneg _
  have iX : (o.nX : Int) ≤ (cX : Int) := by omega
  have lT : o.nT + 64 ≤ cT := hI.t.le
  have jT : (0 : Int) ≤ (o.nT : Int) := Int.natCast_nonneg _
  have iT : (o.nT : Int) ≤ (cT : Int) := by omega
  have e6 : (o.kind == 6) = false := by simp [hk]
  have e7 : (o.kind == 7) = false := by simp [hk]
  have e8 : (o.kind == 8) = false := by simp [hk]
  have e9 : (o.kind == 9) = true := by simp [hk]
  clear hI hR hk
  go_enter Tryd.func17, Tryd.ntmps17
  go_wp2_with fail
  have hf0 := fresh_trans (fresh_alloc w (.cells #[.int .i64 o.kind, .int .i64 o.R, .int .i64 o.C, .slice o.dO o.nD o.cD, .slice o.aO o.nA o.cA, .slice o.bO o.nB o.cB, .slice o.xO o.nX o.cX, .slice o.vO o.nV o.cV, .slice o.tO o.nT o.cT, .int .i64 o.N] 33)) (fresh_alloc _ (.cells #[.slice (some ⟨ab, af, none⟩) (o.nA + 64) cA, .slice (some ⟨bb, bf, none⟩) (o.nB + 64) cB, .slice (some ⟨db, df, none⟩) (o.nD + 64) cD, .slice (some ⟨xb, xf, none⟩) (o.nX + 64) cX, .slice (some ⟨tb, tf, none⟩) (o.nT + 64) cT, .slice vO o.nV cV] 41))
  have c0 : ((w.alloc (.cells #[.int .i64 o.kind, .int .i64 o.R, .int .i64 o.C, .slice o.dO o.nD o.cD, .slice o.aO o.nA o.cA, .slice o.bO o.nB o.cB, .slice o.xO o.nX o.cX, .slice o.vO o.nV o.cV, .slice o.tO o.nT o.cT, .int .i64 o.N] 33)).alloc (.cells #[.slice (some ⟨ab, af, none⟩) (o.nA + 64) cA, .slice (some ⟨bb, bf, none⟩) (o.nB + 64) cB, .slice (some ⟨db, df, none⟩) (o.nD + 64) cD, .slice (some ⟨xb, xf, none⟩) (o.nX + 64) cX, .slice (some ⟨tb, tf, none⟩) (o.nT + 64) cT, .slice vO o.nV cV] 41)).cell? ⟨w.heap.size, 0, none⟩ = some (.int .i64 o.kind) := by simp
  have c1 : ((w.alloc (.cells #[.int .i64 o.kind, .int .i64 o.R, .int .i64 o.C, .slice o.dO o.nD o.cD, .slice o.aO o.nA o.cA, .slice o.bO o.nB o.cB, .slice o.xO o.nX o.cX, .slice o.vO o.nV o.cV, .slice o.tO o.nT o.cT, .int .i64 o.N] 33)).alloc (.cells #[.slice (some ⟨ab, af, none⟩) (o.nA + 64) cA, .slice (some ⟨bb, bf, none⟩) (o.nB + 64) cB, .slice (some ⟨db, df, none⟩) (o.nD + 64) cD, .slice (some ⟨xb, xf, none⟩) (o.nX + 64) cX, .slice (some ⟨tb, tf, none⟩) (o.nT + 64) cT, .slice vO o.nV cV] 41)).cell? ⟨w.heap.size, 1, none⟩ = some (.int .i64 o.R) := by simp
  have c2 : ((w.alloc (.cells #[.int .i64 o.kind, .int .i64 o.R, .int .i64 o.C, .slice o.dO o.nD o.cD, .slice o.aO o.nA o.cA, .slice o.bO o.nB o.cB, .slice o.xO o.nX o.cX, .slice o.vO o.nV o.cV, .slice o.tO o.nT o.cT, .int .i64 o.N] 33)).alloc (.cells #[.slice (some ⟨ab, af, none⟩) (o.nA + 64) cA, .slice (some ⟨bb, bf, none⟩) (o.nB + 64) cB, .slice (some ⟨db, df, none⟩) (o.nD + 64) cD, .slice (some ⟨xb, xf, none⟩) (o.nX + 64) cX, .slice (some ⟨tb, tf, none⟩) (o.nT + 64) cT, .slice vO o.nV cV] 41)).cell? ⟨w.heap.size, 2, none⟩ = some (.int .i64 o.C) := by simp
  have c3 : ((w.alloc (.cells #[.int .i64 o.kind, .int .i64 o.R, .int .i64 o.C, .slice o.dO o.nD o.cD, .slice o.aO o.nA o.cA, .slice o.bO o.nB o.cB, .slice o.xO o.nX o.cX, .slice o.vO o.nV o.cV, .slice o.tO o.nT o.cT, .int .i64 o.N] 33)).alloc (.cells #[.slice (some ⟨ab, af, none⟩) (o.nA + 64) cA, .slice (some ⟨bb, bf, none⟩) (o.nB + 64) cB, .slice (some ⟨db, df, none⟩) (o.nD + 64) cD, .slice (some ⟨xb, xf, none⟩) (o.nX + 64) cX, .slice (some ⟨tb, tf, none⟩) (o.nT + 64) cT, .slice vO o.nV cV] 41)).cell? ⟨w.heap.size, 3, none⟩ = some (.slice o.dO o.nD o.cD) := by simp
  have c4 : ((w.alloc (.cells #[.int .i64 o.kind, .int .i64 o.R, .int .i64 o.C, .slice o.dO o.nD o.cD, .slice o.aO o.nA o.cA, .slice o.bO o.nB o.cB, .slice o.xO o.nX o.cX, .slice o.vO o.nV o.cV, .slice o.tO o.nT o.cT, .int .i64 o.N] 33)).alloc (.cells #[.slice (some ⟨ab, af, none⟩) (o.nA + 64) cA, .slice (some ⟨bb, bf, none⟩) (o.nB + 64) cB, .slice (some ⟨db, df, none⟩) (o.nD + 64) cD, .slice (some ⟨xb, xf, none⟩) (o.nX + 64) cX, .slice (some ⟨tb, tf, none⟩) (o.nT + 64) cT, .slice vO o.nV cV] 41)).cell? ⟨w.heap.size, 4, none⟩ = some (.slice o.aO o.nA o.cA) := by simp
  have c5 : ((w.alloc (.cells #[.int .i64 o.kind, .int .i64 o.R, .int .i64 o.C, .slice o.dO o.nD o.cD, .slice o.aO o.nA o.cA, .slice o.bO o.nB o.cB, .slice o.xO o.nX o.cX, .slice o.vO o.nV o.cV, .slice o.tO o.nT o.cT, .int .i64 o.N] 33)).alloc (.cells #[.slice (some ⟨ab, af, none⟩) (o.nA + 64) cA, .slice (some ⟨bb, bf, none⟩) (o.nB + 64) cB, .slice (some ⟨db, df, none⟩) (o.nD + 64) cD, .slice (some ⟨xb, xf, none⟩) (o.nX + 64) cX, .slice (some ⟨tb, tf, none⟩) (o.nT + 64) cT, .slice vO o.nV cV] 41)).cell? ⟨w.heap.size, 5, none⟩ = some (.slice o.bO o.nB o.cB) := by simp
  have c6 : ((w.alloc (.cells #[.int .i64 o.kind, .int .i64 o.R, .int .i64 o.C, .slice o.dO o.nD o.cD, .slice o.aO o.nA o.cA, .slice o.bO o.nB o.cB, .slice o.xO o.nX o.cX, .slice o.vO o.nV o.cV, .slice o.tO o.nT o.cT, .int .i64 o.N] 33)).alloc (.cells #[.slice (some ⟨ab, af, none⟩) (o.nA + 64) cA, .slice (some ⟨bb, bf, none⟩) (o.nB + 64) cB, .slice (some ⟨db, df, none⟩) (o.nD + 64) cD, .slice (some ⟨xb, xf, none⟩) (o.nX + 64) cX, .slice (some ⟨tb, tf, none⟩) (o.nT + 64) cT, .slice vO o.nV cV] 41)).cell? ⟨w.heap.size, 6, none⟩ = some (.slice o.xO o.nX o.cX) := by simp
  have c7 : ((w.alloc (.cells #[.int .i64 o.kind, .int .i64 o.R, .int .i64 o.C, .slice o.dO o.nD o.cD, .slice o.aO o.nA o.cA, .slice o.bO o.nB o.cB, .slice o.xO o.nX o.cX, .slice o.vO o.nV o.cV, .slice o.tO o.nT o.cT, .int .i64 o.N] 33)).alloc (.cells #[.slice (some ⟨ab, af, none⟩) (o.nA + 64) cA, .slice (some ⟨bb, bf, none⟩) (o.nB + 64) cB, .slice (some ⟨db, df, none⟩) (o.nD + 64) cD, .slice (some ⟨xb, xf, none⟩) (o.nX + 64) cX, .slice (some ⟨tb, tf, none⟩) (o.nT + 64) cT, .slice vO o.nV cV] 41)).cell? ⟨w.heap.size, 7, none⟩ = some (.slice o.vO o.nV o.cV) := by simp
  have c8 : ((w.alloc (.cells #[.int .i64 o.kind, .int .i64 o.R, .int .i64 o.C, .slice o.dO o.nD o.cD, .slice o.aO o.nA o.cA, .slice o.bO o.nB o.cB, .slice o.xO o.nX o.cX, .slice o.vO o.nV o.cV, .slice o.tO o.nT o.cT, .int .i64 o.N] 33)).alloc (.cells #[.slice (some ⟨ab, af, none⟩) (o.nA + 64) cA, .slice (some ⟨bb, bf, none⟩) (o.nB + 64) cB, .slice (some ⟨db, df, none⟩) (o.nD + 64) cD, .slice (some ⟨xb, xf, none⟩) (o.nX + 64) cX, .slice (some ⟨tb, tf, none⟩) (o.nT + 64) cT, .slice vO o.nV cV] 41)).cell? ⟨w.heap.size, 8, none⟩ = some (.slice o.tO o.nT o.cT) := by simp
  have c9 : ((w.alloc (.cells #[.int .i64 o.kind, .int .i64 o.R, .int .i64 o.C, .slice o.dO o.nD o.cD, .slice o.aO o.nA o.cA, .slice o.bO o.nB o.cB, .slice o.xO o.nX o.cX, .slice o.vO o.nV o.cV, .slice o.tO o.nT o.cT, .int .i64 o.N] 33)).alloc (.cells #[.slice (some ⟨ab, af, none⟩) (o.nA + 64) cA, .slice (some ⟨bb, bf, none⟩) (o.nB + 64) cB, .slice (some ⟨db, df, none⟩) (o.nD + 64) cD, .slice (some ⟨xb, xf, none⟩) (o.nX + 64) cX, .slice (some ⟨tb, tf, none⟩) (o.nT + 64) cT, .slice vO o.nV cV] 41)).cell? ⟨w.heap.size, 9, none⟩ = some (.int .i64 o.N) := by simp
  have d0 : ((w.alloc (.cells #[.int .i64 o.kind, .int .i64 o.R, .int .i64 o.C, .slice o.dO o.nD o.cD, .slice o.aO o.nA o.cA, .slice o.bO o.nB o.cB, .slice o.xO o.nX o.cX, .slice o.vO o.nV o.cV, .slice o.tO o.nT o.cT, .int .i64 o.N] 33)).alloc (.cells #[.slice (some ⟨ab, af, none⟩) (o.nA + 64) cA, .slice (some ⟨bb, bf, none⟩) (o.nB + 64) cB, .slice (some ⟨db, df, none⟩) (o.nD + 64) cD, .slice (some ⟨xb, xf, none⟩) (o.nX + 64) cX, .slice (some ⟨tb, tf, none⟩) (o.nT + 64) cT, .slice vO o.nV cV] 41)).cell? ⟨w.heap.size + 1, 0, none⟩ = some (.slice (some ⟨ab, af, none⟩) (o.nA + 64) cA) := by simp
  have d1 : ((w.alloc (.cells #[.int .i64 o.kind, .int .i64 o.R, .int .i64 o.C, .slice o.dO o.nD o.cD, .slice o.aO o.nA o.cA, .slice o.bO o.nB o.cB, .slice o.xO o.nX o.cX, .slice o.vO o.nV o.cV, .slice o.tO o.nT o.cT, .int .i64 o.N] 33)).alloc (.cells #[.slice (some ⟨ab, af, none⟩) (o.nA + 64) cA, .slice (some ⟨bb, bf, none⟩) (o.nB + 64) cB, .slice (some ⟨db, df, none⟩) (o.nD + 64) cD, .slice (some ⟨xb, xf, none⟩) (o.nX + 64) cX, .slice (some ⟨tb, tf, none⟩) (o.nT + 64) cT, .slice vO o.nV cV] 41)).cell? ⟨w.heap.size + 1, 1, none⟩ = some (.slice (some ⟨bb, bf, none⟩) (o.nB + 64) cB) := by simp
  have d2 : ((w.alloc (.cells #[.int .i64 o.kind, .int .i64 o.R, .int .i64 o.C, .slice o.dO o.nD o.cD, .slice o.aO o.nA o.cA, .slice o.bO o.nB o.cB, .slice o.xO o.nX o.cX, .slice o.vO o.nV o.cV, .slice o.tO o.nT o.cT, .int .i64 o.N] 33)).alloc (.cells #[.slice (some ⟨ab, af, none⟩) (o.nA + 64) cA, .slice (some ⟨bb, bf, none⟩) (o.nB + 64) cB, .slice (some ⟨db, df, none⟩) (o.nD + 64) cD, .slice (some ⟨xb, xf, none⟩) (o.nX + 64) cX, .slice (some ⟨tb, tf, none⟩) (o.nT + 64) cT, .slice vO o.nV cV] 41)).cell? ⟨w.heap.size + 1, 2, none⟩ = some (.slice (some ⟨db, df, none⟩) (o.nD + 64) cD) := by simp
  have d3 : ((w.alloc (.cells #[.int .i64 o.kind, .int .i64 o.R, .int .i64 o.C, .slice o.dO o.nD o.cD, .slice o.aO o.nA o.cA, .slice o.bO o.nB o.cB, .slice o.xO o.nX o.cX, .slice o.vO o.nV o.cV, .slice o.tO o.nT o.cT, .int .i64 o.N] 33)).alloc (.cells #[.slice (some ⟨ab, af, none⟩) (o.nA + 64) cA, .slice (some ⟨bb, bf, none⟩) (o.nB + 64) cB, .slice (some ⟨db, df, none⟩) (o.nD + 64) cD, .slice (some ⟨xb, xf, none⟩) (o.nX + 64) cX, .slice (some ⟨tb, tf, none⟩) (o.nT + 64) cT, .slice vO o.nV cV] 41)).cell? ⟨w.heap.size + 1, 3, none⟩ = some (.slice (some ⟨xb, xf, none⟩) (o.nX + 64) cX) := by simp
  have d4 : ((w.alloc (.cells #[.int .i64 o.kind, .int .i64 o.R, .int .i64 o.C, .slice o.dO o.nD o.cD, .slice o.aO o.nA o.cA, .slice o.bO o.nB o.cB, .slice o.xO o.nX o.cX, .slice o.vO o.nV o.cV, .slice o.tO o.nT o.cT, .int .i64 o.N] 33)).alloc (.cells #[.slice (some ⟨ab, af, none⟩) (o.nA + 64) cA, .slice (some ⟨bb, bf, none⟩) (o.nB + 64) cB, .slice (some ⟨db, df, none⟩) (o.nD + 64) cD, .slice (some ⟨xb, xf, none⟩) (o.nX + 64) cX, .slice (some ⟨tb, tf, none⟩) (o.nT + 64) cT, .slice vO o.nV cV] 41)).cell? ⟨w.heap.size + 1, 4, none⟩ = some (.slice (some ⟨tb, tf, none⟩) (o.nT + 64) cT) := by simp
  have d5 : ((w.alloc (.cells #[.int .i64 o.kind, .int .i64 o.R, .int .i64 o.C, .slice o.dO o.nD o.cD, .slice o.aO o.nA o.cA, .slice o.bO o.nB o.cB, .slice o.xO o.nX o.cX, .slice o.vO o.nV o.cV, .slice o.tO o.nT o.cT, .int .i64 o.N] 33)).alloc (.cells #[.slice (some ⟨ab, af, none⟩) (o.nA + 64) cA, .slice (some ⟨bb, bf, none⟩) (o.nB + 64) cB, .slice (some ⟨db, df, none⟩) (o.nD + 64) cD, .slice (some ⟨xb, xf, none⟩) (o.nX + 64) cX, .slice (some ⟨tb, tf, none⟩) (o.nT + 64) cT, .slice vO o.nV cV] 41)).cell? ⟨w.heap.size + 1, 5, none⟩ = some (.slice vO o.nV cV) := by simp
  generalize ((w.alloc (.cells #[.int .i64 o.kind, .int .i64 o.R, .int .i64 o.C, .slice o.dO o.nD o.cD, .slice o.aO o.nA o.cA, .slice o.bO o.nB o.cB, .slice o.xO o.nX o.cX, .slice o.vO o.nV o.cV, .slice o.tO o.nT o.cT, .int .i64 o.N] 33)).alloc (.cells #[.slice (some ⟨ab, af, none⟩) (o.nA + 64) cA, .slice (some ⟨bb, bf, none⟩) (o.nB + 64) cB, .slice (some ⟨db, df, none⟩) (o.nD + 64) cD, .slice (some ⟨xb, xf, none⟩) (o.nX + 64) cX, .slice (some ⟨tb, tf, none⟩) (o.nT + 64) cT, .slice vO o.nV cV] 41)) = w1 at *
  have C0 := hidd c0
  have C1 := hidd c1
  have C2 := hidd c2
  have C3 := hidd c3
  have C4 := hidd c4
  have C5 := hidd c5
  have C6 := hidd c6
  have C7 := hidd c7
  have C8 := hidd c8
  have C9 := hidd c9
  have D0 := hidd d0
  have D1 := hidd d1
  have D2 := hidd d2
  have D3 := hidd d3
  have D4 := hidd d4
  have D5 := hidd d5
  have HI2 := hidd (HI.out.fresh hf0)
  have HR2 := hidd (HR.out.fresh hf0)
  have hF := hf0
  have hC : Below w1.heap.size w1 w1 := Below.refl _ _
  have hB : Below w1.heap.size w1 w1.drew := (Below.refl _ _).drew
  have s0 := sall_next (g := w.heap.size) ⟨Below.refl w1.heap.size w1, c0, c1, c2, c3, c4, c5, c6, c7, c8, c9, d0, d1, d2, d3, d4, d5⟩ hB
  have sv := s0
  have s3 := s0
  go_region_held3 (fun w' => Below w1.heap.size w1 w' ∧ w'.cell? ⟨w.heap.size, 0, none⟩ = some (.int .i64 o.kind) ∧ w'.cell? ⟨w.heap.size, 1, none⟩ = some (.int .i64 o.R) ∧ w'.cell? ⟨w.heap.size, 2, none⟩ = some (.int .i64 o.C) ∧ w'.cell? ⟨w.heap.size, 3, none⟩ = some (.slice o.dO o.nD o.cD) ∧ w'.cell? ⟨w.heap.size, 4, none⟩ = some (.slice o.aO o.nA o.cA) ∧ w'.cell? ⟨w.heap.size, 5, none⟩ = some (.slice o.bO o.nB o.cB) ∧ w'.cell? ⟨w.heap.size, 6, none⟩ = some (.slice o.xO o.nX o.cX) ∧ w'.cell? ⟨w.heap.size, 7, none⟩ = some (.slice o.vO o.nV o.cV) ∧ w'.cell? ⟨w.heap.size, 8, none⟩ = some (.slice o.tO o.nT o.cT) ∧ w'.cell? ⟨w.heap.size, 9, none⟩ = some (.int .i64 o.N) ∧ w'.cell? ⟨w.heap.size + 1, 0, none⟩ = some (.slice (some ⟨ab, af, none⟩) (o.nA + 64) cA) ∧ w'.cell? ⟨w.heap.size + 1, 1, none⟩ = some (.slice (some ⟨bb, bf, none⟩) (o.nB + 64) cB) ∧ w'.cell? ⟨w.heap.size + 1, 2, none⟩ = some (.slice (some ⟨db, df, none⟩) (o.nD + 64) cD) ∧ w'.cell? ⟨w.heap.size + 1, 3, none⟩ = some (.slice (some ⟨xb, xf, none⟩) (o.nX + 64) cX) ∧ w'.cell? ⟨w.heap.size + 1, 4, none⟩ = some (.slice (some ⟨tb, tf, none⟩) (o.nT + 64) cT) ∧ w'.cell? ⟨w.heap.size + 1, 5, none⟩ = some (.slice vO o.nV cV))
    (first
      | with_reducible exact s3
      | with_reducible exact sv
      | with_reducible exact s0
      | go_keep)
    (first | (go_at_call 29; have hc := HP.out _ _ _ _ _ (short_mkd (HI2.out.a.fresh (‹Below w1.heap.size w1 _ ∧ _›).1)) (short_tcs (HI2.out.t.fresh (‹Below w1.heap.size w1 _ ∧ _›).1)); unfold Ans at hc; with_reducible refine hc.mono ?_; clear hc; rintro e w3 ⟨la, lc, rfl, hl, hn0⟩; have s3 := sall_next (g := w.heap.size) (by with_reducible assumption) hn0))
  rename_i hHeld
  clear hHeld hC hB s0
  have hC := s3.1
  clear c0 c1 c2 c3 c4 c5 c6 c7 c8 c9 d0 d1 d2 d3 d4 d5
  have c0 := fresh_cell hC C0.out
  have c1 := fresh_cell hC C1.out
  have c2 := fresh_cell hC C2.out
  have c3 := fresh_cell hC C3.out
  have c4 := fresh_cell hC C4.out
  have c5 := fresh_cell hC C5.out
  have c6 := fresh_cell hC C6.out
  have c7 := fresh_cell hC C7.out
  have c8 := fresh_cell hC C8.out
  have c9 := fresh_cell hC C9.out
  have d0 := fresh_cell hC D0.out
  have d1 := fresh_cell hC D1.out
  have d2 := fresh_cell hC D2.out
  have d3 := fresh_cell hC D3.out
  have d4 := fresh_cell hC D4.out
  have d5 := fresh_cell hC D5.out
  go_wp2_with fail
  refine (HQ.out _ _ _ _ _ (HR2.out.a.fresh hC) (HR2.out.t.fresh hC)).mono ?_
  rintro e w4 ⟨ra, rc', rfl, hv, hn⟩
  replace hC := fresh_trans hC hn
  clear c0 c1 c2 c3 c4 c5 c6 c7 c8 c9 d0 d1 d2 d3 d4 d5
  go_wp2_with fail
  refine (eqNarrow_same (hl.fresh hn) hv (fun _ _ => rfl)).mono ?_
  rintro e wn ⟨rfl, hn3⟩
  replace hC := fresh_trans hC hn3
  go_wp2
  go_ret
  exact ⟨ret_bool (by simp), fresh_trans hF hC⟩
set_option maxRecDepth 20000 in
set_option maxHeartbeats 4000000 in
theorem mixed_other {w : World} {o : OpD} {ab af bb bf db df xb xf tb tf cA cB cD cX cT cV : Nat} {vO : Option Addr} {Va : Nat → Option Addr} {Vk : Nat → Nat} (hI : InR w ⟨some ⟨ab, af, none⟩, cA, some ⟨bb, bf, none⟩, cB, some ⟨db, df, none⟩, cD, some ⟨xb, xf, none⟩, cX, some ⟨tb, tf, none⟩, cT, vO, cV, Va, Vk⟩ o) (hR : OpR w o) (hk : ∀ m : Int, 6 ≤ m → m ≤ 9 → o.kind ≠ m) :
    Calls Tryd.prog 17 #[.agg #[.int .i64 o.kind, .int .i64 o.R, .int .i64 o.C, .slice o.dO o.nD o.cD, .slice o.aO o.nA o.cA, .slice o.bO o.nB o.cB, .slice o.xO o.nX o.cX, .slice o.vO o.nV o.cV, .slice o.tO o.nT o.cT, .int .i64 o.N], .agg #[.slice (some ⟨ab, af, none⟩) (o.nA + 64) cA, .slice (some ⟨bb, bf, none⟩) (o.nB + 64) cB, .slice (some ⟨db, df, none⟩) (o.nD + 64) cD, .slice (some ⟨xb, xf, none⟩) (o.nX + 64) cX, .slice (some ⟨tb, tf, none⟩) (o.nT + 64) cT, .slice vO o.nV cV]] w fun e w' => e = .returned (.bool true) ∧ Below w.heap.size w w' := by
  have HI := hidd hI
  have HR := hidd hR
  have lA : o.nA + 64 ≤ cA := hI.a.le
  have jA : (0 : Int) ≤ (o.nA : Int) := Int.natCast_nonneg _
  have iA : (o.nA : Int) ≤ (cA : Int) := by omega
  have lB : o.nB + 64 ≤ cB := hI.b.le
  have jB : (0 : Int) ≤ (o.nB : Int) := Int.natCast_nonneg _
  have iB : (o.nB : Int) ≤ (cB : Int) := by omega
  have lD : o.nD + 64 ≤ cD := hI.d.le
  have jD : (0 : Int) ≤ (o.nD : Int) := Int.natCast_nonneg _
  have iD : (o.nD : Int) ≤ (cD : Int) := by omega
  have lX : o.nX + 64 ≤ cX := hI.x.le
  have jX : (0 : Int) ≤ (o.nX : Int) := Int.natCast_nonneg _
  have iX : (o.nX : Int) ≤ (cX : Int) := by omega
  have lT : o.nT + 64 ≤ cT := hI.t.le
  have jT : (0 : Int) ≤ (o.nT : Int) := Int.natCast_nonneg _
  have iT : (o.nT : Int) ≤ (cT : Int) := by omega
  have e6 : (o.kind == 6) = false := by simp [hk 6 (by decide) (by decide)]
  have e7 : (o.kind == 7) = false := by simp [hk 7 (by decide) (by decide)]
  have e8 : (o.kind == 8) = false := by simp [hk 8 (by decide) (by decide)]
  have e9 : (o.kind == 9) = false := by simp [hk 9 (by decide) (by decide)]
  clear hI hR hk
  go_enter Tryd.func17, Tryd.ntmps17
  go_wp2
  go_ret
  exact ⟨rfl, fresh_trans (fresh_alloc w _) (fresh_alloc _ _)⟩
end Go.Proofs.YtmcefgpejocjfaaDoor
