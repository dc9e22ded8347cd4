import Derived.Test.YtmcefgpejocjfaaDoorUni
import Derived.Test.YtmcefgpejocjfaaDoorVec
import Derived.Deep.DeepCutAuto
namespace Go.Proofs.YtmcefgpejocjfaaDoor
open Go.RowKit
attribute [local go_sem ↓] Go.wp_at_zero Go.wp_at_succ
/-! One call of the first five kinds, and its answer. -/
set_option maxRecDepth 20000 in
set_option maxHeartbeats 4000000 in
theorem plain_check {w : World} {o : OpD} {ab af bb bf db df xb xf tb tf cA cB cD cX cT cV : Nat} {vO : Option Addr} {Va : Nat → Option Addr} {Vk : Nat → Nat} (hI : InR w ⟨some ⟨ab, af, none⟩, cA, some ⟨bb, bf, none⟩, cB, some ⟨db, df, none⟩, cD, some ⟨xb, xf, none⟩, cX, some ⟨tb, tf, none⟩, cT, vO, cV, Va, Vk⟩ o) (hR : OpR w o) (hk : o.kind = 1) :
    Calls Tryd.prog 16 #[.agg #[.int .i64 o.kind, .int .i64 o.R, .int .i64 o.C, .slice o.dO o.nD o.cD, .slice o.aO o.nA o.cA, .slice o.bO o.nB o.cB, .slice o.xO o.nX o.cX, .slice o.vO o.nV o.cV, .slice o.tO o.nT o.cT, .int .i64 o.N], .agg #[.slice (some ⟨ab, af, none⟩) (o.nA + 64) cA, .slice (some ⟨bb, bf, none⟩) (o.nB + 64) cB, .slice (some ⟨db, df, none⟩) (o.nD + 64) cD, .slice (some ⟨xb, xf, none⟩) (o.nX + 64) cX, .slice (some ⟨tb, tf, none⟩) (o.nT + 64) cT, .slice vO o.nV cV]] w fun e w' => e = .returned (.bool true) ∧ Below w.heap.size w w' := by
  obtain ⟨er, hp, hr⟩ := check_uni o.R o.C o.nD o.D hR.sD hR.bD
  have HI := hidd hI
  have HR := hidd hR
  have HP := hidd hp
  have HQ := hidd hr
  clear hp hr
  have lA : o.nA + 64 ≤ cA := hI.a.le
  have jA : (0 : Int) ≤ (o.nA : Int) := Int.natCast_nonneg _
  have iA : (o.nA : Int) ≤ (cA : Int) := by omega
  have lB : o.nB + 64 ≤ cB := hI.b.le
  have jB : (0 : Int) ≤ (o.nB : Int) := Int.natCast_nonneg _
  have iB : (o.nB : Int) ≤ (cB : Int) := by omega
  have lD : o.nD + 64 ≤ cD := hI.d.le
  have jD : (0 : Int) ≤ (o.nD : Int) := Int.natCast_nonneg _
  have iD : (o.nD : Int) ≤ (cD : Int) := by omega
  have lX : o.nX + 64 ≤ cX := hI.x.le
  have jX : (0 : Int) ≤ (o.nX : Int) := Int.natCast_nonneg _
  have iX : (o.nX : Int) ≤ (cX : Int) := by omega
  have lT : o.nT + 64 ≤ cT := hI.t.le
  have jT : (0 : Int) ≤ (o.nT : Int) := Int.natCast_nonneg _
  have iT : (o.nT : Int) ≤ (cT : Int) := by omega
  have e1 : (o.kind == 1) = true := by simp [hk]
  have e2 : (o.kind == 2) = false := by simp [hk]
  have e3 : (o.kind == 3) = false := by simp [hk]
  have e4 : (o.kind == 4) = false := by simp [hk]
  have e5 : (o.kind == 5) = false := by simp [hk]
  clear hI hR hk
  go_enter Tryd.func16, Tryd.ntmps16
  go_wp2_with fail
  have hf0 := fresh_trans (fresh_alloc w (.cells #[.int .i64 o.kind, .int .i64 o.R, .int .i64 o.C, .slice o.dO o.nD o.cD, .slice o.aO o.nA o.cA, .slice o.bO o.nB o.cB, .slice o.xO o.nX o.cX, .slice o.vO o.nV o.cV, .slice o.tO o.nT o.cT, .int .i64 o.N] 33)) (fresh_alloc _ (.cells #[.slice (some ⟨ab, af, none⟩) (o.nA + 64) cA, .slice (some ⟨bb, bf, none⟩) (o.nB + 64) cB, .slice (some ⟨db, df, none⟩) (o.nD + 64) cD, .slice (some ⟨xb, xf, none⟩) (o.nX + 64) cX, .slice (some ⟨tb, tf, none⟩) (o.nT + 64) cT, .slice vO o.nV cV] 41))
  have c0 : ((w.alloc (.cells #[.int .i64 o.kind, .int .i64 o.R, .int .i64 o.C, .slice o.dO o.nD o.cD, .slice o.aO o.nA o.cA, .slice o.bO o.nB o.cB, .slice o.xO o.nX o.cX, .slice o.vO o.nV o.cV, .slice o.tO o.nT o.cT, .int .i64 o.N] 33)).alloc (.cells #[.slice (some ⟨ab, af, none⟩) (o.nA + 64) cA, .slice (some ⟨bb, bf, none⟩) (o.nB + 64) cB, .slice (some ⟨db, df, none⟩) (o.nD + 64) cD, .slice (some ⟨xb, xf, none⟩) (o.nX + 64) cX, .slice (some ⟨tb, tf, none⟩) (o.nT + 64) cT, .slice vO o.nV cV] 41)).cell? ⟨w.heap.size, 0, none⟩ = some (.int .i64 o.kind) := by simp
  have c1 : ((w.alloc (.cells #[.int .i64 o.kind, .int .i64 o.R, .int .i64 o.C, .slice o.dO o.nD o.cD, .slice o.aO o.nA o.cA, .slice o.bO o.nB o.cB, .slice o.xO o.nX o.cX, .slice o.vO o.nV o.cV, .slice o.tO o.nT o.cT, .int .i64 o.N] 33)).alloc (.cells #[.slice (some ⟨ab, af, none⟩) (o.nA + 64) cA, .slice (some ⟨bb, bf, none⟩) (o.nB + 64) cB, .slice (some ⟨db, df, none⟩) (o.nD + 64) cD, .slice (some ⟨xb, xf, none⟩) (o.nX + 64) cX, .slice (some ⟨tb, tf, none⟩) (o.nT + 64) cT, .slice vO o.nV cV] 41)).cell? ⟨w.heap.size, 1, none⟩ = some (.int .i64 o.R) := by simp
  have c2 : ((w.alloc (.cells #[.int .i64 o.kind, .int .i64 o.R, .int .i64 o.C, .slice o.dO o.nD o.cD, .slice o.aO o.nA o.cA, .slice o.bO o.nB o.cB, .slice o.xO o.nX o.cX, .slice o.vO o.nV o.cV, .slice o.tO o.nT o.cT, .int .i64 o.N] 33)).alloc (.cells #[.slice (some ⟨ab, af, none⟩) (o.nA + 64) cA, .slice (some ⟨bb, bf, none⟩) (o.nB + 64) cB, .slice (some ⟨db, df, none⟩) (o.nD + 64) cD, .slice (some ⟨xb, xf, none⟩) (o.nX + 64) cX, .slice (some ⟨tb, tf, none⟩) (o.nT + 64) cT, .slice vO o.nV cV] 41)).cell? ⟨w.heap.size, 2, none⟩ = some (.int .i64 o.C) := by simp
  have c3 : ((w.alloc (.cells #[.int .i64 o.kind, .int .i64 o.R, .int .i64 o.C, .slice o.dO o.nD o.cD, .slice o.aO o.nA o.cA, .slice o.bO o.nB o.cB, .slice o.xO o.nX o.cX, .slice o.vO o.nV o.cV, .slice o.tO o.nT o.cT, .int .i64 o.N] 33)).alloc (.cells #[.slice (some ⟨ab, af, none⟩) (o.nA + 64) cA, .slice (some ⟨bb, bf, none⟩) (o.nB + 64) cB, .slice (some ⟨db, df, none⟩) (o.nD + 64) cD, .slice (some ⟨xb, xf, none⟩) (o.nX + 64) cX, .slice (some ⟨tb, tf, none⟩) (o.nT + 64) cT, .slice vO o.nV cV] 41)).cell? ⟨w.heap.size, 3, none⟩ = some (.slice o.dO o.nD o.cD) := by simp
  have c4 : ((w.alloc (.cells #[.int .i64 o.kind, .int .i64 o.R, .int .i64 o.C, .slice o.dO o.nD o.cD, .slice o.aO o.nA o.cA, .slice o.bO o.nB o.cB, .slice o.xO o.nX o.cX, .slice o.vO o.nV o.cV, .slice o.tO o.nT o.cT, .int .i64 o.N] 33)).alloc (.cells #[.slice (some ⟨ab, af, none⟩) (o.nA + 64) cA, .slice (some ⟨bb, bf, none⟩) (o.nB + 64) cB, .slice (some ⟨db, df, none⟩) (o.nD + 64) cD, .slice (some ⟨xb, xf, none⟩) (o.nX + 64) cX, .slice (some ⟨tb, tf, none⟩) (o.nT + 64) cT, .slice vO o.nV cV] 41)).cell? ⟨w.heap.size, 4, none⟩ = some (.slice o.aO o.nA o.cA) := by simp
  have c5 : ((w.alloc (.cells #[.int .i64 o.kind, .int .i64 o.R, .int .i64 o.C, .slice o.dO o.nD o.cD, .slice o.aO o.nA o.cA, .slice o.bO o.nB o.cB, .slice o.xO o.nX o.cX, .slice o.vO o.nV o.cV, .slice o.tO o.nT o.cT, .int .i64 o.N] 33)).alloc (.cells #[.slice (some ⟨ab, af, none⟩) (o.nA + 64) cA, .slice (some ⟨bb, bf, none⟩) (o.nB + 64) cB, .slice (some ⟨db, df, none⟩) (o.nD + 64) cD, .slice (some ⟨xb, xf, none⟩) (o.nX + 64) cX, .slice (some ⟨tb, tf, none⟩) (o.nT + 64) cT, .slice vO o.nV cV] 41)).cell? ⟨w.heap.size, 5, none⟩ = some (.slice o.bO o.nB o.cB) := by simp
  have c6 : ((w.alloc (.cells #[.int .i64 o.kind, .int .i64 o.R, .int .i64 o.C, .slice o.dO o.nD o.cD, .slice o.aO o.nA o.cA, .slice o.bO o.nB o.cB, .slice o.xO o.nX o.cX, .slice o.vO o.nV o.cV, .slice o.tO o.nT o.cT, .int .i64 o.N] 33)).alloc (.cells #[.slice (some ⟨ab, af, none⟩) (o.nA + 64) cA, .slice (some ⟨bb, bf, none⟩) (o.nB + 64) cB, .slice (some ⟨db, df, none⟩) (o.nD + 64) cD, .slice (some ⟨xb, xf, none⟩) (o.nX + 64) cX, .slice (some ⟨tb, tf, none⟩) (o.nT + 64) cT, .slice vO o.nV cV] 41)).cell? ⟨w.heap.size, 6, none⟩ = some (.slice o.xO o.nX o.cX) := by simp
  have c7 : ((w.alloc (.cells #[.int .i64 o.kind, .int .i64 o.R, .int .i64 o.C, .slice o.dO o.nD o.cD, .slice o.aO o.nA o.cA, .slice o.bO o.nB o.cB, .slice o.xO o.nX o.cX, .slice o.vO o.nV o.cV, .slice o.tO o.nT o.cT, .int .i64 o.N] 33)).alloc (.cells #[.slice (some ⟨ab, af, none⟩) (o.nA + 64) cA, .slice (some ⟨bb, bf, none⟩) (o.nB + 64) cB, .slice (some ⟨db, df, none⟩) (o.nD + 64) cD, .slice (some ⟨xb, xf, none⟩) (o.nX + 64) cX, .slice (some ⟨tb, tf, none⟩) (o.nT + 64) cT, .slice vO o.nV cV] 41)).cell? ⟨w.heap.size, 7, none⟩ = some (.slice o.vO o.nV o.cV) := by simp
  have c8 : ((w.alloc (.cells #[.int .i64 o.kind, .int .i64 o.R, .int .i64 o.C, .slice o.dO o.nD o.cD, .slice o.aO o.nA o.cA, .slice o.bO o.nB o.cB, .slice o.xO o.nX o.cX, .slice o.vO o.nV o.cV, .slice o.tO o.nT o.cT, .int .i64 o.N] 33)).alloc (.cells #[.slice (some ⟨ab, af, none⟩) (o.nA + 64) cA, .slice (some ⟨bb, bf, none⟩) (o.nB + 64) cB, .slice (some ⟨db, df, none⟩) (o.nD + 64) cD, .slice (some ⟨xb, xf, none⟩) (o.nX + 64) cX, .slice (some ⟨tb, tf, none⟩) (o.nT + 64) cT, .slice vO o.nV cV] 41)).cell? ⟨w.heap.size, 8, none⟩ = some (.slice o.tO o.nT o.cT) := by simp
  have c9 : ((w.alloc (.cells #[.int .i64 o.kind, .int .i64 o.R, .int .i64 o.C, .slice o.dO o.nD o.cD, .slice o.aO o.nA o.cA, .slice o.bO o.nB o.cB, .slice o.xO o.nX o.cX, .slice o.vO o.nV o.cV, .slice o.tO o.nT o.cT, .int .i64 o.N] 33)).alloc (.cells #[.slice (some ⟨ab, af, none⟩) (o.nA + 64) cA, .slice (some ⟨bb, bf, none⟩) (o.nB + 64) cB, .slice (some ⟨db, df, none⟩) (o.nD + 64) cD, .slice (some ⟨xb, xf, none⟩) (o.nX + 64) cX, .slice (some ⟨tb, tf, none⟩) (o.nT + 64) cT, .slice vO o.nV cV] 41)).cell? ⟨w.heap.size, 9, none⟩ = some (.int .i64 o.N) := by simp
  have d0 : ((w.alloc (.cells #[.int .i64 o.kind, .int .i64 o.R, .int .i64 o.C, .slice o.dO o.nD o.cD, .slice o.aO o.nA o.cA, .slice o.bO o.nB o.cB, .slice o.xO o.nX o.cX, .slice o.vO o.nV o.cV, .slice o.tO o.nT o.cT, .int .i64 o.N] 33)).alloc (.cells #[.slice (some ⟨ab, af, none⟩) (o.nA + 64) cA, .slice (some ⟨bb, bf, none⟩) (o.nB + 64) cB, .slice (some ⟨db, df, none⟩) (o.nD + 64) cD, .slice (some ⟨xb, xf, none⟩) (o.nX + 64) cX, .slice (some ⟨tb, tf, none⟩) (o.nT + 64) cT, .slice vO o.nV cV] 41)).cell? ⟨w.heap.size + 1, 0, none⟩ = some (.slice (some ⟨ab, af, none⟩) (o.nA + 64) cA) := by simp
  have d1 : ((w.alloc (.cells #[.int .i64 o.kind, .int .i64 o.R, .int .i64 o.C, .slice o.dO o.nD o.cD, .slice o.aO o.nA o.cA, .slice o.bO o.nB o.cB, .slice o.xO o.nX o.cX, .slice o.vO o.nV o.cV, .slice o.tO o.nT o.cT, .int .i64 o.N] 33)).alloc (.cells #[.slice (some ⟨ab, af, none⟩) (o.nA + 64) cA, .slice (some ⟨bb, bf, none⟩) (o.nB + 64) cB, .slice (some ⟨db, df, none⟩) (o.nD + 64) cD, .slice (some ⟨xb, xf, none⟩) (o.nX + 64) cX, .slice (some ⟨tb, tf, none⟩) (o.nT + 64) cT, .slice vO o.nV cV] 41)).cell? ⟨w.heap.size + 1, 1, none⟩ = some (.slice (some ⟨bb, bf, none⟩) (o.nB + 64) cB) := by simp
  have d2 : ((w.alloc (.cells #[.int .i64 o.kind, .int .i64 o.R, .int .i64 o.C, .slice o.dO o.nD o.cD, .slice o.aO o.nA o.cA, .slice o.bO o.nB o.cB, .slice o.xO o.nX o.cX, .slice o.vO o.nV o.cV, .slice o.tO o.nT o.cT, .int .i64 o.N] 33)).alloc (.cells #[.slice (some ⟨ab, af, none⟩) (o.nA + 64) cA, .slice (some ⟨bb, bf, none⟩) (o.nB + 64) cB, .slice (some ⟨db, df, none⟩) (o.nD + 64) cD, .slice (some ⟨xb, xf, none⟩) (o.nX + 64) cX, .slice (some ⟨tb, tf, none⟩) (o.nT + 64) cT, .slice vO o.nV cV] 41)).cell? ⟨w.heap.size + 1, 2, none⟩ = some (.slice (some ⟨db, df, none⟩) (o.nD + 64) cD) := by simp
  have d3 : ((w.alloc (.cells #[.int .i64 o.kind, .int .i64 o.R, .int .i64 o.C, .slice o.dO o.nD o.cD, .slice o.aO o.nA o.cA, .slice o.bO o.nB o.cB, .slice o.xO o.nX o.cX, .slice o.vO o.nV o.cV, .slice o.tO o.nT o.cT, .int .i64 o.N] 33)).alloc (.cells #[.slice (some ⟨ab, af, none⟩) (o.nA + 64) cA, .slice (some ⟨bb, bf, none⟩) (o.nB + 64) cB, .slice (some ⟨db, df, none⟩) (o.nD + 64) cD, .slice (some ⟨xb, xf, none⟩) (o.nX + 64) cX, .slice (some ⟨tb, tf, none⟩) (o.nT + 64) cT, .slice vO o.nV cV] 41)).cell? ⟨w.heap.size + 1, 3, none⟩ = some (.slice (some ⟨xb, xf, none⟩) (o.nX + 64) cX) := by simp
  have d4 : ((w.alloc (.cells #[.int .i64 o.kind, .int .i64 o.R, .int .i64 o.C, .slice o.dO o.nD o.cD, .slice o.aO o.nA o.cA, .slice o.bO o.nB o.cB, .slice o.xO o.nX o.cX, .slice o.vO o.nV o.cV, .slice o.tO o.nT o.cT, .int .i64 o.N] 33)).alloc (.cells #[.slice (some ⟨ab, af, none⟩) (o.nA + 64) cA, .slice (some ⟨bb, bf, none⟩) (o.nB + 64) cB, .slice (some ⟨db, df, none⟩) (o.nD + 64) cD, .slice (some ⟨xb, xf, none⟩) (o.nX + 64) cX, .slice (some ⟨tb, tf, none⟩) (o.nT + 64) cT, .slice vO o.nV cV] 41)).cell? ⟨w.heap.size + 1, 4, none⟩ = some (.slice (some ⟨tb, tf, none⟩) (o.nT + 64) cT) := by simp
  have d5 : ((w.alloc (.cells #[.int .i64 o.kind, .int .i64 o.R, .int .i64 o.C, .slice o.dO o.nD o.cD, .slice o.aO o.nA o.cA, .slice o.bO o.nB o.cB, .slice o.xO o.nX o.cX, .slice o.vO o.nV o.cV, .slice o.tO o.nT o.cT, .int .i64 o.N] 33)).alloc (.cells #[.slice (some ⟨ab, af, none⟩) (o.nA + 64) cA, .slice (some ⟨bb, bf, none⟩) (o.nB + 64) cB, .slice (some ⟨db, df, none⟩) (o.nD + 64) cD, .slice (some ⟨xb, xf, none⟩) (o.nX + 64) cX, .slice (some ⟨tb, tf, none⟩) (o.nT + 64) cT, .slice vO o.nV cV] 41)).cell? ⟨w.heap.size + 1, 5, none⟩ = some (.slice vO o.nV cV) := by simp
  generalize ((w.alloc (.cells #[.int .i64 o.kind, .int .i64 o.R, .int .i64 o.C, .slice o.dO o.nD o.cD, .slice o.aO o.nA o.cA, .slice o.bO o.nB o.cB, .slice o.xO o.nX o.cX, .slice o.vO o.nV o.cV, .slice o.tO o.nT o.cT, .int .i64 o.N] 33)).alloc (.cells #[.slice (some ⟨ab, af, none⟩) (o.nA + 64) cA, .slice (some ⟨bb, bf, none⟩) (o.nB + 64) cB, .slice (some ⟨db, df, none⟩) (o.nD + 64) cD, .slice (some ⟨xb, xf, none⟩) (o.nX + 64) cX, .slice (some ⟨tb, tf, none⟩) (o.nT + 64) cT, .slice vO o.nV cV] 41)) = w1 at *
  go_region_held3 (fun w' => w'.cell? ⟨w.heap.size, 1, none⟩ = some (.int .i64 o.R) ∧ w'.cell? ⟨w.heap.size, 2, none⟩ = some (.int .i64 o.C) ∧ w'.cell? ⟨w.heap.size, 3, none⟩ = some (.slice o.dO o.nD o.cD) ∧ w'.cell? ⟨w.heap.size + 1, 2, none⟩ = some (.slice (some ⟨db, df, none⟩) (o.nD + 64) cD)) (go_keep) (fail)
  rename_i hHeld
  clear hHeld
  have m0 : (w1.alloc (.cells #[.int .i64 o.R, .int .i64 o.C, .slice (some ⟨db, df, none⟩) o.nD cD] 28)).drew.cell? ⟨w1.heap.size, 0, none⟩ = some (.int .i64 o.R) := by simp
  have m1 : (w1.alloc (.cells #[.int .i64 o.R, .int .i64 o.C, .slice (some ⟨db, df, none⟩) o.nD cD] 28)).drew.cell? ⟨w1.heap.size, 1, none⟩ = some (.int .i64 o.C) := by simp
  have m2 : (w1.alloc (.cells #[.int .i64 o.R, .int .i64 o.C, .slice (some ⟨db, df, none⟩) o.nD cD] 28)).drew.cell? ⟨w1.heap.size, 2, none⟩ = some (.slice (some ⟨db, df, none⟩) o.nD cD) := by simp
  have hf1 := (fresh_alloc w1 (.cells #[.int .i64 o.R, .int .i64 o.C, .slice (some ⟨db, df, none⟩) o.nD cD] 28)).drew
  replace c0 := fresh_cell hf1 c0
  replace c1 := fresh_cell hf1 c1
  replace c2 := fresh_cell hf1 c2
  replace c3 := fresh_cell hf1 c3
  replace c4 := fresh_cell hf1 c4
  replace c5 := fresh_cell hf1 c5
  replace c6 := fresh_cell hf1 c6
  replace c7 := fresh_cell hf1 c7
  replace c8 := fresh_cell hf1 c8
  replace c9 := fresh_cell hf1 c9
  replace d0 := fresh_cell hf1 d0
  replace d1 := fresh_cell hf1 d1
  replace d2 := fresh_cell hf1 d2
  replace d3 := fresh_cell hf1 d3
  replace d4 := fresh_cell hf1 d4
  replace d5 := fresh_cell hf1 d5
  have hF := fresh_trans hf0 hf1
  clear hf0 hf1
  generalize (w1.alloc (.cells #[.int .i64 o.R, .int .i64 o.C, .slice (some ⟨db, df, none⟩) o.nD cD] 28)).drew = w2 at *
  have HI2 := hidd (HI.out.fresh hF)
  have HR2 := hidd (HR.out.fresh hF)
  have hC : Below w2.heap.size w2 w2 := Below.refl _ _
  have C0 := hidd c0
  have C1 := hidd c1
  have C2 := hidd c2
  have C3 := hidd c3
  have C4 := hidd c4
  have C5 := hidd c5
  have C6 := hidd c6
  have C7 := hidd c7
  have C8 := hidd c8
  have C9 := hidd c9
  have D0 := hidd d0
  have D1 := hidd d1
  have D2 := hidd d2
  have D3 := hidd d3
  have D4 := hidd d4
  have D5 := hidd d5
  have M0 := hidd m0
  have M1 := hidd m1
  have M2 := hidd m2
  go_wp2_with fail
  refine (HP.out _ _ _ (short_mkd (HI2.out.d.fresh hC))).mono ?_
  rintro e w3 ⟨rfl, hn0⟩
  replace hC := fresh_trans hC hn0
  clear c0 c1 c2 c3 c4 c5 c6 c7 c8 c9 d0 d1 d2 d3 d4 d5
  have c0 := fresh_cell hC C0.out
  have c1 := fresh_cell hC C1.out
  have c2 := fresh_cell hC C2.out
  have c3 := fresh_cell hC C3.out
  have c4 := fresh_cell hC C4.out
  have c5 := fresh_cell hC C5.out
  have c6 := fresh_cell hC C6.out
  have c7 := fresh_cell hC C7.out
  have c8 := fresh_cell hC C8.out
  have c9 := fresh_cell hC C9.out
  have d0 := fresh_cell hC D0.out
  have d1 := fresh_cell hC D1.out
  have d2 := fresh_cell hC D2.out
  have d3 := fresh_cell hC D3.out
  have d4 := fresh_cell hC D4.out
  have d5 := fresh_cell hC D5.out
  go_wp2_with fail
  refine (HQ.out _ _ _ (HR2.out.d.fresh hC)).mono ?_
  rintro e w4 ⟨rfl, hn⟩
  replace hC := fresh_trans hC hn
  clear c0 c1 c2 c3 c4 c5 c6 c7 c8 c9 d0 d1 d2 d3 d4 d5
  go_wp2_with fail
  refine (eqWide_same (f := fun _ => 0) (g := fun _ => 0) (rdn _ _) (rdn _ _) (fun _ _ => rfl)).mono ?_
  rintro e wn ⟨rfl, hn⟩
  replace hC := fresh_trans hC hn
  clear hn
  go_wp2_with fail
  refine (eqNarrow_same (f := fun _ => 0) (g := fun _ => 0) (rdn _ _) (rdn _ _) (fun _ _ => rfl)).mono ?_
  rintro e wn ⟨rfl, hn⟩
  replace hC := fresh_trans hC hn
  clear hn
  go_wp2
  go_ret
  exact ⟨ret_bool (by simp), fresh_trans hF hC⟩
set_option maxRecDepth 20000 in
set_option maxHeartbeats 4000000 in
theorem plain_matvec {w : World} {o : OpD} {ab af bb bf db df xb xf tb tf cA cB cD cX cT cV : Nat} {vO : Option Addr} {Va : Nat → Option Addr} {Vk : Nat → Nat} (hI : InR w ⟨some ⟨ab, af, none⟩, cA, some ⟨bb, bf, none⟩, cB, some ⟨db, df, none⟩, cD, some ⟨xb, xf, none⟩, cX, some ⟨tb, tf, none⟩, cT, vO, cV, Va, Vk⟩ o) (hR : OpR w o) (hk : o.kind = 2) :
    Calls Tryd.prog 16 #[.agg #[.int .i64 o.kind, .int .i64 o.R, .int .i64 o.C, .slice o.dO o.nD o.cD, .slice o.aO o.nA o.cA, .slice o.bO o.nB o.cB, .slice o.xO o.nX o.cX, .slice o.vO o.nV o.cV, .slice o.tO o.nT o.cT, .int .i64 o.N], .agg #[.slice (some ⟨ab, af, none⟩) (o.nA + 64) cA, .slice (some ⟨bb, bf, none⟩) (o.nB + 64) cB, .slice (some ⟨db, df, none⟩) (o.nD + 64) cD, .slice (some ⟨xb, xf, none⟩) (o.nX + 64) cX, .slice (some ⟨tb, tf, none⟩) (o.nT + 64) cT, .slice vO o.nV cV]] w fun e w' => e = .returned (.bool true) ∧ Below w.heap.size w w' := by
  obtain ⟨k, er, F, hp, hr⟩ := matvec_uni o.R o.C o.nD o.nA o.D o.A hR.sD hR.bD hR.bA
  have HI := hidd hI
  have HR := hidd hR
  have HP := hidd hp
  have HQ := hidd hr
  clear hp hr
  have lA : o.nA + 64 ≤ cA := hI.a.le
  have jA : (0 : Int) ≤ (o.nA : Int) := Int.natCast_nonneg _
  have iA : (o.nA : Int) ≤ (cA : Int) := by omega
  have lB : o.nB + 64 ≤ cB := hI.b.le
  have jB : (0 : Int) ≤ (o.nB : Int) := Int.natCast_nonneg _
  have iB : (o.nB : Int) ≤ (cB : Int) := by omega
  have lD : o.nD + 64 ≤ cD := hI.d.le
  have jD : (0 : Int) ≤ (o.nD : Int) := Int.natCast_nonneg _
  have iD : (o.nD : Int) ≤ (cD : Int) := by omega
  have lX : o.nX + 64 ≤ cX := hI.x.le
  have jX : (0 : Int) ≤ (o.nX : Int) := Int.natCast_nonneg _
  have iX : (o.nX : Int) ≤ (cX : Int) := by omega
  have lT : o.nT + 64 ≤ cT := hI.t.le
  have jT : (0 : Int) ≤ (o.nT : Int) := Int.natCast_nonneg _
  have iT : (o.nT : Int) ≤ (cT : Int) := by omega
  have e1 : (o.kind == 1) = false := by simp [hk]
  have e2 : (o.kind == 2) = true := by simp [hk]
  have e3 : (o.kind == 3) = false := by simp [hk]
  have e4 : (o.kind == 4) = false := by simp [hk]
  have e5 : (o.kind == 5) = false := by simp [hk]
  clear hI hR hk
  go_enter Tryd.func16, Tryd.ntmps16
  go_wp2_with fail
  have hf0 := fresh_trans (fresh_alloc w (.cells #[.int .i64 o.kind, .int .i64 o.R, .int .i64 o.C, .slice o.dO o.nD o.cD, .slice o.aO o.nA o.cA, .slice o.bO o.nB o.cB, .slice o.xO o.nX o.cX, .slice o.vO o.nV o.cV, .slice o.tO o.nT o.cT, .int .i64 o.N] 33)) (fresh_alloc _ (.cells #[.slice (some ⟨ab, af, none⟩) (o.nA + 64) cA, .slice (some ⟨bb, bf, none⟩) (o.nB + 64) cB, .slice (some ⟨db, df, none⟩) (o.nD + 64) cD, .slice (some ⟨xb, xf, none⟩) (o.nX + 64) cX, .slice (some ⟨tb, tf, none⟩) (o.nT + 64) cT, .slice vO o.nV cV] 41))
  have c0 : ((w.alloc (.cells #[.int .i64 o.kind, .int .i64 o.R, .int .i64 o.C, .slice o.dO o.nD o.cD, .slice o.aO o.nA o.cA, .slice o.bO o.nB o.cB, .slice o.xO o.nX o.cX, .slice o.vO o.nV o.cV, .slice o.tO o.nT o.cT, .int .i64 o.N] 33)).alloc (.cells #[.slice (some ⟨ab, af, none⟩) (o.nA + 64) cA, .slice (some ⟨bb, bf, none⟩) (o.nB + 64) cB, .slice (some ⟨db, df, none⟩) (o.nD + 64) cD, .slice (some ⟨xb, xf, none⟩) (o.nX + 64) cX, .slice (some ⟨tb, tf, none⟩) (o.nT + 64) cT, .slice vO o.nV cV] 41)).cell? ⟨w.heap.size, 0, none⟩ = some (.int .i64 o.kind) := by simp
  have c1 : ((w.alloc (.cells #[.int .i64 o.kind, .int .i64 o.R, .int .i64 o.C, .slice o.dO o.nD o.cD, .slice o.aO o.nA o.cA, .slice o.bO o.nB o.cB, .slice o.xO o.nX o.cX, .slice o.vO o.nV o.cV, .slice o.tO o.nT o.cT, .int .i64 o.N] 33)).alloc (.cells #[.slice (some ⟨ab, af, none⟩) (o.nA + 64) cA, .slice (some ⟨bb, bf, none⟩) (o.nB + 64) cB, .slice (some ⟨db, df, none⟩) (o.nD + 64) cD, .slice (some ⟨xb, xf, none⟩) (o.nX + 64) cX, .slice (some ⟨tb, tf, none⟩) (o.nT + 64) cT, .slice vO o.nV cV] 41)).cell? ⟨w.heap.size, 1, none⟩ = some (.int .i64 o.R) := by simp
  have c2 : ((w.alloc (.cells #[.int .i64 o.kind, .int .i64 o.R, .int .i64 o.C, .slice o.dO o.nD o.cD, .slice o.aO o.nA o.cA, .slice o.bO o.nB o.cB, .slice o.xO o.nX o.cX, .slice o.vO o.nV o.cV, .slice o.tO o.nT o.cT, .int .i64 o.N] 33)).alloc (.cells #[.slice (some ⟨ab, af, none⟩) (o.nA + 64) cA, .slice (some ⟨bb, bf, none⟩) (o.nB + 64) cB, .slice (some ⟨db, df, none⟩) (o.nD + 64) cD, .slice (some ⟨xb, xf, none⟩) (o.nX + 64) cX, .slice (some ⟨tb, tf, none⟩) (o.nT + 64) cT, .slice vO o.nV cV] 41)).cell? ⟨w.heap.size, 2, none⟩ = some (.int .i64 o.C) := by simp
  have c3 : ((w.alloc (.cells #[.int .i64 o.kind, .int .i64 o.R, .int .i64 o.C, .slice o.dO o.nD o.cD, .slice o.aO o.nA o.cA, .slice o.bO o.nB o.cB, .slice o.xO o.nX o.cX, .slice o.vO o.nV o.cV, .slice o.tO o.nT o.cT, .int .i64 o.N] 33)).alloc (.cells #[.slice (some ⟨ab, af, none⟩) (o.nA + 64) cA, .slice (some ⟨bb, bf, none⟩) (o.nB + 64) cB, .slice (some ⟨db, df, none⟩) (o.nD + 64) cD, .slice (some ⟨xb, xf, none⟩) (o.nX + 64) cX, .slice (some ⟨tb, tf, none⟩) (o.nT + 64) cT, .slice vO o.nV cV] 41)).cell? ⟨w.heap.size, 3, none⟩ = some (.slice o.dO o.nD o.cD) := by simp
  have c4 : ((w.alloc (.cells #[.int .i64 o.kind, .int .i64 o.R, .int .i64 o.C, .slice o.dO o.nD o.cD, .slice o.aO o.nA o.cA, .slice o.bO o.nB o.cB, .slice o.xO o.nX o.cX, .slice o.vO o.nV o.cV, .slice o.tO o.nT o.cT, .int .i64 o.N] 33)).alloc (.cells #[.slice (some ⟨ab, af, none⟩) (o.nA + 64) cA, .slice (some ⟨bb, bf, none⟩) (o.nB + 64) cB, .slice (some ⟨db, df, none⟩) (o.nD + 64) cD, .slice (some ⟨xb, xf, none⟩) (o.nX + 64) cX, .slice (some ⟨tb, tf, none⟩) (o.nT + 64) cT, .slice vO o.nV cV] 41)).cell? ⟨w.heap.size, 4, none⟩ = some (.slice o.aO o.nA o.cA) := by simp
  have c5 : ((w.alloc (.cells #[.int .i64 o.kind, .int .i64 o.R, .int .i64 o.C, .slice o.dO o.nD o.cD, .slice o.aO o.nA o.cA, .slice o.bO o.nB o.cB, .slice o.xO o.nX o.cX, .slice o.vO o.nV o.cV, .slice o.tO o.nT o.cT, .int .i64 o.N] 33)).alloc (.cells #[.slice (some ⟨ab, af, none⟩) (o.nA + 64) cA, .slice (some ⟨bb, bf, none⟩) (o.nB + 64) cB, .slice (some ⟨db, df, none⟩) (o.nD + 64) cD, .slice (some ⟨xb, xf, none⟩) (o.nX + 64) cX, .slice (some ⟨tb, tf, none⟩) (o.nT + 64) cT, .slice vO o.nV cV] 41)).cell? ⟨w.heap.size, 5, none⟩ = some (.slice o.bO o.nB o.cB) := by simp
  have c6 : ((w.alloc (.cells #[.int .i64 o.kind, .int .i64 o.R, .int .i64 o.C, .slice o.dO o.nD o.cD, .slice o.aO o.nA o.cA, .slice o.bO o.nB o.cB, .slice o.xO o.nX o.cX, .slice o.vO o.nV o.cV, .slice o.tO o.nT o.cT, .int .i64 o.N] 33)).alloc (.cells #[.slice (some ⟨ab, af, none⟩) (o.nA + 64) cA, .slice (some ⟨bb, bf, none⟩) (o.nB + 64) cB, .slice (some ⟨db, df, none⟩) (o.nD + 64) cD, .slice (some ⟨xb, xf, none⟩) (o.nX + 64) cX, .slice (some ⟨tb, tf, none⟩) (o.nT + 64) cT, .slice vO o.nV cV] 41)).cell? ⟨w.heap.size, 6, none⟩ = some (.slice o.xO o.nX o.cX) := by simp
  have c7 : ((w.alloc (.cells #[.int .i64 o.kind, .int .i64 o.R, .int .i64 o.C, .slice o.dO o.nD o.cD, .slice o.aO o.nA o.cA, .slice o.bO o.nB o.cB, .slice o.xO o.nX o.cX, .slice o.vO o.nV o.cV, .slice o.tO o.nT o.cT, .int .i64 o.N] 33)).alloc (.cells #[.slice (some ⟨ab, af, none⟩) (o.nA + 64) cA, .slice (some ⟨bb, bf, none⟩) (o.nB + 64) cB, .slice (some ⟨db, df, none⟩) (o.nD + 64) cD, .slice (some ⟨xb, xf, none⟩) (o.nX + 64) cX, .slice (some ⟨tb, tf, none⟩) (o.nT + 64) cT, .slice vO o.nV cV] 41)).cell? ⟨w.heap.size, 7, none⟩ = some (.slice o.vO o.nV o.cV) := by simp
  have c8 : ((w.alloc (.cells #[.int .i64 o.kind, .int .i64 o.R, .int .i64 o.C, .slice o.dO o.nD o.cD, .slice o.aO o.nA o.cA, .slice o.bO o.nB o.cB, .slice o.xO o.nX o.cX, .slice o.vO o.nV o.cV, .slice o.tO o.nT o.cT, .int .i64 o.N] 33)).alloc (.cells #[.slice (some ⟨ab, af, none⟩) (o.nA + 64) cA, .slice (some ⟨bb, bf, none⟩) (o.nB + 64) cB, .slice (some ⟨db, df, none⟩) (o.nD + 64) cD, .slice (some ⟨xb, xf, none⟩) (o.nX + 64) cX, .slice (some ⟨tb, tf, none⟩) (o.nT + 64) cT, .slice vO o.nV cV] 41)).cell? ⟨w.heap.size, 8, none⟩ = some (.slice o.tO o.nT o.cT) := by simp
  have c9 : ((w.alloc (.cells #[.int .i64 o.kind, .int .i64 o.R, .int .i64 o.C, .slice o.dO o.nD o.cD, .slice o.aO o.nA o.cA, .slice o.bO o.nB o.cB, .slice o.xO o.nX o.cX, .slice o.vO o.nV o.cV, .slice o.tO o.nT o.cT, .int .i64 o.N] 33)).alloc (.cells #[.slice (some ⟨ab, af, none⟩) (o.nA + 64) cA, .slice (some ⟨bb, bf, none⟩) (o.nB + 64) cB, .slice (some ⟨db, df, none⟩) (o.nD + 64) cD, .slice (some ⟨xb, xf, none⟩) (o.nX + 64) cX, .slice (some ⟨tb, tf, none⟩) (o.nT + 64) cT, .slice vO o.nV cV] 41)).cell? ⟨w.heap.size, 9, none⟩ = some (.int .i64 o.N) := by simp
  have d0 : ((w.alloc (.cells #[.int .i64 o.kind, .int .i64 o.R, .int .i64 o.C, .slice o.dO o.nD o.cD, .slice o.aO o.nA o.cA, .slice o.bO o.nB o.cB, .slice o.xO o.nX o.cX, .slice o.vO o.nV o.cV, .slice o.tO o.nT o.cT, .int .i64 o.N] 33)).alloc (.cells #[.slice (some ⟨ab, af, none⟩) (o.nA + 64) cA, .slice (some ⟨bb, bf, none⟩) (o.nB + 64) cB, .slice (some ⟨db, df, none⟩) (o.nD + 64) cD, .slice (some ⟨xb, xf, none⟩) (o.nX + 64) cX, .slice (some ⟨tb, tf, none⟩) (o.nT + 64) cT, .slice vO o.nV cV] 41)).cell? ⟨w.heap.size + 1, 0, none⟩ = some (.slice (some ⟨ab, af, none⟩) (o.nA + 64) cA) := by simp
  have d1 : ((w.alloc (.cells #[.int .i64 o.kind, .int .i64 o.R, .int .i64 o.C, .slice o.dO o.nD o.cD, .slice o.aO o.nA o.cA, .slice o.bO o.nB o.cB, .slice o.xO o.nX o.cX, .slice o.vO o.nV o.cV, .slice o.tO o.nT o.cT, .int .i64 o.N] 33)).alloc (.cells #[.slice (some ⟨ab, af, none⟩) (o.nA + 64) cA, .slice (some ⟨bb, bf, none⟩) (o.nB + 64) cB, .slice (some ⟨db, df, none⟩) (o.nD + 64) cD, .slice (some ⟨xb, xf, none⟩) (o.nX + 64) cX, .slice (some ⟨tb, tf, none⟩) (o.nT + 64) cT, .slice vO o.nV cV] 41)).cell? ⟨w.heap.size + 1, 1, none⟩ = some (.slice (some ⟨bb, bf, none⟩) (o.nB + 64) cB) := by simp
  have d2 : ((w.alloc (.cells #[.int .i64 o.kind, .int .i64 o.R, .int .i64 o.C, .slice o.dO o.nD o.cD, .slice o.aO o.nA o.cA, .slice o.bO o.nB o.cB, .slice o.xO o.nX o.cX, .slice o.vO o.nV o.cV, .slice o.tO o.nT o.cT, .int .i64 o.N] 33)).alloc (.cells #[.slice (some ⟨ab, af, none⟩) (o.nA + 64) cA, .slice (some ⟨bb, bf, none⟩) (o.nB + 64) cB, .slice (some ⟨db, df, none⟩) (o.nD + 64) cD, .slice (some ⟨xb, xf, none⟩) (o.nX + 64) cX, .slice (some ⟨tb, tf, none⟩) (o.nT + 64) cT, .slice vO o.nV cV] 41)).cell? ⟨w.heap.size + 1, 2, none⟩ = some (.slice (some ⟨db, df, none⟩) (o.nD + 64) cD) := by simp
  have d3 : ((w.alloc (.cells #[.int .i64 o.kind, .int .i64 o.R, .int .i64 o.C, .slice o.dO o.nD o.cD, .slice o.aO o.nA o.cA, .slice o.bO o.nB o.cB, .slice o.xO o.nX o.cX, .slice o.vO o.nV o.cV, .slice o.tO o.nT o.cT, .int .i64 o.N] 33)).alloc (.cells #[.slice (some ⟨ab, af, none⟩) (o.nA + 64) cA, .slice (some ⟨bb, bf, none⟩) (o.nB + 64) cB, .slice (some ⟨db, df, none⟩) (o.nD + 64) cD, .slice (some ⟨xb, xf, none⟩) (o.nX + 64) cX, .slice (some ⟨tb, tf, none⟩) (o.nT + 64) cT, .slice vO o.nV cV] 41)).cell? ⟨w.heap.size + 1, 3, none⟩ = some (.slice (some ⟨xb, xf, none⟩) (o.nX + 64) cX) := by simp
  have d4 : ((w.alloc (.cells #[.int .i64 o.kind, .int .i64 o.R, .int .i64 o.C, .slice o.dO o.nD o.cD, .slice o.aO o.nA o.cA, .slice o.bO o.nB o.cB, .slice o.xO o.nX o.cX, .slice o.vO o.nV o.cV, .slice o.tO o.nT o.cT, .int .i64 o.N] 33)).alloc (.cells #[.slice (some ⟨ab, af, none⟩) (o.nA + 64) cA, .slice (some ⟨bb, bf, none⟩) (o.nB + 64) cB, .slice (some ⟨db, df, none⟩) (o.nD + 64) cD, .slice (some ⟨xb, xf, none⟩) (o.nX + 64) cX, .slice (some ⟨tb, tf, none⟩) (o.nT + 64) cT, .slice vO o.nV cV] 41)).cell? ⟨w.heap.size + 1, 4, none⟩ = some (.slice (some ⟨tb, tf, none⟩) (o.nT + 64) cT) := by simp
  have d5 : ((w.alloc (.cells #[.int .i64 o.kind, .int .i64 o.R, .int .i64 o.C, .slice o.dO o.nD o.cD, .slice o.aO o.nA o.cA, .slice o.bO o.nB o.cB, .slice o.xO o.nX o.cX, .slice o.vO o.nV o.cV, .slice o.tO o.nT o.cT, .int .i64 o.N] 33)).alloc (.cells #[.slice (some ⟨ab, af, none⟩) (o.nA + 64) cA, .slice (some ⟨bb, bf, none⟩) (o.nB + 64) cB, .slice (some ⟨db, df, none⟩) (o.nD + 64) cD, .slice (some ⟨xb, xf, none⟩) (o.nX + 64) cX, .slice (some ⟨tb, tf, none⟩) (o.nT + 64) cT, .slice vO o.nV cV] 41)).cell? ⟨w.heap.size + 1, 5, none⟩ = some (.slice vO o.nV cV) := by simp
  generalize ((w.alloc (.cells #[.int .i64 o.kind, .int .i64 o.R, .int .i64 o.C, .slice o.dO o.nD o.cD, .slice o.aO o.nA o.cA, .slice o.bO o.nB o.cB, .slice o.xO o.nX o.cX, .slice o.vO o.nV o.cV, .slice o.tO o.nT o.cT, .int .i64 o.N] 33)).alloc (.cells #[.slice (some ⟨ab, af, none⟩) (o.nA + 64) cA, .slice (some ⟨bb, bf, none⟩) (o.nB + 64) cB, .slice (some ⟨db, df, none⟩) (o.nD + 64) cD, .slice (some ⟨xb, xf, none⟩) (o.nX + 64) cX, .slice (some ⟨tb, tf, none⟩) (o.nT + 64) cT, .slice vO o.nV cV] 41)) = w1 at *
  go_region_held3 (fun w' => w'.cell? ⟨w.heap.size, 1, none⟩ = some (.int .i64 o.R) ∧ w'.cell? ⟨w.heap.size, 2, none⟩ = some (.int .i64 o.C) ∧ w'.cell? ⟨w.heap.size, 3, none⟩ = some (.slice o.dO o.nD o.cD) ∧ w'.cell? ⟨w.heap.size + 1, 2, none⟩ = some (.slice (some ⟨db, df, none⟩) (o.nD + 64) cD)) (go_keep) (fail)
  rename_i hHeld
  clear hHeld
  have m0 : (w1.alloc (.cells #[.int .i64 o.R, .int .i64 o.C, .slice (some ⟨db, df, none⟩) o.nD cD] 28)).drew.cell? ⟨w1.heap.size, 0, none⟩ = some (.int .i64 o.R) := by simp
  have m1 : (w1.alloc (.cells #[.int .i64 o.R, .int .i64 o.C, .slice (some ⟨db, df, none⟩) o.nD cD] 28)).drew.cell? ⟨w1.heap.size, 1, none⟩ = some (.int .i64 o.C) := by simp
  have m2 : (w1.alloc (.cells #[.int .i64 o.R, .int .i64 o.C, .slice (some ⟨db, df, none⟩) o.nD cD] 28)).drew.cell? ⟨w1.heap.size, 2, none⟩ = some (.slice (some ⟨db, df, none⟩) o.nD cD) := by simp
  have hf1 := (fresh_alloc w1 (.cells #[.int .i64 o.R, .int .i64 o.C, .slice (some ⟨db, df, none⟩) o.nD cD] 28)).drew
  replace c0 := fresh_cell hf1 c0
  replace c1 := fresh_cell hf1 c1
  replace c2 := fresh_cell hf1 c2
  replace c3 := fresh_cell hf1 c3
  replace c4 := fresh_cell hf1 c4
  replace c5 := fresh_cell hf1 c5
  replace c6 := fresh_cell hf1 c6
  replace c7 := fresh_cell hf1 c7
  replace c8 := fresh_cell hf1 c8
  replace c9 := fresh_cell hf1 c9
  replace d0 := fresh_cell hf1 d0
  replace d1 := fresh_cell hf1 d1
  replace d2 := fresh_cell hf1 d2
  replace d3 := fresh_cell hf1 d3
  replace d4 := fresh_cell hf1 d4
  replace d5 := fresh_cell hf1 d5
  have hF := fresh_trans hf0 hf1
  clear hf0 hf1
  generalize (w1.alloc (.cells #[.int .i64 o.R, .int .i64 o.C, .slice (some ⟨db, df, none⟩) o.nD cD] 28)).drew = w2 at *
  have HI2 := hidd (HI.out.fresh hF)
  have HR2 := hidd (HR.out.fresh hF)
  have hC : Below w2.heap.size w2 w2 := Below.refl _ _
  have C0 := hidd c0
  have C1 := hidd c1
  have C2 := hidd c2
  have C3 := hidd c3
  have C4 := hidd c4
  have C5 := hidd c5
  have C6 := hidd c6
  have C7 := hidd c7
  have C8 := hidd c8
  have C9 := hidd c9
  have D0 := hidd d0
  have D1 := hidd d1
  have D2 := hidd d2
  have D3 := hidd d3
  have D4 := hidd d4
  have D5 := hidd d5
  have M0 := hidd m0
  have M1 := hidd m1
  have M2 := hidd m2
  go_wp2_with fail
  refine (HP.out _ _ _ _ _ (short_mkd (HI2.out.d.fresh hC)) (short_mkd (HI2.out.a.fresh hC))).mono ?_
  rintro e w3 ⟨la, lc, rfl, hl, hn0⟩
  replace hC := fresh_trans hC hn0
  clear c0 c1 c2 c3 c4 c5 c6 c7 c8 c9 d0 d1 d2 d3 d4 d5
  have c0 := fresh_cell hC C0.out
  have c1 := fresh_cell hC C1.out
  have c2 := fresh_cell hC C2.out
  have c3 := fresh_cell hC C3.out
  have c4 := fresh_cell hC C4.out
  have c5 := fresh_cell hC C5.out
  have c6 := fresh_cell hC C6.out
  have c7 := fresh_cell hC C7.out
  have c8 := fresh_cell hC C8.out
  have c9 := fresh_cell hC C9.out
  have d0 := fresh_cell hC D0.out
  have d1 := fresh_cell hC D1.out
  have d2 := fresh_cell hC D2.out
  have d3 := fresh_cell hC D3.out
  have d4 := fresh_cell hC D4.out
  have d5 := fresh_cell hC D5.out
  go_wp2_with fail
  refine (HQ.out _ _ _ _ _ (HR2.out.d.fresh hC) (HR2.out.a.fresh hC)).mono ?_
  rintro e w4 ⟨ra, rc', rfl, hv, hn⟩
  replace hC := fresh_trans hC hn
  clear c0 c1 c2 c3 c4 c5 c6 c7 c8 c9 d0 d1 d2 d3 d4 d5
  go_wp2_with fail
  refine (eqWide_same (hl.fresh hn) (hv) (fun _ _ => rfl)).mono ?_
  rintro e wn ⟨rfl, hn3⟩
  replace hC := fresh_trans hC hn3
  clear hn3
  go_wp2_with fail
  refine (eqNarrow_same (f := fun _ => 0) (g := fun _ => 0) (rdn _ _) (rdn _ _) (fun _ _ => rfl)).mono ?_
  rintro e wn ⟨rfl, hn⟩
  replace hC := fresh_trans hC hn
  clear hn
  go_wp2
  go_ret
  exact ⟨ret_bool (by simp), fresh_trans hF hC⟩
set_option maxRecDepth 20000 in
set_option maxHeartbeats 4000000 in
theorem plain_narrow {w : World} {o : OpD} {ab af bb bf db df xb xf tb tf cA cB cD cX cT cV : Nat} {vO : Option Addr} {Va : Nat → Option Addr} {Vk : Nat → Nat} (hI : InR w ⟨some ⟨ab, af, none⟩, cA, some ⟨bb, bf, none⟩, cB, some ⟨db, df, none⟩, cD, some ⟨xb, xf, none⟩, cX, some ⟨tb, tf, none⟩, cT, vO, cV, Va, Vk⟩ o) (hR : OpR w o) (hk : o.kind = 3) :
    Calls Tryd.prog 16 #[.agg #[.int .i64 o.kind, .int .i64 o.R, .int .i64 o.C, .slice o.dO o.nD o.cD, .slice o.aO o.nA o.cA, .slice o.bO o.nB o.cB, .slice o.xO o.nX o.cX, .slice o.vO o.nV o.cV, .slice o.tO o.nT o.cT, .int .i64 o.N], .agg #[.slice (some ⟨ab, af, none⟩) (o.nA + 64) cA, .slice (some ⟨bb, bf, none⟩) (o.nB + 64) cB, .slice (some ⟨db, df, none⟩) (o.nD + 64) cD, .slice (some ⟨xb, xf, none⟩) (o.nX + 64) cX, .slice (some ⟨tb, tf, none⟩) (o.nT + 64) cT, .slice vO o.nV cV]] w fun e w' => e = .returned (.bool true) ∧ Below w.heap.size w w' := by
  obtain ⟨k, er, F, hp, hr⟩ := narrow_uni o.nX o.X o.N hR.sX hR.bX
  have HI := hidd hI
  have HR := hidd hR
  have HP := hidd hp
  have HQ := hidd hr
  clear hp hr
  have lA : o.nA + 64 ≤ cA := hI.a.le
  have jA : (0 : Int) ≤ (o.nA : Int) := Int.natCast_nonneg _
  have iA : (o.nA : Int) ≤ (cA : Int) := by omega
  have lB : o.nB + 64 ≤ cB := hI.b.le
  have jB : (0 : Int) ≤ (o.nB : Int) := Int.natCast_nonneg _
  have iB : (o.nB : Int) ≤ (cB : Int) := by omega
  have lD : o.nD + 64 ≤ cD := hI.d.le
  have jD : (0 : Int) ≤ (o.nD : Int) := Int.natCast_nonneg _
  have iD : (o.nD : Int) ≤ (cD : Int) := by omega
  have lX : o.nX + 64 ≤ cX := hI.x.le
  have jX : (0 : Int) ≤ (o.nX : Int) := Int.natCast_nonneg _
  have iX : (o.nX : Int) ≤ (cX : Int) := by omega
  have lT : o.nT + 64 ≤ cT := hI.t.le
  have jT : (0 : Int) ≤ (o.nT : Int) := Int.natCast_nonneg _
  have iT : (o.nT : Int) ≤ (cT : Int) := by omega
  have e1 : (o.kind == 1) = false := by simp [hk]
  have e2 : (o.kind == 2) = false := by simp [hk]
  have e3 : (o.kind == 3) = true := by simp [hk]
  have e4 : (o.kind == 4) = false := by simp [hk]
  have e5 : (o.kind == 5) = false := by simp [hk]
  clear hI hR hk
  go_enter Tryd.func16, Tryd.ntmps16
  go_wp2_with fail
  have hf0 := fresh_trans (fresh_alloc w (.cells #[.int .i64 o.kind, .int .i64 o.R, .int .i64 o.C, .slice o.dO o.nD o.cD, .slice o.aO o.nA o.cA, .slice o.bO o.nB o.cB, .slice o.xO o.nX o.cX, .slice o.vO o.nV o.cV, .slice o.tO o.nT o.cT, .int .i64 o.N] 33)) (fresh_alloc _ (.cells #[.slice (some ⟨ab, af, none⟩) (o.nA + 64) cA, .slice (some ⟨bb, bf, none⟩) (o.nB + 64) cB, .slice (some ⟨db, df, none⟩) (o.nD + 64) cD, .slice (some ⟨xb, xf, none⟩) (o.nX + 64) cX, .slice (some ⟨tb, tf, none⟩) (o.nT + 64) cT, .slice vO o.nV cV] 41))
  have c0 : ((w.alloc (.cells #[.int .i64 o.kind, .int .i64 o.R, .int .i64 o.C, .slice o.dO o.nD o.cD, .slice o.aO o.nA o.cA, .slice o.bO o.nB o.cB, .slice o.xO o.nX o.cX, .slice o.vO o.nV o.cV, .slice o.tO o.nT o.cT, .int .i64 o.N] 33)).alloc (.cells #[.slice (some ⟨ab, af, none⟩) (o.nA + 64) cA, .slice (some ⟨bb, bf, none⟩) (o.nB + 64) cB, .slice (some ⟨db, df, none⟩) (o.nD + 64) cD, .slice (some ⟨xb, xf, none⟩) (o.nX + 64) cX, .slice (some ⟨tb, tf, none⟩) (o.nT + 64) cT, .slice vO o.nV cV] 41)).cell? ⟨w.heap.size, 0, none⟩ = some (.int .i64 o.kind) := by simp
  have c1 : ((w.alloc (.cells #[.int .i64 o.kind, .int .i64 o.R, .int .i64 o.C, .slice o.dO o.nD o.cD, .slice o.aO o.nA o.cA, .slice o.bO o.nB o.cB, .slice o.xO o.nX o.cX, .slice o.vO o.nV o.cV, .slice o.tO o.nT o.cT, .int .i64 o.N] 33)).alloc (.cells #[.slice (some ⟨ab, af, none⟩) (o.nA + 64) cA, .slice (some ⟨bb, bf, none⟩) (o.nB + 64) cB, .slice (some ⟨db, df, none⟩) (o.nD + 64) cD, .slice (some ⟨xb, xf, none⟩) (o.nX + 64) cX, .slice (some ⟨tb, tf, none⟩) (o.nT + 64) cT, .slice vO o.nV cV] 41)).cell? ⟨w.heap.size, 1, none⟩ = some (.int .i64 o.R) := by simp
  have c2 : ((w.alloc (.cells #[.int .i64 o.kind, .int .i64 o.R, .int .i64 o.C, .slice o.dO o.nD o.cD, .slice o.aO o.nA o.cA, .slice o.bO o.nB o.cB, .slice o.xO o.nX o.cX, .slice o.vO o.nV o.cV, .slice o.tO o.nT o.cT, .int .i64 o.N] 33)).alloc (.cells #[.slice (some ⟨ab, af, none⟩) (o.nA + 64) cA, .slice (some ⟨bb, bf, none⟩) (o.nB + 64) cB, .slice (some ⟨db, df, none⟩) (o.nD + 64) cD, .slice (some ⟨xb, xf, none⟩) (o.nX + 64) cX, .slice (some ⟨tb, tf, none⟩) (o.nT + 64) cT, .slice vO o.nV cV] 41)).cell? ⟨w.heap.size, 2, none⟩ = some (.int .i64 o.C) := by simp
  have c3 : ((w.alloc (.cells #[.int .i64 o.kind, .int .i64 o.R, .int .i64 o.C, .slice o.dO o.nD o.cD, .slice o.aO o.nA o.cA, .slice o.bO o.nB o.cB, .slice o.xO o.nX o.cX, .slice o.vO o.nV o.cV, .slice o.tO o.nT o.cT, .int .i64 o.N] 33)).alloc (.cells #[.slice (some ⟨ab, af, none⟩) (o.nA + 64) cA, .slice (some ⟨bb, bf, none⟩) (o.nB + 64) cB, .slice (some ⟨db, df, none⟩) (o.nD + 64) cD, .slice (some ⟨xb, xf, none⟩) (o.nX + 64) cX, .slice (some ⟨tb, tf, none⟩) (o.nT + 64) cT, .slice vO o.nV cV] 41)).cell? ⟨w.heap.size, 3, none⟩ = some (.slice o.dO o.nD o.cD) := by simp
  have c4 : ((w.alloc (.cells #[.int .i64 o.kind, .int .i64 o.R, .int .i64 o.C, .slice o.dO o.nD o.cD, .slice o.aO o.nA o.cA, .slice o.bO o.nB o.cB, .slice o.xO o.nX o.cX, .slice o.vO o.nV o.cV, .slice o.tO o.nT o.cT, .int .i64 o.N] 33)).alloc (.cells #[.slice (some ⟨ab, af, none⟩) (o.nA + 64) cA, .slice (some ⟨bb, bf, none⟩) (o.nB + 64) cB, .slice (some ⟨db, df, none⟩) (o.nD + 64) cD, .slice (some ⟨xb, xf, none⟩) (o.nX + 64) cX, .slice (some ⟨tb, tf, none⟩) (o.nT + 64) cT, .slice vO o.nV cV] 41)).cell? ⟨w.heap.size, 4, none⟩ = some (.slice o.aO o.nA o.cA) := by simp
  have c5 : ((w.alloc (.cells #[.int .i64 o.kind, .int .i64 o.R, .int .i64 o.C, .slice o.dO o.nD o.cD, .slice o.aO o.nA o.cA, .slice o.bO o.nB o.cB, .slice o.xO o.nX o.cX, .slice o.vO o.nV o.cV, .slice o.tO o.nT o.cT, .int .i64 o.N] 33)).alloc (.cells #[.slice (some ⟨ab, af, none⟩) (o.nA + 64) cA, .slice (some ⟨bb, bf, none⟩) (o.nB + 64) cB, .slice (some ⟨db, df, none⟩) (o.nD + 64) cD, .slice (some ⟨xb, xf, none⟩) (o.nX + 64) cX, .slice (some ⟨tb, tf, none⟩) (o.nT + 64) cT, .slice vO o.nV cV] 41)).cell? ⟨w.heap.size, 5, none⟩ = some (.slice o.bO o.nB o.cB) := by simp
  have c6 : ((w.alloc (.cells #[.int .i64 o.kind, .int .i64 o.R, .int .i64 o.C, .slice o.dO o.nD o.cD, .slice o.aO o.nA o.cA, .slice o.bO o.nB o.cB, .slice o.xO o.nX o.cX, .slice o.vO o.nV o.cV, .slice o.tO o.nT o.cT, .int .i64 o.N] 33)).alloc (.cells #[.slice (some ⟨ab, af, none⟩) (o.nA + 64) cA, .slice (some ⟨bb, bf, none⟩) (o.nB + 64) cB, .slice (some ⟨db, df, none⟩) (o.nD + 64) cD, .slice (some ⟨xb, xf, none⟩) (o.nX + 64) cX, .slice (some ⟨tb, tf, none⟩) (o.nT + 64) cT, .slice vO o.nV cV] 41)).cell? ⟨w.heap.size, 6, none⟩ = some (.slice o.xO o.nX o.cX) := by simp
  have c7 : ((w.alloc (.cells #[.int .i64 o.kind, .int .i64 o.R, .int .i64 o.C, .slice o.dO o.nD o.cD, .slice o.aO o.nA o.cA, .slice o.bO o.nB o.cB, .slice o.xO o.nX o.cX, .slice o.vO o.nV o.cV, .slice o.tO o.nT o.cT, .int .i64 o.N] 33)).alloc (.cells #[.slice (some ⟨ab, af, none⟩) (o.nA + 64) cA, .slice (some ⟨bb, bf, none⟩) (o.nB + 64) cB, .slice (some ⟨db, df, none⟩) (o.nD + 64) cD, .slice (some ⟨xb, xf, none⟩) (o.nX + 64) cX, .slice (some ⟨tb, tf, none⟩) (o.nT + 64) cT, .slice vO o.nV cV] 41)).cell? ⟨w.heap.size, 7, none⟩ = some (.slice o.vO o.nV o.cV) := by simp
  have c8 : ((w.alloc (.cells #[.int .i64 o.kind, .int .i64 o.R, .int .i64 o.C, .slice o.dO o.nD o.cD, .slice o.aO o.nA o.cA, .slice o.bO o.nB o.cB, .slice o.xO o.nX o.cX, .slice o.vO o.nV o.cV, .slice o.tO o.nT o.cT, .int .i64 o.N] 33)).alloc (.cells #[.slice (some ⟨ab, af, none⟩) (o.nA + 64) cA, .slice (some ⟨bb, bf, none⟩) (o.nB + 64) cB, .slice (some ⟨db, df, none⟩) (o.nD + 64) cD, .slice (some ⟨xb, xf, none⟩) (o.nX + 64) cX, .slice (some ⟨tb, tf, none⟩) (o.nT + 64) cT, .slice vO o.nV cV] 41)).cell? ⟨w.heap.size, 8, none⟩ = some (.slice o.tO o.nT o.cT) := by simp
  have c9 : ((w.alloc (.cells #[.int .i64 o.kind, .int .i64 o.R, .int .i64 o.C, .slice o.dO o.nD o.cD, .slice o.aO o.nA o.cA, .slice o.bO o.nB o.cB, .slice o.xO o.nX o.cX, .slice o.vO o.nV o.cV, .slice o.tO o.nT o.cT, .int .i64 o.N] 33)).alloc (.cells #[.slice (some ⟨ab, af, none⟩) (o.nA + 64) cA, .slice (some ⟨bb, bf, none⟩) (o.nB + 64) cB, .slice (some ⟨db, df, none⟩) (o.nD + 64) cD, .slice (some ⟨xb, xf, none⟩) (o.nX + 64) cX, .slice (some ⟨tb, tf, none⟩) (o.nT + 64) cT, .slice vO o.nV cV] 41)).cell? ⟨w.heap.size, 9, none⟩ = some (.int .i64 o.N) := by simp
  have d0 : ((w.alloc (.cells #[.int .i64 o.kind, .int .i64 o.R, .int .i64 o.C, .slice o.dO o.nD o.cD, .slice o.aO o.nA o.cA, .slice o.bO o.nB o.cB, .slice o.xO o.nX o.cX, .slice o.vO o.nV o.cV, .slice o.tO o.nT o.cT, .int .i64 o.N] 33)).alloc (.cells #[.slice (some ⟨ab, af, none⟩) (o.nA + 64) cA, .slice (some ⟨bb, bf, none⟩) (o.nB + 64) cB, .slice (some ⟨db, df, none⟩) (o.nD + 64) cD, .slice (some ⟨xb, xf, none⟩) (o.nX + 64) cX, .slice (some ⟨tb, tf, none⟩) (o.nT + 64) cT, .slice vO o.nV cV] 41)).cell? ⟨w.heap.size + 1, 0, none⟩ = some (.slice (some ⟨ab, af, none⟩) (o.nA + 64) cA) := by simp
  have d1 : ((w.alloc (.cells #[.int .i64 o.kind, .int .i64 o.R, .int .i64 o.C, .slice o.dO o.nD o.cD, .slice o.aO o.nA o.cA, .slice o.bO o.nB o.cB, .slice o.xO o.nX o.cX, .slice o.vO o.nV o.cV, .slice o.tO o.nT o.cT, .int .i64 o.N] 33)).alloc (.cells #[.slice (some ⟨ab, af, none⟩) (o.nA + 64) cA, .slice (some ⟨bb, bf, none⟩) (o.nB + 64) cB, .slice (some ⟨db, df, none⟩) (o.nD + 64) cD, .slice (some ⟨xb, xf, none⟩) (o.nX + 64) cX, .slice (some ⟨tb, tf, none⟩) (o.nT + 64) cT, .slice vO o.nV cV] 41)).cell? ⟨w.heap.size + 1, 1, none⟩ = some (.slice (some ⟨bb, bf, none⟩) (o.nB + 64) cB) := by simp
  have d2 : ((w.alloc (.cells #[.int .i64 o.kind, .int .i64 o.R, .int .i64 o.C, .slice o.dO o.nD o.cD, .slice o.aO o.nA o.cA, .slice o.bO o.nB o.cB, .slice o.xO o.nX o.cX, .slice o.vO o.nV o.cV, .slice o.tO o.nT o.cT, .int .i64 o.N] 33)).alloc (.cells #[.slice (some ⟨ab, af, none⟩) (o.nA + 64) cA, .slice (some ⟨bb, bf, none⟩) (o.nB + 64) cB, .slice (some ⟨db, df, none⟩) (o.nD + 64) cD, .slice (some ⟨xb, xf, none⟩) (o.nX + 64) cX, .slice (some ⟨tb, tf, none⟩) (o.nT + 64) cT, .slice vO o.nV cV] 41)).cell? ⟨w.heap.size + 1, 2, none⟩ = some (.slice (some ⟨db, df, none⟩) (o.nD + 64) cD) := by simp
  have d3 : ((w.alloc (.cells #[.int .i64 o.kind, .int .i64 o.R, .int .i64 o.C, .slice o.dO o.nD o.cD, .slice o.aO o.nA o.cA, .slice o.bO o.nB o.cB, .slice o.xO o.nX o.cX, .slice o.vO o.nV o.cV, .slice o.tO o.nT o.cT, .int .i64 o.N] 33)).alloc (.cells #[.slice (some ⟨ab, af, none⟩) (o.nA + 64) cA, .slice (some ⟨bb, bf, none⟩) (o.nB + 64) cB, .slice (some ⟨db, df, none⟩) (o.nD + 64) cD, .slice (some ⟨xb, xf, none⟩) (o.nX + 64) cX, .slice (some ⟨tb, tf, none⟩) (o.nT + 64) cT, .slice vO o.nV cV] 41)).cell? ⟨w.heap.size + 1, 3, none⟩ = some (.slice (some ⟨xb, xf, none⟩) (o.nX + 64) cX) := by simp
  have d4 : ((w.alloc (.cells #[.int .i64 o.kind, .int .i64 o.R, .int .i64 o.C, .slice o.dO o.nD o.cD, .slice o.aO o.nA o.cA, .slice o.bO o.nB o.cB, .slice o.xO o.nX o.cX, .slice o.vO o.nV o.cV, .slice o.tO o.nT o.cT, .int .i64 o.N] 33)).alloc (.cells #[.slice (some ⟨ab, af, none⟩) (o.nA + 64) cA, .slice (some ⟨bb, bf, none⟩) (o.nB + 64) cB, .slice (some ⟨db, df, none⟩) (o.nD + 64) cD, .slice (some ⟨xb, xf, none⟩) (o.nX + 64) cX, .slice (some ⟨tb, tf, none⟩) (o.nT + 64) cT, .slice vO o.nV cV] 41)).cell? ⟨w.heap.size + 1, 4, none⟩ = some (.slice (some ⟨tb, tf, none⟩) (o.nT + 64) cT) := by simp
  have d5 : ((w.alloc (.cells #[.int .i64 o.kind, .int .i64 o.R, .int .i64 o.C, .slice o.dO o.nD o.cD, .slice o.aO o.nA o.cA, .slice o.bO o.nB o.cB, .slice o.xO o.nX o.cX, .slice o.vO o.nV o.cV, .slice o.tO o.nT o.cT, .int .i64 o.N] 33)).alloc (.cells #[.slice (some ⟨ab, af, none⟩) (o.nA + 64) cA, .slice (some ⟨bb, bf, none⟩) (o.nB + 64) cB, .slice (some ⟨db, df, none⟩) (o.nD + 64) cD, .slice (some ⟨xb, xf, none⟩) (o.nX + 64) cX, .slice (some ⟨tb, tf, none⟩) (o.nT + 64) cT, .slice vO o.nV cV] 41)).cell? ⟨w.heap.size + 1, 5, none⟩ = some (.slice vO o.nV cV) := by simp
  generalize ((w.alloc (.cells #[.int .i64 o.kind, .int .i64 o.R, .int .i64 o.C, .slice o.dO o.nD o.cD, .slice o.aO o.nA o.cA, .slice o.bO o.nB o.cB, .slice o.xO o.nX o.cX, .slice o.vO o.nV o.cV, .slice o.tO o.nT o.cT, .int .i64 o.N] 33)).alloc (.cells #[.slice (some ⟨ab, af, none⟩) (o.nA + 64) cA, .slice (some ⟨bb, bf, none⟩) (o.nB + 64) cB, .slice (some ⟨db, df, none⟩) (o.nD + 64) cD, .slice (some ⟨xb, xf, none⟩) (o.nX + 64) cX, .slice (some ⟨tb, tf, none⟩) (o.nT + 64) cT, .slice vO o.nV cV] 41)) = w1 at *
  go_region_held3 (fun w' => w'.cell? ⟨w.heap.size, 1, none⟩ = some (.int .i64 o.R) ∧ w'.cell? ⟨w.heap.size, 2, none⟩ = some (.int .i64 o.C) ∧ w'.cell? ⟨w.heap.size, 3, none⟩ = some (.slice o.dO o.nD o.cD) ∧ w'.cell? ⟨w.heap.size + 1, 2, none⟩ = some (.slice (some ⟨db, df, none⟩) (o.nD + 64) cD)) (go_keep) (fail)
  rename_i hHeld
  clear hHeld
  have m0 : (w1.alloc (.cells #[.int .i64 o.R, .int .i64 o.C, .slice (some ⟨db, df, none⟩) o.nD cD] 28)).drew.cell? ⟨w1.heap.size, 0, none⟩ = some (.int .i64 o.R) := by simp
  have m1 : (w1.alloc (.cells #[.int .i64 o.R, .int .i64 o.C, .slice (some ⟨db, df, none⟩) o.nD cD] 28)).drew.cell? ⟨w1.heap.size, 1, none⟩ = some (.int .i64 o.C) := by simp
  have m2 : (w1.alloc (.cells #[.int .i64 o.R, .int .i64 o.C, .slice (some ⟨db, df, none⟩) o.nD cD] 28)).drew.cell? ⟨w1.heap.size, 2, none⟩ = some (.slice (some ⟨db, df, none⟩) o.nD cD) := by simp
  have hf1 := (fresh_alloc w1 (.cells #[.int .i64 o.R, .int .i64 o.C, .slice (some ⟨db, df, none⟩) o.nD cD] 28)).drew
  replace c0 := fresh_cell hf1 c0
  replace c1 := fresh_cell hf1 c1
  replace c2 := fresh_cell hf1 c2
  replace c3 := fresh_cell hf1 c3
  replace c4 := fresh_cell hf1 c4
  replace c5 := fresh_cell hf1 c5
  replace c6 := fresh_cell hf1 c6
  replace c7 := fresh_cell hf1 c7
  replace c8 := fresh_cell hf1 c8
  replace c9 := fresh_cell hf1 c9
  replace d0 := fresh_cell hf1 d0
  replace d1 := fresh_cell hf1 d1
  replace d2 := fresh_cell hf1 d2
  replace d3 := fresh_cell hf1 d3
  replace d4 := fresh_cell hf1 d4
  replace d5 := fresh_cell hf1 d5
  have hF := fresh_trans hf0 hf1
  clear hf0 hf1
  generalize (w1.alloc (.cells #[.int .i64 o.R, .int .i64 o.C, .slice (some ⟨db, df, none⟩) o.nD cD] 28)).drew = w2 at *
  have HI2 := hidd (HI.out.fresh hF)
  have HR2 := hidd (HR.out.fresh hF)
  have hC : Below w2.heap.size w2 w2 := Below.refl _ _
  have C0 := hidd c0
  have C1 := hidd c1
  have C2 := hidd c2
  have C3 := hidd c3
  have C4 := hidd c4
  have C5 := hidd c5
  have C6 := hidd c6
  have C7 := hidd c7
  have C8 := hidd c8
  have C9 := hidd c9
  have D0 := hidd d0
  have D1 := hidd d1
  have D2 := hidd d2
  have D3 := hidd d3
  have D4 := hidd d4
  have D5 := hidd d5
  have M0 := hidd m0
  have M1 := hidd m1
  have M2 := hidd m2
  go_wp2_with fail
  refine (HP.out _ _ _ (short_mkd (HI2.out.x.fresh hC))).mono ?_
  rintro e w3 ⟨la, lc, rfl, hl, hn0⟩
  replace hC := fresh_trans hC hn0
  clear c0 c1 c2 c3 c4 c5 c6 c7 c8 c9 d0 d1 d2 d3 d4 d5
  have c0 := fresh_cell hC C0.out
  have c1 := fresh_cell hC C1.out
  have c2 := fresh_cell hC C2.out
  have c3 := fresh_cell hC C3.out
  have c4 := fresh_cell hC C4.out
  have c5 := fresh_cell hC C5.out
  have c6 := fresh_cell hC C6.out
  have c7 := fresh_cell hC C7.out
  have c8 := fresh_cell hC C8.out
  have c9 := fresh_cell hC C9.out
  have d0 := fresh_cell hC D0.out
  have d1 := fresh_cell hC D1.out
  have d2 := fresh_cell hC D2.out
  have d3 := fresh_cell hC D3.out
  have d4 := fresh_cell hC D4.out
  have d5 := fresh_cell hC D5.out
  go_wp2_with fail
  refine (HQ.out _ _ _ (HR2.out.x.fresh hC)).mono ?_
  rintro e w4 ⟨ra, rc', rfl, hv, hn⟩
  replace hC := fresh_trans hC hn
  clear c0 c1 c2 c3 c4 c5 c6 c7 c8 c9 d0 d1 d2 d3 d4 d5
  go_wp2_with fail
  refine (eqWide_same (f := fun _ => 0) (g := fun _ => 0) (rdn _ _) (rdn _ _) (fun _ _ => rfl)).mono ?_
  rintro e wn ⟨rfl, hq⟩
  replace hC := fresh_trans hC hq
  go_wp2_with fail
  refine (eqNarrow_same (hl.fresh (fresh_trans hn hq)) (hv.fresh hq) (fun _ _ => rfl)).mono ?_
  rintro e wn ⟨rfl, hn3⟩
  replace hC := fresh_trans hC hn3
  clear hn3
  go_wp2
  go_ret
  exact ⟨ret_bool (by simp), fresh_trans hF hC⟩
set_option maxRecDepth 20000 in
set_option maxHeartbeats 4000000 in
theorem plain_norm {w : World} {o : OpD} {ab af bb bf db df xb xf tb tf cA cB cD cX cT cV : Nat} {vO : Option Addr} {Va : Nat → Option Addr} {Vk : Nat → Nat} (hI : InR w ⟨some ⟨ab, af, none⟩, cA, some ⟨bb, bf, none⟩, cB, some ⟨db, df, none⟩, cD, some ⟨xb, xf, none⟩, cX, some ⟨tb, tf, none⟩, cT, vO, cV, Va, Vk⟩ o) (hR : OpR w o) (hk : o.kind = 4) :
    Calls Tryd.prog 16 #[.agg #[.int .i64 o.kind, .int .i64 o.R, .int .i64 o.C, .slice o.dO o.nD o.cD, .slice o.aO o.nA o.cA, .slice o.bO o.nB o.cB, .slice o.xO o.nX o.cX, .slice o.vO o.nV o.cV, .slice o.tO o.nT o.cT, .int .i64 o.N], .agg #[.slice (some ⟨ab, af, none⟩) (o.nA + 64) cA, .slice (some ⟨bb, bf, none⟩) (o.nB + 64) cB, .slice (some ⟨db, df, none⟩) (o.nD + 64) cD, .slice (some ⟨xb, xf, none⟩) (o.nX + 64) cX, .slice (some ⟨tb, tf, none⟩) (o.nT + 64) cT, .slice vO o.nV cV]] w fun e w' => e = .returned (.bool true) ∧ Below w.heap.size w w' := by
  obtain ⟨k, er, F, hp, hr⟩ := norm_uni o.nX o.nA o.X o.A hR.sX hR.bX hR.bA
  have HI := hidd hI
  have HR := hidd hR
  have HP := hidd hp
  have HQ := hidd hr
  clear hp hr
  have lA : o.nA + 64 ≤ cA := hI.a.le
  have jA : (0 : Int) ≤ (o.nA : Int) := Int.natCast_nonneg _
  have iA : (o.nA : Int) ≤ (cA : Int) := by omega
  have lB : o.nB + 64 ≤ cB := hI.b.le
  have jB : (0 : Int) ≤ (o.nB : Int) := Int.natCast_nonneg _
  have iB : (o.nB : Int) ≤ (cB : Int) := by omega
  have lD : o.nD + 64 ≤ cD := hI.d.le
  have jD : (0 : Int) ≤ (o.nD : Int) := Int.natCast_nonneg _
  have iD : (o.nD : Int) ≤ (cD : Int) := by omega
  have lX : o.nX + 64 ≤ cX := hI.x.le
  have jX : (0 : Int) ≤ (o.nX : Int) := Int.natCast_nonneg _
  have iX : (o.nX : Int) ≤ (cX : Int) := by omega
  have lT : o.nT + 64 ≤ cT := hI.t.le
  have jT : (0 : Int) ≤ (o.nT : Int) := Int.natCast_nonneg _
  have iT : (o.nT : Int) ≤ (cT : Int) := by omega
  have e1 : (o.kind == 1) = false := by simp [hk]
  have e2 : (o.kind == 2) = false := by simp [hk]
  have e3 : (o.kind == 3) = false := by simp [hk]
  have e4 : (o.kind == 4) = true := by simp [hk]
  have e5 : (o.kind == 5) = false := by simp [hk]
  clear hI hR hk
  go_enter Tryd.func16, Tryd.ntmps16
  go_wp2_with fail
  have hf0 := fresh_trans (fresh_alloc w (.cells #[.int .i64 o.kind, .int .i64 o.R, .int .i64 o.C, .slice o.dO o.nD o.cD, .slice o.aO o.nA o.cA, .slice o.bO o.nB o.cB, .slice o.xO o.nX o.cX, .slice o.vO o.nV o.cV, .slice o.tO o.nT o.cT, .int .i64 o.N] 33)) (fresh_alloc _ (.cells #[.slice (some ⟨ab, af, none⟩) (o.nA + 64) cA, .slice (some ⟨bb, bf, none⟩) (o.nB + 64) cB, .slice (some ⟨db, df, none⟩) (o.nD + 64) cD, .slice (some ⟨xb, xf, none⟩) (o.nX + 64) cX, .slice (some ⟨tb, tf, none⟩) (o.nT + 64) cT, .slice vO o.nV cV] 41))
  have c0 : ((w.alloc (.cells #[.int .i64 o.kind, .int .i64 o.R, .int .i64 o.C, .slice o.dO o.nD o.cD, .slice o.aO o.nA o.cA, .slice o.bO o.nB o.cB, .slice o.xO o.nX o.cX, .slice o.vO o.nV o.cV, .slice o.tO o.nT o.cT, .int .i64 o.N] 33)).alloc (.cells #[.slice (some ⟨ab, af, none⟩) (o.nA + 64) cA, .slice (some ⟨bb, bf, none⟩) (o.nB + 64) cB, .slice (some ⟨db, df, none⟩) (o.nD + 64) cD, .slice (some ⟨xb, xf, none⟩) (o.nX + 64) cX, .slice (some ⟨tb, tf, none⟩) (o.nT + 64) cT, .slice vO o.nV cV] 41)).cell? ⟨w.heap.size, 0, none⟩ = some (.int .i64 o.kind) := by simp
  have c1 : ((w.alloc (.cells #[.int .i64 o.kind, .int .i64 o.R, .int .i64 o.C, .slice o.dO o.nD o.cD, .slice o.aO o.nA o.cA, .slice o.bO o.nB o.cB, .slice o.xO o.nX o.cX, .slice o.vO o.nV o.cV, .slice o.tO o.nT o.cT, .int .i64 o.N] 33)).alloc (.cells #[.slice (some ⟨ab, af, none⟩) (o.nA + 64) cA, .slice (some ⟨bb, bf, none⟩) (o.nB + 64) cB, .slice (some ⟨db, df, none⟩) (o.nD + 64) cD, .slice (some ⟨xb, xf, none⟩) (o.nX + 64) cX, .slice (some ⟨tb, tf, none⟩) (o.nT + 64) cT, .slice vO o.nV cV] 41)).cell? ⟨w.heap.size, 1, none⟩ = some (.int .i64 o.R) := by simp
  have c2 : ((w.alloc (.cells #[.int .i64 o.kind, .int .i64 o.R, .int .i64 o.C, .slice o.dO o.nD o.cD, .slice o.aO o.nA o.cA, .slice o.bO o.nB o.cB, .slice o.xO o.nX o.cX, .slice o.vO o.nV o.cV, .slice o.tO o.nT o.cT, .int .i64 o.N] 33)).alloc (.cells #[.slice (some ⟨ab, af, none⟩) (o.nA + 64) cA, .slice (some ⟨bb, bf, none⟩) (o.nB + 64) cB, .slice (some ⟨db, df, none⟩) (o.nD + 64) cD, .slice (some ⟨xb, xf, none⟩) (o.nX + 64) cX, .slice (some ⟨tb, tf, none⟩) (o.nT + 64) cT, .slice vO o.nV cV] 41)).cell? ⟨w.heap.size, 2, none⟩ = some (.int .i64 o.C) := by simp
  have c3 : ((w.alloc (.cells #[.int .i64 o.kind, .int .i64 o.R, .int .i64 o.C, .slice o.dO o.nD o.cD, .slice o.aO o.nA o.cA, .slice o.bO o.nB o.cB, .slice o.xO o.nX o.cX, .slice o.vO o.nV o.cV, .slice o.tO o.nT o.cT, .int .i64 o.N] 33)).alloc (.cells #[.slice (some ⟨ab, af, none⟩) (o.nA + 64) cA, .slice (some ⟨bb, bf, none⟩) (o.nB + 64) cB, .slice (some ⟨db, df, none⟩) (o.nD + 64) cD, .slice (some ⟨xb, xf, none⟩) (o.nX + 64) cX, .slice (some ⟨tb, tf, none⟩) (o.nT + 64) cT, .slice vO o.nV cV] 41)).cell? ⟨w.heap.size, 3, none⟩ = some (.slice o.dO o.nD o.cD) := by simp
  have c4 : ((w.alloc (.cells #[.int .i64 o.kind, .int .i64 o.R, .int .i64 o.C, .slice o.dO o.nD o.cD, .slice o.aO o.nA o.cA, .slice o.bO o.nB o.cB, .slice o.xO o.nX o.cX, .slice o.vO o.nV o.cV, .slice o.tO o.nT o.cT, .int .i64 o.N] 33)).alloc (.cells #[.slice (some ⟨ab, af, none⟩) (o.nA + 64) cA, .slice (some ⟨bb, bf, none⟩) (o.nB + 64) cB, .slice (some ⟨db, df, none⟩) (o.nD + 64) cD, .slice (some ⟨xb, xf, none⟩) (o.nX + 64) cX, .slice (some ⟨tb, tf, none⟩) (o.nT + 64) cT, .slice vO o.nV cV] 41)).cell? ⟨w.heap.size, 4, none⟩ = some (.slice o.aO o.nA o.cA) := by simp
  have c5 : ((w.alloc (.cells #[.int .i64 o.kind, .int .i64 o.R, .int .i64 o.C, .slice o.dO o.nD o.cD, .slice o.aO o.nA o.cA, .slice o.bO o.nB o.cB, .slice o.xO o.nX o.cX, .slice o.vO o.nV o.cV, .slice o.tO o.nT o.cT, .int .i64 o.N] 33)).alloc (.cells #[.slice (some ⟨ab, af, none⟩) (o.nA + 64) cA, .slice (some ⟨bb, bf, none⟩) (o.nB + 64) cB, .slice (some ⟨db, df, none⟩) (o.nD + 64) cD, .slice (some ⟨xb, xf, none⟩) (o.nX + 64) cX, .slice (some ⟨tb, tf, none⟩) (o.nT + 64) cT, .slice vO o.nV cV] 41)).cell? ⟨w.heap.size, 5, none⟩ = some (.slice o.bO o.nB o.cB) := by simp
  have c6 : ((w.alloc (.cells #[.int .i64 o.kind, .int .i64 o.R, .int .i64 o.C, .slice o.dO o.nD o.cD, .slice o.aO o.nA o.cA, .slice o.bO o.nB o.cB, .slice o.xO o.nX o.cX, .slice o.vO o.nV o.cV, .slice o.tO o.nT o.cT, .int .i64 o.N] 33)).alloc (.cells #[.slice (some ⟨ab, af, none⟩) (o.nA + 64) cA, .slice (some ⟨bb, bf, none⟩) (o.nB + 64) cB, .slice (some ⟨db, df, none⟩) (o.nD + 64) cD, .slice (some ⟨xb, xf, none⟩) (o.nX + 64) cX, .slice (some ⟨tb, tf, none⟩) (o.nT + 64) cT, .slice vO o.nV cV] 41)).cell? ⟨w.heap.size, 6, none⟩ = some (.slice o.xO o.nX o.cX) := by simp
  have c7 : ((w.alloc (.cells #[.int .i64 o.kind, .int .i64 o.R, .int .i64 o.C, .slice o.dO o.nD o.cD, .slice o.aO o.nA o.cA, .slice o.bO o.nB o.cB, .slice o.xO o.nX o.cX, .slice o.vO o.nV o.cV, .slice o.tO o.nT o.cT, .int .i64 o.N] 33)).alloc (.cells #[.slice (some ⟨ab, af, none⟩) (o.nA + 64) cA, .slice (some ⟨bb, bf, none⟩) (o.nB + 64) cB, .slice (some ⟨db, df, none⟩) (o.nD + 64) cD, .slice (some ⟨xb, xf, none⟩) (o.nX + 64) cX, .slice (some ⟨tb, tf, none⟩) (o.nT + 64) cT, .slice vO o.nV cV] 41)).cell? ⟨w.heap.size, 7, none⟩ = some (.slice o.vO o.nV o.cV) := by simp
  have c8 : ((w.alloc (.cells #[.int .i64 o.kind, .int .i64 o.R, .int .i64 o.C, .slice o.dO o.nD o.cD, .slice o.aO o.nA o.cA, .slice o.bO o.nB o.cB, .slice o.xO o.nX o.cX, .slice o.vO o.nV o.cV, .slice o.tO o.nT o.cT, .int .i64 o.N] 33)).alloc (.cells #[.slice (some ⟨ab, af, none⟩) (o.nA + 64) cA, .slice (some ⟨bb, bf, none⟩) (o.nB + 64) cB, .slice (some ⟨db, df, none⟩) (o.nD + 64) cD, .slice (some ⟨xb, xf, none⟩) (o.nX + 64) cX, .slice (some ⟨tb, tf, none⟩) (o.nT + 64) cT, .slice vO o.nV cV] 41)).cell? ⟨w.heap.size, 8, none⟩ = some (.slice o.tO o.nT o.cT) := by simp
  have c9 : ((w.alloc (.cells #[.int .i64 o.kind, .int .i64 o.R, .int .i64 o.C, .slice o.dO o.nD o.cD, .slice o.aO o.nA o.cA, .slice o.bO o.nB o.cB, .slice o.xO o.nX o.cX, .slice o.vO o.nV o.cV, .slice o.tO o.nT o.cT, .int .i64 o.N] 33)).alloc (.cells #[.slice (some ⟨ab, af, none⟩) (o.nA + 64) cA, .slice (some ⟨bb, bf, none⟩) (o.nB + 64) cB, .slice (some ⟨db, df, none⟩) (o.nD + 64) cD, .slice (some ⟨xb, xf, none⟩) (o.nX + 64) cX, .slice (some ⟨tb, tf, none⟩) (o.nT + 64) cT, .slice vO o.nV cV] 41)).cell? ⟨w.heap.size, 9, none⟩ = some (.int .i64 o.N) := by simp
  have d0 : ((w.alloc (.cells #[.int .i64 o.kind, .int .i64 o.R, .int .i64 o.C, .slice o.dO o.nD o.cD, .slice o.aO o.nA o.cA, .slice o.bO o.nB o.cB, .slice o.xO o.nX o.cX, .slice o.vO o.nV o.cV, .slice o.tO o.nT o.cT, .int .i64 o.N] 33)).alloc (.cells #[.slice (some ⟨ab, af, none⟩) (o.nA + 64) cA, .slice (some ⟨bb, bf, none⟩) (o.nB + 64) cB, .slice (some ⟨db, df, none⟩) (o.nD + 64) cD, .slice (some ⟨xb, xf, none⟩) (o.nX + 64) cX, .slice (some ⟨tb, tf, none⟩) (o.nT + 64) cT, .slice vO o.nV cV] 41)).cell? ⟨w.heap.size + 1, 0, none⟩ = some (.slice (some ⟨ab, af, none⟩) (o.nA + 64) cA) := by simp
  have d1 : ((w.alloc (.cells #[.int .i64 o.kind, .int .i64 o.R, .int .i64 o.C, .slice o.dO o.nD o.cD, .slice o.aO o.nA o.cA, .slice o.bO o.nB o.cB, .slice o.xO o.nX o.cX, .slice o.vO o.nV o.cV, .slice o.tO o.nT o.cT, .int .i64 o.N] 33)).alloc (.cells #[.slice (some ⟨ab, af, none⟩) (o.nA + 64) cA, .slice (some ⟨bb, bf, none⟩) (o.nB + 64) cB, .slice (some ⟨db, df, none⟩) (o.nD + 64) cD, .slice (some ⟨xb, xf, none⟩) (o.nX + 64) cX, .slice (some ⟨tb, tf, none⟩) (o.nT + 64) cT, .slice vO o.nV cV] 41)).cell? ⟨w.heap.size + 1, 1, none⟩ = some (.slice (some ⟨bb, bf, none⟩) (o.nB + 64) cB) := by simp
  have d2 : ((w.alloc (.cells #[.int .i64 o.kind, .int .i64 o.R, .int .i64 o.C, .slice o.dO o.nD o.cD, .slice o.aO o.nA o.cA, .slice o.bO o.nB o.cB, .slice o.xO o.nX o.cX, .slice o.vO o.nV o.cV, .slice o.tO o.nT o.cT, .int .i64 o.N] 33)).alloc (.cells #[.slice (some ⟨ab, af, none⟩) (o.nA + 64) cA, .slice (some ⟨bb, bf, none⟩) (o.nB + 64) cB, .slice (some ⟨db, df, none⟩) (o.nD + 64) cD, .slice (some ⟨xb, xf, none⟩) (o.nX + 64) cX, .slice (some ⟨tb, tf, none⟩) (o.nT + 64) cT, .slice vO o.nV cV] 41)).cell? ⟨w.heap.size + 1, 2, none⟩ = some (.slice (some ⟨db, df, none⟩) (o.nD + 64) cD) := by simp
  have d3 : ((w.alloc (.cells #[.int .i64 o.kind, .int .i64 o.R, .int .i64 o.C, .slice o.dO o.nD o.cD, .slice o.aO o.nA o.cA, .slice o.bO o.nB o.cB, .slice o.xO o.nX o.cX, .slice o.vO o.nV o.cV, .slice o.tO o.nT o.cT, .int .i64 o.N] 33)).alloc (.cells #[.slice (some ⟨ab, af, none⟩) (o.nA + 64) cA, .slice (some ⟨bb, bf, none⟩) (o.nB + 64) cB, .slice (some ⟨db, df, none⟩) (o.nD + 64) cD, .slice (some ⟨xb, xf, none⟩) (o.nX + 64) cX, .slice (some ⟨tb, tf, none⟩) (o.nT + 64) cT, .slice vO o.nV cV] 41)).cell? ⟨w.heap.size + 1, 3, none⟩ = some (.slice (some ⟨xb, xf, none⟩) (o.nX + 64) cX) := by simp
  have d4 : ((w.alloc (.cells #[.int .i64 o.kind, .int .i64 o.R, .int .i64 o.C, .slice o.dO o.nD o.cD, .slice o.aO o.nA o.cA, .slice o.bO o.nB o.cB, .slice o.xO o.nX o.cX, .slice o.vO o.nV o.cV, .slice o.tO o.nT o.cT, .int .i64 o.N] 33)).alloc (.cells #[.slice (some ⟨ab, af, none⟩) (o.nA + 64) cA, .slice (some ⟨bb, bf, none⟩) (o.nB + 64) cB, .slice (some ⟨db, df, none⟩) (o.nD + 64) cD, .slice (some ⟨xb, xf, none⟩) (o.nX + 64) cX, .slice (some ⟨tb, tf, none⟩) (o.nT + 64) cT, .slice vO o.nV cV] 41)).cell? ⟨w.heap.size + 1, 4, none⟩ = some (.slice (some ⟨tb, tf, none⟩) (o.nT + 64) cT) := by simp
  have d5 : ((w.alloc (.cells #[.int .i64 o.kind, .int .i64 o.R, .int .i64 o.C, .slice o.dO o.nD o.cD, .slice o.aO o.nA o.cA, .slice o.bO o.nB o.cB, .slice o.xO o.nX o.cX, .slice o.vO o.nV o.cV, .slice o.tO o.nT o.cT, .int .i64 o.N] 33)).alloc (.cells #[.slice (some ⟨ab, af, none⟩) (o.nA + 64) cA, .slice (some ⟨bb, bf, none⟩) (o.nB + 64) cB, .slice (some ⟨db, df, none⟩) (o.nD + 64) cD, .slice (some ⟨xb, xf, none⟩) (o.nX + 64) cX, .slice (some ⟨tb, tf, none⟩) (o.nT + 64) cT, .slice vO o.nV cV] 41)).cell? ⟨w.heap.size + 1, 5, none⟩ = some (.slice vO o.nV cV) := by simp
  generalize ((w.alloc (.cells #[.int .i64 o.kind, .int .i64 o.R, .int .i64 o.C, .slice o.dO o.nD o.cD, .slice o.aO o.nA o.cA, .slice o.bO o.nB o.cB, .slice o.xO o.nX o.cX, .slice o.vO o.nV o.cV, .slice o.tO o.nT o.cT, .int .i64 o.N] 33)).alloc (.cells #[.slice (some ⟨ab, af, none⟩) (o.nA + 64) cA, .slice (some ⟨bb, bf, none⟩) (o.nB + 64) cB, .slice (some ⟨db, df, none⟩) (o.nD + 64) cD, .slice (some ⟨xb, xf, none⟩) (o.nX + 64) cX, .slice (some ⟨tb, tf, none⟩) (o.nT + 64) cT, .slice vO o.nV cV] 41)) = w1 at *
  go_region_held3 (fun w' => w'.cell? ⟨w.heap.size, 1, none⟩ = some (.int .i64 o.R) ∧ w'.cell? ⟨w.heap.size, 2, none⟩ = some (.int .i64 o.C) ∧ w'.cell? ⟨w.heap.size, 3, none⟩ = some (.slice o.dO o.nD o.cD) ∧ w'.cell? ⟨w.heap.size + 1, 2, none⟩ = some (.slice (some ⟨db, df, none⟩) (o.nD + 64) cD)) (go_keep) (fail)
  rename_i hHeld
  clear hHeld
  have m0 : (w1.alloc (.cells #[.int .i64 o.R, .int .i64 o.C, .slice (some ⟨db, df, none⟩) o.nD cD] 28)).drew.cell? ⟨w1.heap.size, 0, none⟩ = some (.int .i64 o.R) := by simp
  have m1 : (w1.alloc (.cells #[.int .i64 o.R, .int .i64 o.C, .slice (some ⟨db, df, none⟩) o.nD cD] 28)).drew.cell? ⟨w1.heap.size, 1, none⟩ = some (.int .i64 o.C) := by simp
  have m2 : (w1.alloc (.cells #[.int .i64 o.R, .int .i64 o.C, .slice (some ⟨db, df, none⟩) o.nD cD] 28)).drew.cell? ⟨w1.heap.size, 2, none⟩ = some (.slice (some ⟨db, df, none⟩) o.nD cD) := by simp
  have hf1 := (fresh_alloc w1 (.cells #[.int .i64 o.R, .int .i64 o.C, .slice (some ⟨db, df, none⟩) o.nD cD] 28)).drew
  replace c0 := fresh_cell hf1 c0
  replace c1 := fresh_cell hf1 c1
  replace c2 := fresh_cell hf1 c2
  replace c3 := fresh_cell hf1 c3
  replace c4 := fresh_cell hf1 c4
  replace c5 := fresh_cell hf1 c5
  replace c6 := fresh_cell hf1 c6
  replace c7 := fresh_cell hf1 c7
  replace c8 := fresh_cell hf1 c8
  replace c9 := fresh_cell hf1 c9
  replace d0 := fresh_cell hf1 d0
  replace d1 := fresh_cell hf1 d1
  replace d2 := fresh_cell hf1 d2
  replace d3 := fresh_cell hf1 d3
  replace d4 := fresh_cell hf1 d4
  replace d5 := fresh_cell hf1 d5
  have hF := fresh_trans hf0 hf1
  clear hf0 hf1
  generalize (w1.alloc (.cells #[.int .i64 o.R, .int .i64 o.C, .slice (some ⟨db, df, none⟩) o.nD cD] 28)).drew = w2 at *
  have HI2 := hidd (HI.out.fresh hF)
  have HR2 := hidd (HR.out.fresh hF)
  have hC : Below w2.heap.size w2 w2 := Below.refl _ _
  have C0 := hidd c0
  have C1 := hidd c1
  have C2 := hidd c2
  have C3 := hidd c3
  have C4 := hidd c4
  have C5 := hidd c5
  have C6 := hidd c6
  have C7 := hidd c7
  have C8 := hidd c8
  have C9 := hidd c9
  have D0 := hidd d0
  have D1 := hidd d1
  have D2 := hidd d2
  have D3 := hidd d3
  have D4 := hidd d4
  have D5 := hidd d5
  have M0 := hidd m0
  have M1 := hidd m1
  have M2 := hidd m2
  go_wp2_with fail
  refine (HP.out _ _ _ _ _ (short_mkd (HI2.out.x.fresh hC)) (short_mkd (HI2.out.a.fresh hC))).mono ?_
  rintro e w3 ⟨la, lc, rfl, hl, hn0⟩
  replace hC := fresh_trans hC hn0
  clear c0 c1 c2 c3 c4 c5 c6 c7 c8 c9 d0 d1 d2 d3 d4 d5
  have c0 := fresh_cell hC C0.out
  have c1 := fresh_cell hC C1.out
  have c2 := fresh_cell hC C2.out
  have c3 := fresh_cell hC C3.out
  have c4 := fresh_cell hC C4.out
  have c5 := fresh_cell hC C5.out
  have c6 := fresh_cell hC C6.out
  have c7 := fresh_cell hC C7.out
  have c8 := fresh_cell hC C8.out
  have c9 := fresh_cell hC C9.out
  have d0 := fresh_cell hC D0.out
  have d1 := fresh_cell hC D1.out
  have d2 := fresh_cell hC D2.out
  have d3 := fresh_cell hC D3.out
  have d4 := fresh_cell hC D4.out
  have d5 := fresh_cell hC D5.out
  go_wp2_with fail
  refine (HQ.out _ _ _ _ _ (HR2.out.x.fresh hC) (HR2.out.a.fresh hC)).mono ?_
  rintro e w4 ⟨ra, rc', rfl, hv, hn⟩
  replace hC := fresh_trans hC hn
  clear c0 c1 c2 c3 c4 c5 c6 c7 c8 c9 d0 d1 d2 d3 d4 d5
  go_wp2_with fail
  refine (eqWide_same (f := fun _ => 0) (g := fun _ => 0) (rdn _ _) (rdn _ _) (fun _ _ => rfl)).mono ?_
  rintro e wn ⟨rfl, hq⟩
  replace hC := fresh_trans hC hq
  go_wp2_with fail
  refine (eqNarrow_same (hl.fresh (fresh_trans hn hq)) (hv.fresh hq) (fun _ _ => rfl)).mono ?_
  rintro e wn ⟨rfl, hn3⟩
  replace hC := fresh_trans hC hn3
  clear hn3
  go_wp2
  go_ret
  exact ⟨ret_bool (by simp), fresh_trans hF hC⟩
set_option maxRecDepth 20000 in
set_option maxHeartbeats 4000000 in
theorem plain_dot {w : World} {o : OpD} {ab af bb bf db df xb xf tb tf cA cB cD cX cT cV : Nat} {vO : Option Addr} {Va : Nat → Option Addr} {Vk : Nat → Nat} (hI : InR w ⟨some ⟨ab, af, none⟩, cA, some ⟨bb, bf, none⟩, cB, some ⟨db, df, none⟩, cD, some ⟨xb, xf, none⟩, cX, some ⟨tb, tf, none⟩, cT, vO, cV, Va, Vk⟩ o) (hR : OpR w o) (hk : o.kind = 5) :
    Calls Tryd.prog 16 #[.agg #[.int .i64 o.kind, .int .i64 o.R, .int .i64 o.C, .slice o.dO o.nD o.cD, .slice o.aO o.nA o.cA, .slice o.bO o.nB o.cB, .slice o.xO o.nX o.cX, .slice o.vO o.nV o.cV, .slice o.tO o.nT o.cT, .int .i64 o.N], .agg #[.slice (some ⟨ab, af, none⟩) (o.nA + 64) cA, .slice (some ⟨bb, bf, none⟩) (o.nB + 64) cB, .slice (some ⟨db, df, none⟩) (o.nD + 64) cD, .slice (some ⟨xb, xf, none⟩) (o.nX + 64) cX, .slice (some ⟨tb, tf, none⟩) (o.nT + 64) cT, .slice vO o.nV cV]] w fun e w' => e = .returned (.bool true) ∧ Below w.heap.size w w' := by
  obtain ⟨p, er, hp, hr⟩ := dot_uni o.nA o.nB o.A o.B hR.bA hR.bB
  have HI := hidd hI
  have HR := hidd hR
  have HP := hidd hp
  have HQ := hidd hr
  clear hp hr
  have lA : o.nA + 64 ≤ cA := hI.a.le
  have jA : (0 : Int) ≤ (o.nA : Int) := Int.natCast_nonneg _
  have iA : (o.nA : Int) ≤ (cA : Int) := by omega
  have lB : o.nB + 64 ≤ cB := hI.b.le
  have jB : (0 : Int) ≤ (o.nB : Int) := Int.natCast_nonneg _
  have iB : (o.nB : Int) ≤ (cB : Int) := by omega
  have lD : o.nD + 64 ≤ cD := hI.d.le
  have jD : (0 : Int) ≤ (o.nD : Int) := Int.natCast_nonneg _
  have iD : (o.nD : Int) ≤ (cD : Int) := by omega
  have lX : o.nX + 64 ≤ cX := hI.x.le
  have jX : (0 : Int) ≤ (o.nX : Int) := Int.natCast_nonneg _
  have iX : (o.nX : Int) ≤ (cX : Int) := by omega
  have lT : o.nT + 64 ≤ cT := hI.t.le
  have jT : (0 : Int) ≤ (o.nT : Int) := Int.natCast_nonneg _
  have iT : (o.nT : Int) ≤ (cT : Int) := by omega
  have e1 : (o.kind == 1) = false := by simp [hk]
  have e2 : (o.kind == 2) = false := by simp [hk]
  have e3 : (o.kind == 3) = false := by simp [hk]
  have e4 : (o.kind == 4) = false := by simp [hk]
  have e5 : (o.kind == 5) = true := by simp [hk]
  clear hI hR hk
  go_enter Tryd.func16, Tryd.ntmps16
  go_wp2_with fail
  have hf0 := fresh_trans (fresh_alloc w (.cells #[.int .i64 o.kind, .int .i64 o.R, .int .i64 o.C, .slice o.dO o.nD o.cD, .slice o.aO o.nA o.cA, .slice o.bO o.nB o.cB, .slice o.xO o.nX o.cX, .slice o.vO o.nV o.cV, .slice o.tO o.nT o.cT, .int .i64 o.N] 33)) (fresh_alloc _ (.cells #[.slice (some ⟨ab, af, none⟩) (o.nA + 64) cA, .slice (some ⟨bb, bf, none⟩) (o.nB + 64) cB, .slice (some ⟨db, df, none⟩) (o.nD + 64) cD, .slice (some ⟨xb, xf, none⟩) (o.nX + 64) cX, .slice (some ⟨tb, tf, none⟩) (o.nT + 64) cT, .slice vO o.nV cV] 41))
  have c0 : ((w.alloc (.cells #[.int .i64 o.kind, .int .i64 o.R, .int .i64 o.C, .slice o.dO o.nD o.cD, .slice o.aO o.nA o.cA, .slice o.bO o.nB o.cB, .slice o.xO o.nX o.cX, .slice o.vO o.nV o.cV, .slice o.tO o.nT o.cT, .int .i64 o.N] 33)).alloc (.cells #[.slice (some ⟨ab, af, none⟩) (o.nA + 64) cA, .slice (some ⟨bb, bf, none⟩) (o.nB + 64) cB, .slice (some ⟨db, df, none⟩) (o.nD + 64) cD, .slice (some ⟨xb, xf, none⟩) (o.nX + 64) cX, .slice (some ⟨tb, tf, none⟩) (o.nT + 64) cT, .slice vO o.nV cV] 41)).cell? ⟨w.heap.size, 0, none⟩ = some (.int .i64 o.kind) := by simp
  have c1 : ((w.alloc (.cells #[.int .i64 o.kind, .int .i64 o.R, .int .i64 o.C, .slice o.dO o.nD o.cD, .slice o.aO o.nA o.cA, .slice o.bO o.nB o.cB, .slice o.xO o.nX o.cX, .slice o.vO o.nV o.cV, .slice o.tO o.nT o.cT, .int .i64 o.N] 33)).alloc (.cells #[.slice (some ⟨ab, af, none⟩) (o.nA + 64) cA, .slice (some ⟨bb, bf, none⟩) (o.nB + 64) cB, .slice (some ⟨db, df, none⟩) (o.nD + 64) cD, .slice (some ⟨xb, xf, none⟩) (o.nX + 64) cX, .slice (some ⟨tb, tf, none⟩) (o.nT + 64) cT, .slice vO o.nV cV] 41)).cell? ⟨w.heap.size, 1, none⟩ = some (.int .i64 o.R) := by simp
  have c2 : ((w.alloc (.cells #[.int .i64 o.kind, .int .i64 o.R, .int .i64 o.C, .slice o.dO o.nD o.cD, .slice o.aO o.nA o.cA, .slice o.bO o.nB o.cB, .slice o.xO o.nX o.cX, .slice o.vO o.nV o.cV, .slice o.tO o.nT o.cT, .int .i64 o.N] 33)).alloc (.cells #[.slice (some ⟨ab, af, none⟩) (o.nA + 64) cA, .slice (some ⟨bb, bf, none⟩) (o.nB + 64) cB, .slice (some ⟨db, df, none⟩) (o.nD + 64) cD, .slice (some ⟨xb, xf, none⟩) (o.nX + 64) cX, .slice (some ⟨tb, tf, none⟩) (o.nT + 64) cT, .slice vO o.nV cV] 41)).cell? ⟨w.heap.size, 2, none⟩ = some (.int .i64 o.C) := by simp
  have c3 : ((w.alloc (.cells #[.int .i64 o.kind, .int .i64 o.R, .int .i64 o.C, .slice o.dO o.nD o.cD, .slice o.aO o.nA o.cA, .slice o.bO o.nB o.cB, .slice o.xO o.nX o.cX, .slice o.vO o.nV o.cV, .slice o.tO o.nT o.cT, .int .i64 o.N] 33)).alloc (.cells #[.slice (some ⟨ab, af, none⟩) (o.nA + 64) cA, .slice (some ⟨bb, bf, none⟩) (o.nB + 64) cB, .slice (some ⟨db, df, none⟩) (o.nD + 64) cD, .slice (some ⟨xb, xf, none⟩) (o.nX + 64) cX, .slice (some ⟨tb, tf, none⟩) (o.nT + 64) cT, .slice vO o.nV cV] 41)).cell? ⟨w.heap.size, 3, none⟩ = some (.slice o.dO o.nD o.cD) := by simp
  have c4 : ((w.alloc (.cells #[.int .i64 o.kind, .int .i64 o.R, .int .i64 o.C, .slice o.dO o.nD o.cD, .slice o.aO o.nA o.cA, .slice o.bO o.nB o.cB, .slice o.xO o.nX o.cX, .slice o.vO o.nV o.cV, .slice o.tO o.nT o.cT, .int .i64 o.N] 33)).alloc (.cells #[.slice (some ⟨ab, af, none⟩) (o.nA + 64) cA, .slice (some ⟨bb, bf, none⟩) (o.nB + 64) cB, .slice (some ⟨db, df, none⟩) (o.nD + 64) cD, .slice (some ⟨xb, xf, none⟩) (o.nX + 64) cX, .slice (some ⟨tb, tf, none⟩) (o.nT + 64) cT, .slice vO o.nV cV] 41)).cell? ⟨w.heap.size, 4, none⟩ = some (.slice o.aO o.nA o.cA) := by simp
  have c5 : ((w.alloc (.cells #[.int .i64 o.kind, .int .i64 o.R, .int .i64 o.C, .slice o.dO o.nD o.cD, .slice o.aO o.nA o.cA, .slice o.bO o.nB o.cB, .slice o.xO o.nX o.cX, .slice o.vO o.nV o.cV, .slice o.tO o.nT o.cT, .int .i64 o.N] 33)).alloc (.cells #[.slice (some ⟨ab, af, none⟩) (o.nA + 64) cA, .slice (some ⟨bb, bf, none⟩) (o.nB + 64) cB, .slice (some ⟨db, df, none⟩) (o.nD + 64) cD, .slice (some ⟨xb, xf, none⟩) (o.nX + 64) cX, .slice (some ⟨tb, tf, none⟩) (o.nT + 64) cT, .slice vO o.nV cV] 41)).cell? ⟨w.heap.size, 5, none⟩ = some (.slice o.bO o.nB o.cB) := by simp
  have c6 : ((w.alloc (.cells #[.int .i64 o.kind, .int .i64 o.R, .int .i64 o.C, .slice o.dO o.nD o.cD, .slice o.aO o.nA o.cA, .slice o.bO o.nB o.cB, .slice o.xO o.nX o.cX, .slice o.vO o.nV o.cV, .slice o.tO o.nT o.cT, .int .i64 o.N] 33)).alloc (.cells #[.slice (some ⟨ab, af, none⟩) (o.nA + 64) cA, .slice (some ⟨bb, bf, none⟩) (o.nB + 64) cB, .slice (some ⟨db, df, none⟩) (o.nD + 64) cD, .slice (some ⟨xb, xf, none⟩) (o.nX + 64) cX, .slice (some ⟨tb, tf, none⟩) (o.nT + 64) cT, .slice vO o.nV cV] 41)).cell? ⟨w.heap.size, 6, none⟩ = some (.slice o.xO o.nX o.cX) := by simp
  have c7 : ((w.alloc (.cells #[.int .i64 o.kind, .int .i64 o.R, .int .i64 o.C, .slice o.dO o.nD o.cD, .slice o.aO o.nA o.cA, .slice o.bO o.nB o.cB, .slice o.xO o.nX o.cX, .slice o.vO o.nV o.cV, .slice o.tO o.nT o.cT, .int .i64 o.N] 33)).alloc (.cells #[.slice (some ⟨ab, af, none⟩) (o.nA + 64) cA, .slice (some ⟨bb, bf, none⟩) (o.nB + 64) cB, .slice (some ⟨db, df, none⟩) (o.nD + 64) cD, .slice (some ⟨xb, xf, none⟩) (o.nX + 64) cX, .slice (some ⟨tb, tf, none⟩) (o.nT + 64) cT, .slice vO o.nV cV] 41)).cell? ⟨w.heap.size, 7, none⟩ = some (.slice o.vO o.nV o.cV) := by simp
  have c8 : ((w.alloc (.cells #[.int .i64 o.kind, .int .i64 o.R, .int .i64 o.C, .slice o.dO o.nD o.cD, .slice o.aO o.nA o.cA, .slice o.bO o.nB o.cB, .slice o.xO o.nX o.cX, .slice o.vO o.nV o.cV, .slice o.tO o.nT o.cT, .int .i64 o.N] 33)).alloc (.cells #[.slice (some ⟨ab, af, none⟩) (o.nA + 64) cA, .slice (some ⟨bb, bf, none⟩) (o.nB + 64) cB, .slice (some ⟨db, df, none⟩) (o.nD + 64) cD, .slice (some ⟨xb, xf, none⟩) (o.nX + 64) cX, .slice (some ⟨tb, tf, none⟩) (o.nT + 64) cT, .slice vO o.nV cV] 41)).cell? ⟨w.heap.size, 8, none⟩ = some (.slice o.tO o.nT o.cT) := by simp
  have c9 : ((w.alloc (.cells #[.int .i64 o.kind, .int .i64 o.R, .int .i64 o.C, .slice o.dO o.nD o.cD, .slice o.aO o.nA o.cA, .slice o.bO o.nB o.cB, .slice o.xO o.nX o.cX, .slice o.vO o.nV o.cV, .slice o.tO o.nT o.cT, .int .i64 o.N] 33)).alloc (.cells #[.slice (some ⟨ab, af, none⟩) (o.nA + 64) cA, .slice (some ⟨bb, bf, none⟩) (o.nB + 64) cB, .slice (some ⟨db, df, none⟩) (o.nD + 64) cD, .slice (some ⟨xb, xf, none⟩) (o.nX + 64) cX, .slice (some ⟨tb, tf, none⟩) (o.nT + 64) cT, .slice vO o.nV cV] 41)).cell? ⟨w.heap.size, 9, none⟩ = some (.int .i64 o.N) := by simp
  have d0 : ((w.alloc (.cells #[.int .i64 o.kind, .int .i64 o.R, .int .i64 o.C, .slice o.dO o.nD o.cD, .slice o.aO o.nA o.cA, .slice o.bO o.nB o.cB, .slice o.xO o.nX o.cX, .slice o.vO o.nV o.cV, .slice o.tO o.nT o.cT, .int .i64 o.N] 33)).alloc (.cells #[.slice (some ⟨ab, af, none⟩) (o.nA + 64) cA, .slice (some ⟨bb, bf, none⟩) (o.nB + 64) cB, .slice (some ⟨db, df, none⟩) (o.nD + 64) cD, .slice (some ⟨xb, xf, none⟩) (o.nX + 64) cX, .slice (some ⟨tb, tf, none⟩) (o.nT + 64) cT, .slice vO o.nV cV] 41)).cell? ⟨w.heap.size + 1, 0, none⟩ = some (.slice (some ⟨ab, af, none⟩) (o.nA + 64) cA) := by simp
  have d1 : ((w.alloc (.cells #[.int .i64 o.kind, .int .i64 o.R, .int .i64 o.C, .slice o.dO o.nD o.cD, .slice o.aO o.nA o.cA, .slice o.bO o.nB o.cB, .slice o.xO o.nX o.cX, .slice o.vO o.nV o.cV, .slice o.tO o.nT o.cT, .int .i64 o.N] 33)).alloc (.cells #[.slice (some ⟨ab, af, none⟩) (o.nA + 64) cA, .slice (some ⟨bb, bf, none⟩) (o.nB + 64) cB, .slice (some ⟨db, df, none⟩) (o.nD + 64) cD, .slice (some ⟨xb, xf, none⟩) (o.nX + 64) cX, .slice (some ⟨tb, tf, none⟩) (o.nT + 64) cT, .slice vO o.nV cV] 41)).cell? ⟨w.heap.size + 1, 1, none⟩ = some (.slice (some ⟨bb, bf, none⟩) (o.nB + 64) cB) := by simp
  have d2 : ((w.alloc (.cells #[.int .i64 o.kind, .int .i64 o.R, .int .i64 o.C, .slice o.dO o.nD o.cD, .slice o.aO o.nA o.cA, .slice o.bO o.nB o.cB, .slice o.xO o.nX o.cX, .slice o.vO o.nV o.cV, .slice o.tO o.nT o.cT, .int .i64 o.N] 33)).alloc (.cells #[.slice (some ⟨ab, af, none⟩) (o.nA + 64) cA, .slice (some ⟨bb, bf, none⟩) (o.nB + 64) cB, .slice (some ⟨db, df, none⟩) (o.nD + 64) cD, .slice (some ⟨xb, xf, none⟩) (o.nX + 64) cX, .slice (some ⟨tb, tf, none⟩) (o.nT + 64) cT, .slice vO o.nV cV] 41)).cell? ⟨w.heap.size + 1, 2, none⟩ = some (.slice (some ⟨db, df, none⟩) (o.nD + 64) cD) := by simp
  have d3 : ((w.alloc (.cells #[.int .i64 o.kind, .int .i64 o.R, .int .i64 o.C, .slice o.dO o.nD o.cD, .slice o.aO o.nA o.cA, .slice o.bO o.nB o.cB, .slice o.xO o.nX o.cX, .slice o.vO o.nV o.cV, .slice o.tO o.nT o.cT, .int .i64 o.N] 33)).alloc (.cells #[.slice (some ⟨ab, af, none⟩) (o.nA + 64) cA, .slice (some ⟨bb, bf, none⟩) (o.nB + 64) cB, .slice (some ⟨db, df, none⟩) (o.nD + 64) cD, .slice (some ⟨xb, xf, none⟩) (o.nX + 64) cX, .slice (some ⟨tb, tf, none⟩) (o.nT + 64) cT, .slice vO o.nV cV] 41)).cell? ⟨w.heap.size + 1, 3, none⟩ = some (.slice (some ⟨xb, xf, none⟩) (o.nX + 64) cX) := by simp
  have d4 : ((w.alloc (.cells #[.int .i64 o.kind, .int .i64 o.R, .int .i64 o.C, .slice o.dO o.nD o.cD, .slice o.aO o.nA o.cA, .slice o.bO o.nB o.cB, .slice o.xO o.nX o.cX, .slice o.vO o.nV o.cV, .slice o.tO o.nT o.cT, .int .i64 o.N] 33)).alloc (.cells #[.slice (some ⟨ab, af, none⟩) (o.nA + 64) cA, .slice (some ⟨bb, bf, none⟩) (o.nB + 64) cB, .slice (some ⟨db, df, none⟩) (o.nD + 64) cD, .slice (some ⟨xb, xf, none⟩) (o.nX + 64) cX, .slice (some ⟨tb, tf, none⟩) (o.nT + 64) cT, .slice vO o.nV cV] 41)).cell? ⟨w.heap.size + 1, 4, none⟩ = some (.slice (some ⟨tb, tf, none⟩) (o.nT + 64) cT) := by simp
  have d5 : ((w.alloc (.cells #[.int .i64 o.kind, .int .i64 o.R, .int .i64 o.C, .slice o.dO o.nD o.cD, .slice o.aO o.nA o.cA, .slice o.bO o.nB o.cB, .slice o.xO o.nX o.cX, .slice o.vO o.nV o.cV, .slice o.tO o.nT o.cT, .int .i64 o.N] 33)).alloc (.cells #[.slice (some ⟨ab, af, none⟩) (o.nA + 64) cA, .slice (some ⟨bb, bf, none⟩) (o.nB + 64) cB, .slice (some ⟨db, df, none⟩) (o.nD + 64) cD, .slice (some ⟨xb, xf, none⟩) (o.nX + 64) cX, .slice (some ⟨tb, tf, none⟩) (o.nT + 64) cT, .slice vO o.nV cV] 41)).cell? ⟨w.heap.size + 1, 5, none⟩ = some (.slice vO o.nV cV) := by simp
  generalize ((w.alloc (.cells #[.int .i64 o.kind, .int .i64 o.R, .int .i64 o.C, .slice o.dO o.nD o.cD, .slice o.aO o.nA o.cA, .slice o.bO o.nB o.cB, .slice o.xO o.nX o.cX, .slice o.vO o.nV o.cV, .slice o.tO o.nT o.cT, .int .i64 o.N] 33)).alloc (.cells #[.slice (some ⟨ab, af, none⟩) (o.nA + 64) cA, .slice (some ⟨bb, bf, none⟩) (o.nB + 64) cB, .slice (some ⟨db, df, none⟩) (o.nD + 64) cD, .slice (some ⟨xb, xf, none⟩) (o.nX + 64) cX, .slice (some ⟨tb, tf, none⟩) (o.nT + 64) cT, .slice vO o.nV cV] 41)) = w1 at *
  go_region_held3 (fun w' => w'.cell? ⟨w.heap.size, 1, none⟩ = some (.int .i64 o.R) ∧ w'.cell? ⟨w.heap.size, 2, none⟩ = some (.int .i64 o.C) ∧ w'.cell? ⟨w.heap.size, 3, none⟩ = some (.slice o.dO o.nD o.cD) ∧ w'.cell? ⟨w.heap.size + 1, 2, none⟩ = some (.slice (some ⟨db, df, none⟩) (o.nD + 64) cD)) (go_keep) (fail)
  rename_i hHeld
  clear hHeld
  have m0 : (w1.alloc (.cells #[.int .i64 o.R, .int .i64 o.C, .slice (some ⟨db, df, none⟩) o.nD cD] 28)).drew.cell? ⟨w1.heap.size, 0, none⟩ = some (.int .i64 o.R) := by simp
  have m1 : (w1.alloc (.cells #[.int .i64 o.R, .int .i64 o.C, .slice (some ⟨db, df, none⟩) o.nD cD] 28)).drew.cell? ⟨w1.heap.size, 1, none⟩ = some (.int .i64 o.C) := by simp
  have m2 : (w1.alloc (.cells #[.int .i64 o.R, .int .i64 o.C, .slice (some ⟨db, df, none⟩) o.nD cD] 28)).drew.cell? ⟨w1.heap.size, 2, none⟩ = some (.slice (some ⟨db, df, none⟩) o.nD cD) := by simp
  have hf1 := (fresh_alloc w1 (.cells #[.int .i64 o.R, .int .i64 o.C, .slice (some ⟨db, df, none⟩) o.nD cD] 28)).drew
  replace c0 := fresh_cell hf1 c0
  replace c1 := fresh_cell hf1 c1
  replace c2 := fresh_cell hf1 c2
  replace c3 := fresh_cell hf1 c3
  replace c4 := fresh_cell hf1 c4
  replace c5 := fresh_cell hf1 c5
  replace c6 := fresh_cell hf1 c6
  replace c7 := fresh_cell hf1 c7
  replace c8 := fresh_cell hf1 c8
  replace c9 := fresh_cell hf1 c9
  replace d0 := fresh_cell hf1 d0
  replace d1 := fresh_cell hf1 d1
  replace d2 := fresh_cell hf1 d2
  replace d3 := fresh_cell hf1 d3
  replace d4 := fresh_cell hf1 d4
  replace d5 := fresh_cell hf1 d5
  have hF := fresh_trans hf0 hf1
  clear hf0 hf1
  generalize (w1.alloc (.cells #[.int .i64 o.R, .int .i64 o.C, .slice (some ⟨db, df, none⟩) o.nD cD] 28)).drew = w2 at *
  have HI2 := hidd (HI.out.fresh hF)
  have HR2 := hidd (HR.out.fresh hF)
  have hC : Below w2.heap.size w2 w2 := Below.refl _ _
  have C0 := hidd c0
  have C1 := hidd c1
  have C2 := hidd c2
  have C3 := hidd c3
  have C4 := hidd c4
  have C5 := hidd c5
  have C6 := hidd c6
  have C7 := hidd c7
  have C8 := hidd c8
  have C9 := hidd c9
  have D0 := hidd d0
  have D1 := hidd d1
  have D2 := hidd d2
  have D3 := hidd d3
  have D4 := hidd d4
  have D5 := hidd d5
  have M0 := hidd m0
  have M1 := hidd m1
  have M2 := hidd m2
  go_wp2_with fail
  refine (HP.out _ _ _ _ _ (short_mkd (HI2.out.a.fresh hC)) (short_mkd (HI2.out.b.fresh hC))).mono ?_
  rintro e w3 ⟨rfl, hn0⟩
  replace hC := fresh_trans hC hn0
  clear c0 c1 c2 c3 c4 c5 c6 c7 c8 c9 d0 d1 d2 d3 d4 d5
  have c0 := fresh_cell hC C0.out
  have c1 := fresh_cell hC C1.out
  have c2 := fresh_cell hC C2.out
  have c3 := fresh_cell hC C3.out
  have c4 := fresh_cell hC C4.out
  have c5 := fresh_cell hC C5.out
  have c6 := fresh_cell hC C6.out
  have c7 := fresh_cell hC C7.out
  have c8 := fresh_cell hC C8.out
  have c9 := fresh_cell hC C9.out
  have d0 := fresh_cell hC D0.out
  have d1 := fresh_cell hC D1.out
  have d2 := fresh_cell hC D2.out
  have d3 := fresh_cell hC D3.out
  have d4 := fresh_cell hC D4.out
  have d5 := fresh_cell hC D5.out
  go_wp2_with fail
  refine (HQ.out _ _ _ _ _ (HR2.out.a.fresh hC) (HR2.out.b.fresh hC)).mono ?_
  rintro e w4 ⟨rfl, hn⟩
  replace hC := fresh_trans hC hn
  clear c0 c1 c2 c3 c4 c5 c6 c7 c8 c9 d0 d1 d2 d3 d4 d5
  go_wp2_with fail
  refine (eqWide_same (f := fun _ => 0) (g := fun _ => 0) (rdn _ _) (rdn _ _) (fun _ _ => rfl)).mono ?_
  rintro e wn ⟨rfl, hn⟩
  replace hC := fresh_trans hC hn
  clear hn
  go_wp2_with fail
  refine (eqNarrow_same (f := fun _ => 0) (g := fun _ => 0) (rdn _ _) (rdn _ _) (fun _ _ => rfl)).mono ?_
  rintro e wn ⟨rfl, hn⟩
  replace hC := fresh_trans hC hn
  clear hn
  go_wp2
  go_ret
  exact ⟨ret_bool (by simp), fresh_trans hF hC⟩
set_option maxRecDepth 20000 in
set_option maxHeartbeats 4000000 in
theorem plain_other {w : World} {o : OpD} {ab af bb bf db df xb xf tb tf cA cB cD cX cT cV : Nat} {vO : Option Addr} {Va : Nat → Option Addr} {Vk : Nat → Nat} (hI : InR w ⟨some ⟨ab, af, none⟩, cA, some ⟨bb, bf, none⟩, cB, some ⟨db, df, none⟩, cD, some ⟨xb, xf, none⟩, cX, some ⟨tb, tf, none⟩, cT, vO, cV, Va, Vk⟩ o) (hR : OpR w o) (hk : ∀ m : Int, 1 ≤ m → m ≤ 5 → o.kind ≠ m) :
    Calls Tryd.prog 16 #[.agg #[.int .i64 o.kind, .int .i64 o.R, .int .i64 o.C, .slice o.dO o.nD o.cD, .slice o.aO o.nA o.cA, .slice o.bO o.nB o.cB, .slice o.xO o.nX o.cX, .slice o.vO o.nV o.cV, .slice o.tO o.nT o.cT, .int .i64 o.N], .agg #[.slice (some ⟨ab, af, none⟩) (o.nA + 64) cA, .slice (some ⟨bb, bf, none⟩) (o.nB + 64) cB, .slice (some ⟨db, df, none⟩) (o.nD + 64) cD, .slice (some ⟨xb, xf, none⟩) (o.nX + 64) cX, .slice (some ⟨tb, tf, none⟩) (o.nT + 64) cT, .slice vO o.nV cV]] w fun e w' => e = .returned (.bool true) ∧ Below w.heap.size w w' := by
  have HI := hidd hI
  have HR := hidd hR
  have lA : o.nA + 64 ≤ cA := hI.a.le
  have jA : (0 : Int) ≤ (o.nA : Int) := Int.natCast_nonneg _
  have iA : (o.nA : Int) ≤ (cA : Int) := by omega
  have lB : o.nB + 64 ≤ cB := hI.b.le
  have jB : (0 : Int) ≤ (o.nB : Int) := Int.natCast_nonneg _
  have iB : (o.nB : Int) ≤ (cB : Int) := by omega
  have lD : o.nD + 64 ≤ cD := hI.d.le
  have jD : (0 : Int) ≤ (o.nD : Int) := Int.natCast_nonneg _
  have iD : (o.nD : Int) ≤ (cD : Int) := by omega
  have lX : o.nX + 64 ≤ cX := hI.x.le
  have jX : (0 : Int) ≤ (o.nX : Int) := Int.natCast_nonneg _
  have iX : (o.nX : Int) ≤ (cX : Int) := by omega
  have lT : o.nT + 64 ≤ cT := hI.t.le
  have jT : (0 : Int) ≤ (o.nT : Int) := Int.natCast_nonneg _
  have iT : (o.nT : Int) ≤ (cT : Int) := by omega
  have e1 : (o.kind == 1) = false := by simp [hk 1 (by decide) (by decide)]
  have e2 : (o.kind == 2) = false := by simp [hk 2 (by decide) (by decide)]
  have e3 : (o.kind == 3) = false := by simp [hk 3 (by decide) (by decide)]
  have e4 : (o.kind == 4) = false := by simp [hk 4 (by decide) (by decide)]
  have e5 : (o.kind == 5) = false := by simp [hk 5 (by decide) (by decide)]
  clear hI hR hk
  go_enter Tryd.func16, Tryd.ntmps16
  go_wp2_with fail
  have hf0 := fresh_trans (fresh_alloc w (.cells #[.int .i64 o.kind, .int .i64 o.R, .int .i64 o.C, .slice o.dO o.nD o.cD, .slice o.aO o.nA o.cA, .slice o.bO o.nB o.cB, .slice o.xO o.nX o.cX, .slice o.vO o.nV o.cV, .slice o.tO o.nT o.cT, .int .i64 o.N] 33)) (fresh_alloc _ (.cells #[.slice (some ⟨ab, af, none⟩) (o.nA + 64) cA, .slice (some ⟨bb, bf, none⟩) (o.nB + 64) cB, .slice (some ⟨db, df, none⟩) (o.nD + 64) cD, .slice (some ⟨xb, xf, none⟩) (o.nX + 64) cX, .slice (some ⟨tb, tf, none⟩) (o.nT + 64) cT, .slice vO o.nV cV] 41))
  have c0 : ((w.alloc (.cells #[.int .i64 o.kind, .int .i64 o.R, .int .i64 o.C, .slice o.dO o.nD o.cD, .slice o.aO o.nA o.cA, .slice o.bO o.nB o.cB, .slice o.xO o.nX o.cX, .slice o.vO o.nV o.cV, .slice o.tO o.nT o.cT, .int .i64 o.N] 33)).alloc (.cells #[.slice (some ⟨ab, af, none⟩) (o.nA + 64) cA, .slice (some ⟨bb, bf, none⟩) (o.nB + 64) cB, .slice (some ⟨db, df, none⟩) (o.nD + 64) cD, .slice (some ⟨xb, xf, none⟩) (o.nX + 64) cX, .slice (some ⟨tb, tf, none⟩) (o.nT + 64) cT, .slice vO o.nV cV] 41)).cell? ⟨w.heap.size, 0, none⟩ = some (.int .i64 o.kind) := by simp
  have c1 : ((w.alloc (.cells #[.int .i64 o.kind, .int .i64 o.R, .int .i64 o.C, .slice o.dO o.nD o.cD, .slice o.aO o.nA o.cA, .slice o.bO o.nB o.cB, .slice o.xO o.nX o.cX, .slice o.vO o.nV o.cV, .slice o.tO o.nT o.cT, .int .i64 o.N] 33)).alloc (.cells #[.slice (some ⟨ab, af, none⟩) (o.nA + 64) cA, .slice (some ⟨bb, bf, none⟩) (o.nB + 64) cB, .slice (some ⟨db, df, none⟩) (o.nD + 64) cD, .slice (some ⟨xb, xf, none⟩) (o.nX + 64) cX, .slice (some ⟨tb, tf, none⟩) (o.nT + 64) cT, .slice vO o.nV cV] 41)).cell? ⟨w.heap.size, 1, none⟩ = some (.int .i64 o.R) := by simp
  have c2 : ((w.alloc (.cells #[.int .i64 o.kind, .int .i64 o.R, .int .i64 o.C, .slice o.dO o.nD o.cD, .slice o.aO o.nA o.cA, .slice o.bO o.nB o.cB, .slice o.xO o.nX o.cX, .slice o.vO o.nV o.cV, .slice o.tO o.nT o.cT, .int .i64 o.N] 33)).alloc (.cells #[.slice (some ⟨ab, af, none⟩) (o.nA + 64) cA, .slice (some ⟨bb, bf, none⟩) (o.nB + 64) cB, .slice (some ⟨db, df, none⟩) (o.nD + 64) cD, .slice (some ⟨xb, xf, none⟩) (o.nX + 64) cX, .slice (some ⟨tb, tf, none⟩) (o.nT + 64) cT, .slice vO o.nV cV] 41)).cell? ⟨w.heap.size, 2, none⟩ = some (.int .i64 o.C) := by simp
  have c3 : ((w.alloc (.cells #[.int .i64 o.kind, .int .i64 o.R, .int .i64 o.C, .slice o.dO o.nD o.cD, .slice o.aO o.nA o.cA, .slice o.bO o.nB o.cB, .slice o.xO o.nX o.cX, .slice o.vO o.nV o.cV, .slice o.tO o.nT o.cT, .int .i64 o.N] 33)).alloc (.cells #[.slice (some ⟨ab, af, none⟩) (o.nA + 64) cA, .slice (some ⟨bb, bf, none⟩) (o.nB + 64) cB, .slice (some ⟨db, df, none⟩) (o.nD + 64) cD, .slice (some ⟨xb, xf, none⟩) (o.nX + 64) cX, .slice (some ⟨tb, tf, none⟩) (o.nT + 64) cT, .slice vO o.nV cV] 41)).cell? ⟨w.heap.size, 3, none⟩ = some (.slice o.dO o.nD o.cD) := by simp
  have c4 : ((w.alloc (.cells #[.int .i64 o.kind, .int .i64 o.R, .int .i64 o.C, .slice o.dO o.nD o.cD, .slice o.aO o.nA o.cA, .slice o.bO o.nB o.cB, .slice o.xO o.nX o.cX, .slice o.vO o.nV o.cV, .slice o.tO o.nT o.cT, .int .i64 o.N] 33)).alloc (.cells #[.slice (some ⟨ab, af, none⟩) (o.nA + 64) cA, .slice (some ⟨bb, bf, none⟩) (o.nB + 64) cB, .slice (some ⟨db, df, none⟩) (o.nD + 64) cD, .slice (some ⟨xb, xf, none⟩) (o.nX + 64) cX, .slice (some ⟨tb, tf, none⟩) (o.nT + 64) cT, .slice vO o.nV cV] 41)).cell? ⟨w.heap.size, 4, none⟩ = some (.slice o.aO o.nA o.cA) := by simp
  have c5 : ((w.alloc (.cells #[.int .i64 o.kind, .int .i64 o.R, .int .i64 o.C, .slice o.dO o.nD o.cD, .slice o.aO o.nA o.cA, .slice o.bO o.nB o.cB, .slice o.xO o.nX o.cX, .slice o.vO o.nV o.cV, .slice o.tO o.nT o.cT, .int .i64 o.N] 33)).alloc (.cells #[.slice (some ⟨ab, af, none⟩) (o.nA + 64) cA, .slice (some ⟨bb, bf, none⟩) (o.nB + 64) cB, .slice (some ⟨db, df, none⟩) (o.nD + 64) cD, .slice (some ⟨xb, xf, none⟩) (o.nX + 64) cX, .slice (some ⟨tb, tf, none⟩) (o.nT + 64) cT, .slice vO o.nV cV] 41)).cell? ⟨w.heap.size, 5, none⟩ = some (.slice o.bO o.nB o.cB) := by simp
  have c6 : ((w.alloc (.cells #[.int .i64 o.kind, .int .i64 o.R, .int .i64 o.C, .slice o.dO o.nD o.cD, .slice o.aO o.nA o.cA, .slice o.bO o.nB o.cB, .slice o.xO o.nX o.cX, .slice o.vO o.nV o.cV, .slice o.tO o.nT o.cT, .int .i64 o.N] 33)).alloc (.cells #[.slice (some ⟨ab, af, none⟩) (o.nA + 64) cA, .slice (some ⟨bb, bf, none⟩) (o.nB + 64) cB, .slice (some ⟨db, df, none⟩) (o.nD + 64) cD, .slice (some ⟨xb, xf, none⟩) (o.nX + 64) cX, .slice (some ⟨tb, tf, none⟩) (o.nT + 64) cT, .slice vO o.nV cV] 41)).cell? ⟨w.heap.size, 6, none⟩ = some (.slice o.xO o.nX o.cX) := by simp
  have c7 : ((w.alloc (.cells #[.int .i64 o.kind, .int .i64 o.R, .int .i64 o.C, .slice o.dO o.nD o.cD, .slice o.aO o.nA o.cA, .slice o.bO o.nB o.cB, .slice o.xO o.nX o.cX, .slice o.vO o.nV o.cV, .slice o.tO o.nT o.cT, .int .i64 o.N] 33)).alloc (.cells #[.slice (some ⟨ab, af, none⟩) (o.nA + 64) cA, .slice (some ⟨bb, bf, none⟩) (o.nB + 64) cB, .slice (some ⟨db, df, none⟩) (o.nD + 64) cD, .slice (some ⟨xb, xf, none⟩) (o.nX + 64) cX, .slice (some ⟨tb, tf, none⟩) (o.nT + 64) cT, .slice vO o.nV cV] 41)).cell? ⟨w.heap.size, 7, none⟩ = some (.slice o.vO o.nV o.cV) := by simp
  have c8 : ((w.alloc (.cells #[.int .i64 o.kind, .int .i64 o.R, .int .i64 o.C, .slice o.dO o.nD o.cD, .slice o.aO o.nA o.cA, .slice o.bO o.nB o.cB, .slice o.xO o.nX o.cX, .slice o.vO o.nV o.cV, .slice o.tO o.nT o.cT, .int .i64 o.N] 33)).alloc (.cells #[.slice (some ⟨ab, af, none⟩) (o.nA + 64) cA, .slice (some ⟨bb, bf, none⟩) (o.nB + 64) cB, .slice (some ⟨db, df, none⟩) (o.nD + 64) cD, .slice (some ⟨xb, xf, none⟩) (o.nX + 64) cX, .slice (some ⟨tb, tf, none⟩) (o.nT + 64) cT, .slice vO o.nV cV] 41)).cell? ⟨w.heap.size, 8, none⟩ = some (.slice o.tO o.nT o.cT) := by simp
  have c9 : ((w.alloc (.cells #[.int .i64 o.kind, .int .i64 o.R, .int .i64 o.C, .slice o.dO o.nD o.cD, .slice o.aO o.nA o.cA, .slice o.bO o.nB o.cB, .slice o.xO o.nX o.cX, .slice o.vO o.nV o.cV, .slice o.tO o.nT o.cT, .int .i64 o.N] 33)).alloc (.cells #[.slice (some ⟨ab, af, none⟩) (o.nA + 64) cA, .slice (some ⟨bb, bf, none⟩) (o.nB + 64) cB, .slice (some ⟨db, df, none⟩) (o.nD + 64) cD, .slice (some ⟨xb, xf, none⟩) (o.nX + 64) cX, .slice (some ⟨tb, tf, none⟩) (o.nT + 64) cT, .slice vO o.nV cV] 41)).cell? ⟨w.heap.size, 9, none⟩ = some (.int .i64 o.N) := by simp
  have d0 : ((w.alloc (.cells #[.int .i64 o.kind, .int .i64 o.R, .int .i64 o.C, .slice o.dO o.nD o.cD, .slice o.aO o.nA o.cA, .slice o.bO o.nB o.cB, .slice o.xO o.nX o.cX, .slice o.vO o.nV o.cV, .slice o.tO o.nT o.cT, .int .i64 o.N] 33)).alloc (.cells #[.slice (some ⟨ab, af, none⟩) (o.nA + 64) cA, .slice (some ⟨bb, bf, none⟩) (o.nB + 64) cB, .slice (some ⟨db, df, none⟩) (o.nD + 64) cD, .slice (some ⟨xb, xf, none⟩) (o.nX + 64) cX, .slice (some ⟨tb, tf, none⟩) (o.nT + 64) cT, .slice vO o.nV cV] 41)).cell? ⟨w.heap.size + 1, 0, none⟩ = some (.slice (some ⟨ab, af, none⟩) (o.nA + 64) cA) := by simp
  have d1 : ((w.alloc (.cells #[.int .i64 o.kind, .int .i64 o.R, .int .i64 o.C, .slice o.dO o.nD o.cD, .slice o.aO o.nA o.cA, .slice o.bO o.nB o.cB, .slice o.xO o.nX o.cX, .slice o.vO o.nV o.cV, .slice o.tO o.nT o.cT, .int .i64 o.N] 33)).alloc (.cells #[.slice (some ⟨ab, af, none⟩) (o.nA + 64) cA, .slice (some ⟨bb, bf, none⟩) (o.nB + 64) cB, .slice (some ⟨db, df, none⟩) (o.nD + 64) cD, .slice (some ⟨xb, xf, none⟩) (o.nX + 64) cX, .slice (some ⟨tb, tf, none⟩) (o.nT + 64) cT, .slice vO o.nV cV] 41)).cell? ⟨w.heap.size + 1, 1, none⟩ = some (.slice (some ⟨bb, bf, none⟩) (o.nB + 64) cB) := by simp
  have d2 : ((w.alloc (.cells #[.int .i64 o.kind, .int .i64 o.R, .int .i64 o.C, .slice o.dO o.nD o.cD, .slice o.aO o.nA o.cA, .slice o.bO o.nB o.cB, .slice o.xO o.nX o.cX, .slice o.vO o.nV o.cV, .slice o.tO o.nT o.cT, .int .i64 o.N] 33)).alloc (.cells #[.slice (some ⟨ab, af, none⟩) (o.nA + 64) cA, .slice (some ⟨bb, bf, none⟩) (o.nB + 64) cB, .slice (some ⟨db, df, none⟩) (o.nD + 64) cD, .slice (some ⟨xb, xf, none⟩) (o.nX + 64) cX, .slice (some ⟨tb, tf, none⟩) (o.nT + 64) cT, .slice vO o.nV cV] 41)).cell? ⟨w.heap.size + 1, 2, none⟩ = some (.slice (some ⟨db, df, none⟩) (o.nD + 64) cD) := by simp
  have d3 : ((w.alloc (.cells #[.int .i64 o.kind, .int .i64 o.R, .int .i64 o.C, .slice o.dO o.nD o.cD, .slice o.aO o.nA o.cA, .slice o.bO o.nB o.cB, .slice o.xO o.nX o.cX, .slice o.vO o.nV o.cV, .slice o.tO o.nT o.cT, .int .i64 o.N] 33)).alloc (.cells #[.slice (some ⟨ab, af, none⟩) (o.nA + 64) cA, .slice (some ⟨bb, bf, none⟩) (o.nB + 64) cB, .slice (some ⟨db, df, none⟩) (o.nD + 64) cD, .slice (some ⟨xb, xf, none⟩) (o.nX + 64) cX, .slice (some ⟨tb, tf, none⟩) (o.nT + 64) cT, .slice vO o.nV cV] 41)).cell? ⟨w.heap.size + 1, 3, none⟩ = some (.slice (some ⟨xb, xf, none⟩) (o.nX + 64) cX) := by simp
  have d4 : ((w.alloc (.cells #[.int .i64 o.kind, .int .i64 o.R, .int .i64 o.C, .slice o.dO o.nD o.cD, .slice o.aO o.nA o.cA, .slice o.bO o.nB o.cB, .slice o.xO o.nX o.cX, .slice o.vO o.nV o.cV, .slice o.tO o.nT o.cT, .int .i64 o.N] 33)).alloc (.cells #[.slice (some ⟨ab, af, none⟩) (o.nA + 64) cA, .slice (some ⟨bb, bf, none⟩) (o.nB + 64) cB, .slice (some ⟨db, df, none⟩) (o.nD + 64) cD, .slice (some ⟨xb, xf, none⟩) (o.nX + 64) cX, .slice (some ⟨tb, tf, none⟩) (o.nT + 64) cT, .slice vO o.nV cV] 41)).cell? ⟨w.heap.size + 1, 4, none⟩ = some (.slice (some ⟨tb, tf, none⟩) (o.nT + 64) cT) := by simp
  have d5 : ((w.alloc (.cells #[.int .i64 o.kind, .int .i64 o.R, .int .i64 o.C, .slice o.dO o.nD o.cD, .slice o.aO o.nA o.cA, .slice o.bO o.nB o.cB, .slice o.xO o.nX o.cX, .slice o.vO o.nV o.cV, .slice o.tO o.nT o.cT, .int .i64 o.N] 33)).alloc (.cells #[.slice (some ⟨ab, af, none⟩) (o.nA + 64) cA, .slice (some ⟨bb, bf, none⟩) (o.nB + 64) cB, .slice (some ⟨db, df, none⟩) (o.nD + 64) cD, .slice (some ⟨xb, xf, none⟩) (o.nX + 64) cX, .slice (some ⟨tb, tf, none⟩) (o.nT + 64) cT, .slice vO o.nV cV] 41)).cell? ⟨w.heap.size + 1, 5, none⟩ = some (.slice vO o.nV cV) := by simp
  generalize ((w.alloc (.cells #[.int .i64 o.kind, .int .i64 o.R, .int .i64 o.C, .slice o.dO o.nD o.cD, .slice o.aO o.nA o.cA, .slice o.bO o.nB o.cB, .slice o.xO o.nX o.cX, .slice o.vO o.nV o.cV, .slice o.tO o.nT o.cT, .int .i64 o.N] 33)).alloc (.cells #[.slice (some ⟨ab, af, none⟩) (o.nA + 64) cA, .slice (some ⟨bb, bf, none⟩) (o.nB + 64) cB, .slice (some ⟨db, df, none⟩) (o.nD + 64) cD, .slice (some ⟨xb, xf, none⟩) (o.nX + 64) cX, .slice (some ⟨tb, tf, none⟩) (o.nT + 64) cT, .slice vO o.nV cV] 41)) = w1 at *
  go_region_held3 (fun w' => w'.cell? ⟨w.heap.size, 1, none⟩ = some (.int .i64 o.R) ∧ w'.cell? ⟨w.heap.size, 2, none⟩ = some (.int .i64 o.C) ∧ w'.cell? ⟨w.heap.size, 3, none⟩ = some (.slice o.dO o.nD o.cD) ∧ w'.cell? ⟨w.heap.size + 1, 2, none⟩ = some (.slice (some ⟨db, df, none⟩) (o.nD + 64) cD)) (go_keep) (fail)
  rename_i hHeld
  clear hHeld
  have m0 : (w1.alloc (.cells #[.int .i64 o.R, .int .i64 o.C, .slice (some ⟨db, df, none⟩) o.nD cD] 28)).drew.cell? ⟨w1.heap.size, 0, none⟩ = some (.int .i64 o.R) := by simp
  have m1 : (w1.alloc (.cells #[.int .i64 o.R, .int .i64 o.C, .slice (some ⟨db, df, none⟩) o.nD cD] 28)).drew.cell? ⟨w1.heap.size, 1, none⟩ = some (.int .i64 o.C) := by simp
  have m2 : (w1.alloc (.cells #[.int .i64 o.R, .int .i64 o.C, .slice (some ⟨db, df, none⟩) o.nD cD] 28)).drew.cell? ⟨w1.heap.size, 2, none⟩ = some (.slice (some ⟨db, df, none⟩) o.nD cD) := by simp
  have hf1 := (fresh_alloc w1 (.cells #[.int .i64 o.R, .int .i64 o.C, .slice (some ⟨db, df, none⟩) o.nD cD] 28)).drew
  replace c0 := fresh_cell hf1 c0
  replace c1 := fresh_cell hf1 c1
  replace c2 := fresh_cell hf1 c2
  replace c3 := fresh_cell hf1 c3
  replace c4 := fresh_cell hf1 c4
  replace c5 := fresh_cell hf1 c5
  replace c6 := fresh_cell hf1 c6
  replace c7 := fresh_cell hf1 c7
  replace c8 := fresh_cell hf1 c8
  replace c9 := fresh_cell hf1 c9
  replace d0 := fresh_cell hf1 d0
  replace d1 := fresh_cell hf1 d1
  replace d2 := fresh_cell hf1 d2
  replace d3 := fresh_cell hf1 d3
  replace d4 := fresh_cell hf1 d4
  replace d5 := fresh_cell hf1 d5
  have hF := fresh_trans hf0 hf1
  clear hf0 hf1
  generalize (w1.alloc (.cells #[.int .i64 o.R, .int .i64 o.C, .slice (some ⟨db, df, none⟩) o.nD cD] 28)).drew = w2 at *
  have HI2 := hidd (HI.out.fresh hF)
  have HR2 := hidd (HR.out.fresh hF)
  have hC : Below w2.heap.size w2 w2 := Below.refl _ _
  have C0 := hidd c0
  have C1 := hidd c1
  have C2 := hidd c2
  have C3 := hidd c3
  have C4 := hidd c4
  have C5 := hidd c5
  have C6 := hidd c6
  have C7 := hidd c7
  have C8 := hidd c8
  have C9 := hidd c9
  have D0 := hidd d0
  have D1 := hidd d1
  have D2 := hidd d2
  have D3 := hidd d3
  have D4 := hidd d4
  have D5 := hidd d5
  have M0 := hidd m0
  have M1 := hidd m1
  have M2 := hidd m2
  go_wp2_with fail
  refine (eqWide_same (f := fun _ => 0) (g := fun _ => 0) (rdn _ _) (rdn _ _) (fun _ _ => rfl)).mono ?_
  rintro e wn ⟨rfl, hn⟩
  replace hC := fresh_trans hC hn
  clear hn
  go_wp2_with fail
  refine (eqNarrow_same (f := fun _ => 0) (g := fun _ => 0) (rdn _ _) (rdn _ _) (fun _ _ => rfl)).mono ?_
  rintro e wn ⟨rfl, hn⟩
  replace hC := fresh_trans hC hn
  clear hn
  go_wp2
  go_ret
  exact ⟨ret_bool (by simp), fresh_trans hF hC⟩
end Go.Proofs.YtmcefgpejocjfaaDoor
