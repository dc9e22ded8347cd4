import Derived.Test.YtmcefgpejocjfaaDoorOpd
import Derived.Test.YtmcefgpejocjfaaDoorUni
import Derived.Deep.DeepCutAuto
namespace Go.Proofs.YtmcefgpejocjfaaDoor
open Go.RowKit
/-! Do the lists and the marks behind them stand? -/
def InSpec : Prop := ∀ (w : World) (o : OpD), OpR w o → Calls Tryd.prog 8 #[.agg #[.int .i64 o.kind, .int .i64 o.R, .int .i64 o.C, .slice o.dO o.nD o.cD, .slice o.aO o.nA o.cA, .slice o.bO o.nB o.cB, .slice o.xO o.nX o.cX, .slice o.vO o.nV o.cV, .slice o.tO o.nT o.cT, .int .i64 o.N]] w fun e w' => ∃ i : InD, e = .returned (.agg #[.slice i.aO (o.nA + 64) i.cA, .slice i.bO (o.nB + 64) i.cB, .slice i.dO (o.nD + 64) i.cD, .slice i.xO (o.nX + 64) i.cX, .slice i.tO (o.nT + 64) i.cT, .slice i.vO o.nV i.cV]) ∧ InR w' i o ∧ Below w.heap.size w w'
set_option maxRecDepth 20000 in
set_option maxHeartbeats 4000000 in
theorem kept_any (hin : InSpec) {w : World} {o : OpD} {i : InD} (hI : InR w i o) (hR : OpR w o) :
    Calls Tryd.prog 11 #[.agg #[.slice i.aO (o.nA + 64) i.cA, .slice i.bO (o.nB + 64) i.cB, .slice i.dO (o.nD + 64) i.cD, .slice i.xO (o.nX + 64) i.cX, .slice i.tO (o.nT + 64) i.cT, .slice i.vO o.nV i.cV], .agg #[.int .i64 o.kind, .int .i64 o.R, .int .i64 o.C, .slice o.dO o.nD o.cD, .slice o.aO o.nA o.cA, .slice o.bO o.nB o.cB, .slice o.xO o.nX o.cX, .slice o.vO o.nV o.cV, .slice o.tO o.nT o.cT, .int .i64 o.N]] w fun e w' => e = .returned (.bool true) ∧ Below w.heap.size w w' := by
  have HI := hidd hI
  have HR := hidd hR
  clear hI hR
  go_enter Tryd.func11, Tryd.ntmps11
  go_wp2_with fail
  have hf0 := fresh_trans (fresh_alloc w (.cells #[.slice i.aO (o.nA + 64) i.cA, .slice i.bO (o.nB + 64) i.cB, .slice i.dO (o.nD + 64) i.cD, .slice i.xO (o.nX + 64) i.cX, .slice i.tO (o.nT + 64) i.cT, .slice i.vO o.nV i.cV] 41)) (fresh_alloc _ (.cells #[.int .i64 o.kind, .int .i64 o.R, .int .i64 o.C, .slice o.dO o.nD o.cD, .slice o.aO o.nA o.cA, .slice o.bO o.nB o.cB, .slice o.xO o.nX o.cX, .slice o.vO o.nV o.cV, .slice o.tO o.nT o.cT, .int .i64 o.N] 33))
  refine (hin _ o (HR.out.fresh hf0)).mono ?_
  rintro e w2 ⟨t, rfl, hT, hf2⟩
  have q0 := fresh_cell hf2 (show ((w.alloc (.cells #[.slice i.aO (o.nA + 64) i.cA, .slice i.bO (o.nB + 64) i.cB, .slice i.dO (o.nD + 64) i.cD, .slice i.xO (o.nX + 64) i.cX, .slice i.tO (o.nT + 64) i.cT, .slice i.vO o.nV i.cV] 41)).alloc (.cells #[.int .i64 o.kind, .int .i64 o.R, .int .i64 o.C, .slice o.dO o.nD o.cD, .slice o.aO o.nA o.cA, .slice o.bO o.nB o.cB, .slice o.xO o.nX o.cX, .slice o.vO o.nV o.cV, .slice o.tO o.nT o.cT, .int .i64 o.N] 33)).cell? ⟨w.heap.size, 0, none⟩ = some (.slice i.aO (o.nA + 64) i.cA) by simp)
  have q1 := fresh_cell hf2 (show ((w.alloc (.cells #[.slice i.aO (o.nA + 64) i.cA, .slice i.bO (o.nB + 64) i.cB, .slice i.dO (o.nD + 64) i.cD, .slice i.xO (o.nX + 64) i.cX, .slice i.tO (o.nT + 64) i.cT, .slice i.vO o.nV i.cV] 41)).alloc (.cells #[.int .i64 o.kind, .int .i64 o.R, .int .i64 o.C, .slice o.dO o.nD o.cD, .slice o.aO o.nA o.cA, .slice o.bO o.nB o.cB, .slice o.xO o.nX o.cX, .slice o.vO o.nV o.cV, .slice o.tO o.nT o.cT, .int .i64 o.N] 33)).cell? ⟨w.heap.size, 1, none⟩ = some (.slice i.bO (o.nB + 64) i.cB) by simp)
  have q2 := fresh_cell hf2 (show ((w.alloc (.cells #[.slice i.aO (o.nA + 64) i.cA, .slice i.bO (o.nB + 64) i.cB, .slice i.dO (o.nD + 64) i.cD, .slice i.xO (o.nX + 64) i.cX, .slice i.tO (o.nT + 64) i.cT, .slice i.vO o.nV i.cV] 41)).alloc (.cells #[.int .i64 o.kind, .int .i64 o.R, .int .i64 o.C, .slice o.dO o.nD o.cD, .slice o.aO o.nA o.cA, .slice o.bO o.nB o.cB, .slice o.xO o.nX o.cX, .slice o.vO o.nV o.cV, .slice o.tO o.nT o.cT, .int .i64 o.N] 33)).cell? ⟨w.heap.size, 2, none⟩ = some (.slice i.dO (o.nD + 64) i.cD) by simp)
  have q3 := fresh_cell hf2 (show ((w.alloc (.cells #[.slice i.aO (o.nA + 64) i.cA, .slice i.bO (o.nB + 64) i.cB, .slice i.dO (o.nD + 64) i.cD, .slice i.xO (o.nX + 64) i.cX, .slice i.tO (o.nT + 64) i.cT, .slice i.vO o.nV i.cV] 41)).alloc (.cells #[.int .i64 o.kind, .int .i64 o.R, .int .i64 o.C, .slice o.dO o.nD o.cD, .slice o.aO o.nA o.cA, .slice o.bO o.nB o.cB, .slice o.xO o.nX o.cX, .slice o.vO o.nV o.cV, .slice o.tO o.nT o.cT, .int .i64 o.N] 33)).cell? ⟨w.heap.size, 3, none⟩ = some (.slice i.xO (o.nX + 64) i.cX) by simp)
  have q4 := fresh_cell hf2 (show ((w.alloc (.cells #[.slice i.aO (o.nA + 64) i.cA, .slice i.bO (o.nB + 64) i.cB, .slice i.dO (o.nD + 64) i.cD, .slice i.xO (o.nX + 64) i.cX, .slice i.tO (o.nT + 64) i.cT, .slice i.vO o.nV i.cV] 41)).alloc (.cells #[.int .i64 o.kind, .int .i64 o.R, .int .i64 o.C, .slice o.dO o.nD o.cD, .slice o.aO o.nA o.cA, .slice o.bO o.nB o.cB, .slice o.xO o.nX o.cX, .slice o.vO o.nV o.cV, .slice o.tO o.nT o.cT, .int .i64 o.N] 33)).cell? ⟨w.heap.size, 4, none⟩ = some (.slice i.tO (o.nT + 64) i.cT) by simp)
  have q5 := fresh_cell hf2 (show ((w.alloc (.cells #[.slice i.aO (o.nA + 64) i.cA, .slice i.bO (o.nB + 64) i.cB, .slice i.dO (o.nD + 64) i.cD, .slice i.xO (o.nX + 64) i.cX, .slice i.tO (o.nT + 64) i.cT, .slice i.vO o.nV i.cV] 41)).alloc (.cells #[.int .i64 o.kind, .int .i64 o.R, .int .i64 o.C, .slice o.dO o.nD o.cD, .slice o.aO o.nA o.cA, .slice o.bO o.nB o.cB, .slice o.xO o.nX o.cX, .slice o.vO o.nV o.cV, .slice o.tO o.nT o.cT, .int .i64 o.N] 33)).cell? ⟨w.heap.size, 5, none⟩ = some (.slice i.vO o.nV i.cV) by simp)
  have hF := fresh_trans hf0 hf2
  have hI2 := hidd (HI.out.fresh hF)
  have hT2 := hidd hT
  clear hf2 hf0 hT
  have hA := fresh_alloc w2 (.cells #[.slice t.aO (o.nA + 64) t.cA, .slice t.bO (o.nB + 64) t.cB, .slice t.dO (o.nD + 64) t.cD, .slice t.xO (o.nX + 64) t.cX, .slice t.tO (o.nT + 64) t.cT, .slice t.vO o.nV t.cV] 41)
  replace q0 := fresh_cell hA q0
  replace q1 := fresh_cell hA q1
  replace q2 := fresh_cell hA q2
  replace q3 := fresh_cell hA q3
  replace q4 := fresh_cell hA q4
  replace q5 := fresh_cell hA q5
  have p0 : (w2.alloc (.cells #[.slice t.aO (o.nA + 64) t.cA, .slice t.bO (o.nB + 64) t.cB, .slice t.dO (o.nD + 64) t.cD, .slice t.xO (o.nX + 64) t.cX, .slice t.tO (o.nT + 64) t.cT, .slice t.vO o.nV t.cV] 41)).cell? ⟨w2.heap.size, 0, none⟩ = some (.slice t.aO (o.nA + 64) t.cA) := by simp
  have p1 : (w2.alloc (.cells #[.slice t.aO (o.nA + 64) t.cA, .slice t.bO (o.nB + 64) t.cB, .slice t.dO (o.nD + 64) t.cD, .slice t.xO (o.nX + 64) t.cX, .slice t.tO (o.nT + 64) t.cT, .slice t.vO o.nV t.cV] 41)).cell? ⟨w2.heap.size, 1, none⟩ = some (.slice t.bO (o.nB + 64) t.cB) := by simp
  have p2 : (w2.alloc (.cells #[.slice t.aO (o.nA + 64) t.cA, .slice t.bO (o.nB + 64) t.cB, .slice t.dO (o.nD + 64) t.cD, .slice t.xO (o.nX + 64) t.cX, .slice t.tO (o.nT + 64) t.cT, .slice t.vO o.nV t.cV] 41)).cell? ⟨w2.heap.size, 2, none⟩ = some (.slice t.dO (o.nD + 64) t.cD) := by simp
  have p3 : (w2.alloc (.cells #[.slice t.aO (o.nA + 64) t.cA, .slice t.bO (o.nB + 64) t.cB, .slice t.dO (o.nD + 64) t.cD, .slice t.xO (o.nX + 64) t.cX, .slice t.tO (o.nT + 64) t.cT, .slice t.vO o.nV t.cV] 41)).cell? ⟨w2.heap.size, 3, none⟩ = some (.slice t.xO (o.nX + 64) t.cX) := by simp
  have p4 : (w2.alloc (.cells #[.slice t.aO (o.nA + 64) t.cA, .slice t.bO (o.nB + 64) t.cB, .slice t.dO (o.nD + 64) t.cD, .slice t.xO (o.nX + 64) t.cX, .slice t.tO (o.nT + 64) t.cT, .slice t.vO o.nV t.cV] 41)).cell? ⟨w2.heap.size, 4, none⟩ = some (.slice t.tO (o.nT + 64) t.cT) := by simp
  have p5 : (w2.alloc (.cells #[.slice t.aO (o.nA + 64) t.cA, .slice t.bO (o.nB + 64) t.cB, .slice t.dO (o.nD + 64) t.cD, .slice t.xO (o.nX + 64) t.cX, .slice t.tO (o.nT + 64) t.cT, .slice t.vO o.nV t.cV] 41)).cell? ⟨w2.heap.size, 5, none⟩ = some (.slice t.vO o.nV t.cV) := by simp
  go_upto_region 2 with fail
  have HI3 := hidd (hI2.out.fresh hA)
  have HT3 := hidd (hT2.out.fresh hA)
  have hF3 := fresh_trans hF hA
  generalize w2.alloc (.cells #[.slice t.aO (o.nA + 64) t.cA, .slice t.bO (o.nB + 64) t.cB, .slice t.dO (o.nD + 64) t.cD, .slice t.xO (o.nX + 64) t.cX, .slice t.tO (o.nT + 64) t.cT, .slice t.vO o.nV t.cV] 41) = w3 at *
  have Q0 := hidd q0
  have P0 := hidd p0
  have Q1 := hidd q1
  have P1 := hidd p1
  have Q2 := hidd q2
  have P2 := hidd p2
  have Q3 := hidd q3
  have P3 := hidd p3
  have Q4 := hidd q4
  have P4 := hidd p4
  have Q5 := hidd q5
  have P5 := hidd p5
  clear hI2 hT2 hA hF HI q0 p0 q1 p1 q2 p2 q3 p3 q4 p4 q5 p5
  have hC : Below w3.heap.size w3 w3 := Below.refl _ _
  have x0 := fresh_cell hC Q0.out
  have y0 := fresh_cell hC P0.out
  go_wp2_with fail
  refine (eqNarrow_same (HI3.out.a.fresh hC) (HT3.out.a.fresh hC) (fun _ _ => rfl)).mono ?_
  rintro e wn ⟨rfl, hn⟩
  replace hC := fresh_trans hC hn
  clear hn x0 y0
  have x1 := fresh_cell hC Q1.out
  have y1 := fresh_cell hC P1.out
  go_wp2_with fail
  refine (eqNarrow_same (HI3.out.b.fresh hC) (HT3.out.b.fresh hC) (fun _ _ => rfl)).mono ?_
  rintro e wn ⟨rfl, hn⟩
  replace hC := fresh_trans hC hn
  clear hn x1 y1
  have x2 := fresh_cell hC Q2.out
  have y2 := fresh_cell hC P2.out
  go_wp2_with fail
  refine (eqNarrow_same (HI3.out.d.fresh hC) (HT3.out.d.fresh hC) (fun _ _ => rfl)).mono ?_
  rintro e wn ⟨rfl, hn⟩
  replace hC := fresh_trans hC hn
  clear hn x2 y2
  have x3 := fresh_cell hC Q3.out
  have y3 := fresh_cell hC P3.out
  go_wp2_with fail
  refine (eqWide_same (HI3.out.x.fresh hC) (HT3.out.x.fresh hC) (fun _ _ => rfl)).mono ?_
  rintro e wn ⟨rfl, hn⟩
  replace hC := fresh_trans hC hn
  clear hn x3 y3
  have x4 := fresh_cell hC Q4.out
  have y4 := fresh_cell hC P4.out
  go_wp2_with fail
  refine (eqTurns_same (HI3.out.t.fresh hC) (HT3.out.t.fresh hC) (fun _ _ => rfl) (fun _ _ => rfl)).mono ?_
  rintro e wn ⟨rfl, hn⟩
  replace hC := fresh_trans hC hn
  clear hn x4 y4
  have x5 := fresh_cell hC Q5.out
  have y5 := fresh_cell hC P5.out
  go_wp2_with fail
  refine (eqNarrows_same (HI3.out.v.fresh hC) (HT3.out.v.fresh hC) (fun _ _ _ _ => rfl)).mono ?_
  rintro e wn ⟨rfl, hn⟩
  replace hC := fresh_trans hC hn
  clear hn x5 y5
  go_wp2
  go_ret
  exact ⟨rfl, fresh_trans hF3 hC⟩
end Go.Proofs.YtmcefgpejocjfaaDoor
