import Derived.Test.YtmcefgpejocjfaaDoorIn
import Derived.Test.YtmcefgpejocjfaaDoorKpt
import Derived.Test.YtmcefgpejocjfaaDoorPln
import Derived.Test.YtmcefgpejocjfaaDoorMix3
import Derived.Test.YtmcefgpejocjfaaDoorMatRefs
namespace Go.Proofs.YtmcefgpejocjfaaDoor
open Go.RowKit
/-! One operation, and a list of them. -/
theorem plain_any {w : World} {o : OpD} {i : InD} (hI : InR w i o) (hR : OpR w o) :
    Calls Tryd.prog 16 #[.agg #[.int .i64 o.kind, .int .i64 o.R, .int .i64 o.C, .slice o.dO o.nD o.cD, .slice o.aO o.nA o.cA, .slice o.bO o.nB o.cB, .slice o.xO o.nX o.cX, .slice o.vO o.nV o.cV, .slice o.tO o.nT o.cT, .int .i64 o.N], .agg #[.slice i.aO (o.nA + 64) i.cA, .slice i.bO (o.nB + 64) i.cB, .slice i.dO (o.nD + 64) i.cD, .slice i.xO (o.nX + 64) i.cX, .slice i.tO (o.nT + 64) i.cT, .slice i.vO o.nV i.cV]] w fun e w' => e = .returned (.bool true) ∧ Below w.heap.size w w' := by
  obtain ⟨aO, cA, bO, cB, dO, cD, xO, cX, tO, cT, vO, cV, Va, Vk⟩ := i
  obtain ⟨ab, af, ha, _⟩ := hI.a.one (by omega)
  obtain ⟨bb, bf, hb, _⟩ := hI.b.one (by omega)
  obtain ⟨db, df, hd, _⟩ := hI.d.one (by omega)
  obtain ⟨xb, xf, hx, _⟩ := hI.x.one (by omega)
  obtain ⟨tb, tf, ht, _⟩ := hI.t.at_ (by omega)
  have ha' : aO = _ := ha
  have hb' : bO = _ := hb
  have hd' : dO = _ := hd
  have hx' : xO = _ := hx
  have ht' : tO = _ := ht
  subst ha' hb' hd' hx' ht'
  by_cases h1 : o.kind = 1
  · exact plain_check hI hR h1
  by_cases h2 : o.kind = 2
  · exact plain_matvec hI hR h2
  by_cases h3 : o.kind = 3
  · exact plain_narrow hI hR h3
  by_cases h4 : o.kind = 4
  · exact plain_norm hI hR h4
  by_cases h5 : o.kind = 5
  · exact plain_dot hI hR h5
  exact plain_other hI hR (fun m h0 h1 e => by omega)
theorem mixed_any {w : World} {o : OpD} {i : InD} (hw : Holds w) (hI : InR w i o) (hR : OpR w o) :
    Calls Tryd.prog 17 #[.agg #[.int .i64 o.kind, .int .i64 o.R, .int .i64 o.C, .slice o.dO o.nD o.cD, .slice o.aO o.nA o.cA, .slice o.bO o.nB o.cB, .slice o.xO o.nX o.cX, .slice o.vO o.nV o.cV, .slice o.tO o.nT o.cT, .int .i64 o.N], .agg #[.slice i.aO (o.nA + 64) i.cA, .slice i.bO (o.nB + 64) i.cB, .slice i.dO (o.nD + 64) i.cD, .slice i.xO (o.nX + 64) i.cX, .slice i.tO (o.nT + 64) i.cT, .slice i.vO o.nV i.cV]] w fun e w' => e = .returned (.bool true) ∧ Below w.heap.size w w' := by
  obtain ⟨aO, cA, bO, cB, dO, cD, xO, cX, tO, cT, vO, cV, Va, Vk⟩ := i
  obtain ⟨ab, af, ha, _⟩ := hI.a.one (by omega)
  obtain ⟨bb, bf, hb, _⟩ := hI.b.one (by omega)
  obtain ⟨db, df, hd, _⟩ := hI.d.one (by omega)
  obtain ⟨xb, xf, hx, _⟩ := hI.x.one (by omega)
  obtain ⟨tb, tf, ht, _⟩ := hI.t.at_ (by omega)
  have ha' : aO = _ := ha
  have hb' : bO = _ := hb
  have hd' : dO = _ := hd
  have hx' : xO = _ := hx
  have ht' : tO = _ := ht
  subst ha' hb' hd' hx' ht'
  by_cases h6 : o.kind = 6
  · exact mixed_softmax hw hI hR h6
  by_cases h7 : o.kind = 7
  · exact mixed_blend hI hR h7
  by_cases h8 : o.kind = 8
  · exact mixed_turns hI hR h8
  by_cases h9 : o.kind = 9
  · exact mixed_rotate hI hR h9
  exact mixed_other hI hR (fun m h0 h1 e => by omega)
theorem in_spec : InSpec := fun _ _ h => in_any h
set_option maxRecDepth 20000 in
set_option maxHeartbeats 4000000 in
theorem plays_any {w : World} {o : OpD} (hw : Holds w) (hR : OpR w o) :
    Calls Tryd.prog 7 #[.agg #[.int .i64 o.kind, .int .i64 o.R, .int .i64 o.C, .slice o.dO o.nD o.cD, .slice o.aO o.nA o.cA, .slice o.bO o.nB o.cB, .slice o.xO o.nX o.cX, .slice o.vO o.nV o.cV, .slice o.tO o.nT o.cT, .int .i64 o.N]] w fun e w' => e = .returned (.bool true) ∧ Below w.heap.size w w' := by
  have HR := hidd hR
  have HW := hidd hw
  clear hR hw
  go_enter Tryd.func7, Tryd.ntmps7
  go_wp2_with fail
  have hf0 := fresh_alloc w (.cells #[.int .i64 o.kind, .int .i64 o.R, .int .i64 o.C, .slice o.dO o.nD o.cD, .slice o.aO o.nA o.cA, .slice o.bO o.nB o.cB, .slice o.xO o.nX o.cX, .slice o.vO o.nV o.cV, .slice o.tO o.nT o.cT, .int .i64 o.N] 33)
  refine (in_any (HR.out.fresh hf0)).mono ?_
  rintro e w2 ⟨i, rfl, hI, hf2⟩
  have c0 := fresh_cell hf2 (show (w.alloc (.cells #[.int .i64 o.kind, .int .i64 o.R, .int .i64 o.C, .slice o.dO o.nD o.cD, .slice o.aO o.nA o.cA, .slice o.bO o.nB o.cB, .slice o.xO o.nX o.cX, .slice o.vO o.nV o.cV, .slice o.tO o.nT o.cT, .int .i64 o.N] 33)).cell? ⟨w.heap.size, 0, none⟩ = some (.int .i64 o.kind) by simp)
  have c1 := fresh_cell hf2 (show (w.alloc (.cells #[.int .i64 o.kind, .int .i64 o.R, .int .i64 o.C, .slice o.dO o.nD o.cD, .slice o.aO o.nA o.cA, .slice o.bO o.nB o.cB, .slice o.xO o.nX o.cX, .slice o.vO o.nV o.cV, .slice o.tO o.nT o.cT, .int .i64 o.N] 33)).cell? ⟨w.heap.size, 1, none⟩ = some (.int .i64 o.R) by simp)
  have c2 := fresh_cell hf2 (show (w.alloc (.cells #[.int .i64 o.kind, .int .i64 o.R, .int .i64 o.C, .slice o.dO o.nD o.cD, .slice o.aO o.nA o.cA, .slice o.bO o.nB o.cB, .slice o.xO o.nX o.cX, .slice o.vO o.nV o.cV, .slice o.tO o.nT o.cT, .int .i64 o.N] 33)).cell? ⟨w.heap.size, 2, none⟩ = some (.int .i64 o.C) by simp)
  have c3 := fresh_cell hf2 (show (w.alloc (.cells #[.int .i64 o.kind, .int .i64 o.R, .int .i64 o.C, .slice o.dO o.nD o.cD, .slice o.aO o.nA o.cA, .slice o.bO o.nB o.cB, .slice o.xO o.nX o.cX, .slice o.vO o.nV o.cV, .slice o.tO o.nT o.cT, .int .i64 o.N] 33)).cell? ⟨w.heap.size, 3, none⟩ = some (.slice o.dO o.nD o.cD) by simp)
  have c4 := fresh_cell hf2 (show (w.alloc (.cells #[.int .i64 o.kind, .int .i64 o.R, .int .i64 o.C, .slice o.dO o.nD o.cD, .slice o.aO o.nA o.cA, .slice o.bO o.nB o.cB, .slice o.xO o.nX o.cX, .slice o.vO o.nV o.cV, .slice o.tO o.nT o.cT, .int .i64 o.N] 33)).cell? ⟨w.heap.size, 4, none⟩ = some (.slice o.aO o.nA o.cA) by simp)
  have c5 := fresh_cell hf2 (show (w.alloc (.cells #[.int .i64 o.kind, .int .i64 o.R, .int .i64 o.C, .slice o.dO o.nD o.cD, .slice o.aO o.nA o.cA, .slice o.bO o.nB o.cB, .slice o.xO o.nX o.cX, .slice o.vO o.nV o.cV, .slice o.tO o.nT o.cT, .int .i64 o.N] 33)).cell? ⟨w.heap.size, 5, none⟩ = some (.slice o.bO o.nB o.cB) by simp)
  have c6 := fresh_cell hf2 (show (w.alloc (.cells #[.int .i64 o.kind, .int .i64 o.R, .int .i64 o.C, .slice o.dO o.nD o.cD, .slice o.aO o.nA o.cA, .slice o.bO o.nB o.cB, .slice o.xO o.nX o.cX, .slice o.vO o.nV o.cV, .slice o.tO o.nT o.cT, .int .i64 o.N] 33)).cell? ⟨w.heap.size, 6, none⟩ = some (.slice o.xO o.nX o.cX) by simp)
  have c7 := fresh_cell hf2 (show (w.alloc (.cells #[.int .i64 o.kind, .int .i64 o.R, .int .i64 o.C, .slice o.dO o.nD o.cD, .slice o.aO o.nA o.cA, .slice o.bO o.nB o.cB, .slice o.xO o.nX o.cX, .slice o.vO o.nV o.cV, .slice o.tO o.nT o.cT, .int .i64 o.N] 33)).cell? ⟨w.heap.size, 7, none⟩ = some (.slice o.vO o.nV o.cV) by simp)
  have c8 := fresh_cell hf2 (show (w.alloc (.cells #[.int .i64 o.kind, .int .i64 o.R, .int .i64 o.C, .slice o.dO o.nD o.cD, .slice o.aO o.nA o.cA, .slice o.bO o.nB o.cB, .slice o.xO o.nX o.cX, .slice o.vO o.nV o.cV, .slice o.tO o.nT o.cT, .int .i64 o.N] 33)).cell? ⟨w.heap.size, 8, none⟩ = some (.slice o.tO o.nT o.cT) by simp)
  have c9 := fresh_cell hf2 (show (w.alloc (.cells #[.int .i64 o.kind, .int .i64 o.R, .int .i64 o.C, .slice o.dO o.nD o.cD, .slice o.aO o.nA o.cA, .slice o.bO o.nB o.cB, .slice o.xO o.nX o.cX, .slice o.vO o.nV o.cV, .slice o.tO o.nT o.cT, .int .i64 o.N] 33)).cell? ⟨w.heap.size, 9, none⟩ = some (.int .i64 o.N) by simp)
  have hF := fresh_trans hf0 hf2
  have HI := hidd hI
  clear hf0 hf2 hI
  go_upto_region 2 with fail
  have hA := fresh_alloc w2 (.cells #[.slice i.aO (o.nA + 64) i.cA, .slice i.bO (o.nB + 64) i.cB, .slice i.dO (o.nD + 64) i.cD, .slice i.xO (o.nX + 64) i.cX, .slice i.tO (o.nT + 64) i.cT, .slice i.vO o.nV i.cV] 41)
  replace c0 := fresh_cell hA c0
  replace c1 := fresh_cell hA c1
  replace c2 := fresh_cell hA c2
  replace c3 := fresh_cell hA c3
  replace c4 := fresh_cell hA c4
  replace c5 := fresh_cell hA c5
  replace c6 := fresh_cell hA c6
  replace c7 := fresh_cell hA c7
  replace c8 := fresh_cell hA c8
  replace c9 := fresh_cell hA c9
  have d0 : (w2.alloc (.cells #[.slice i.aO (o.nA + 64) i.cA, .slice i.bO (o.nB + 64) i.cB, .slice i.dO (o.nD + 64) i.cD, .slice i.xO (o.nX + 64) i.cX, .slice i.tO (o.nT + 64) i.cT, .slice i.vO o.nV i.cV] 41)).cell? ⟨w2.heap.size, 0, none⟩ = some (.slice i.aO (o.nA + 64) i.cA) := by simp
  have d1 : (w2.alloc (.cells #[.slice i.aO (o.nA + 64) i.cA, .slice i.bO (o.nB + 64) i.cB, .slice i.dO (o.nD + 64) i.cD, .slice i.xO (o.nX + 64) i.cX, .slice i.tO (o.nT + 64) i.cT, .slice i.vO o.nV i.cV] 41)).cell? ⟨w2.heap.size, 1, none⟩ = some (.slice i.bO (o.nB + 64) i.cB) := by simp
  have d2 : (w2.alloc (.cells #[.slice i.aO (o.nA + 64) i.cA, .slice i.bO (o.nB + 64) i.cB, .slice i.dO (o.nD + 64) i.cD, .slice i.xO (o.nX + 64) i.cX, .slice i.tO (o.nT + 64) i.cT, .slice i.vO o.nV i.cV] 41)).cell? ⟨w2.heap.size, 2, none⟩ = some (.slice i.dO (o.nD + 64) i.cD) := by simp
  have d3 : (w2.alloc (.cells #[.slice i.aO (o.nA + 64) i.cA, .slice i.bO (o.nB + 64) i.cB, .slice i.dO (o.nD + 64) i.cD, .slice i.xO (o.nX + 64) i.cX, .slice i.tO (o.nT + 64) i.cT, .slice i.vO o.nV i.cV] 41)).cell? ⟨w2.heap.size, 3, none⟩ = some (.slice i.xO (o.nX + 64) i.cX) := by simp
  have d4 : (w2.alloc (.cells #[.slice i.aO (o.nA + 64) i.cA, .slice i.bO (o.nB + 64) i.cB, .slice i.dO (o.nD + 64) i.cD, .slice i.xO (o.nX + 64) i.cX, .slice i.tO (o.nT + 64) i.cT, .slice i.vO o.nV i.cV] 41)).cell? ⟨w2.heap.size, 4, none⟩ = some (.slice i.tO (o.nT + 64) i.cT) := by simp
  have d5 : (w2.alloc (.cells #[.slice i.aO (o.nA + 64) i.cA, .slice i.bO (o.nB + 64) i.cB, .slice i.dO (o.nD + 64) i.cD, .slice i.xO (o.nX + 64) i.cX, .slice i.tO (o.nT + 64) i.cT, .slice i.vO o.nV i.cV] 41)).cell? ⟨w2.heap.size, 5, none⟩ = some (.slice i.vO o.nV i.cV) := by simp
  have HI3 := hidd (HI.out.fresh hA)
  have hF3 := fresh_trans hF hA
  have HR3 := hidd (HR.out.fresh hF3)
  have HW3 := hidd (HW.out.fresh hF3)
  generalize w2.alloc (.cells #[.slice i.aO (o.nA + 64) i.cA, .slice i.bO (o.nB + 64) i.cB, .slice i.dO (o.nD + 64) i.cD, .slice i.xO (o.nX + 64) i.cX, .slice i.tO (o.nT + 64) i.cT, .slice i.vO o.nV i.cV] 41) = w3 at *
  have C0 := hidd c0
  have C1 := hidd c1
  have C2 := hidd c2
  have C3 := hidd c3
  have C4 := hidd c4
  have C5 := hidd c5
  have C6 := hidd c6
  have C7 := hidd c7
  have C8 := hidd c8
  have C9 := hidd c9
  have D0 := hidd d0
  have D1 := hidd d1
  have D2 := hidd d2
  have D3 := hidd d3
  have D4 := hidd d4
  have D5 := hidd d5
  clear hA hF HI HR HW
  by_cases hk : o.kind < 6
  · have dk : decide (o.kind < 6) = true := by simp; omega
    clear hk
    go_wp2_with fail
    refine (plain_any HI3.out HR3.out).mono ?_
    rintro e w4 ⟨rfl, hn⟩
    clear c0 c1 c2 c3 c4 c5 c6 c7 c8 c9 d0 d1 d2 d3 d4 d5
    have c0 := fresh_cell hn C0.out
    have c1 := fresh_cell hn C1.out
    have c2 := fresh_cell hn C2.out
    have c3 := fresh_cell hn C3.out
    have c4 := fresh_cell hn C4.out
    have c5 := fresh_cell hn C5.out
    have c6 := fresh_cell hn C6.out
    have c7 := fresh_cell hn C7.out
    have c8 := fresh_cell hn C8.out
    have c9 := fresh_cell hn C9.out
    have d0 := fresh_cell hn D0.out
    have d1 := fresh_cell hn D1.out
    have d2 := fresh_cell hn D2.out
    have d3 := fresh_cell hn D3.out
    have d4 := fresh_cell hn D4.out
    have d5 := fresh_cell hn D5.out
    go_wp2_with fail
    refine (kept_any in_spec (HI3.out.fresh hn) (HR3.out.fresh hn)).mono ?_
    rintro e w5 ⟨rfl, hn5⟩
    go_wp2
    go_ret
    exact ⟨rfl, fresh_trans hF3 (fresh_trans hn hn5)⟩
  · have dk : decide (o.kind < 6) = false := by simp; omega
    clear hk
    go_wp2_with fail
    refine (mixed_any HW3.out HI3.out HR3.out).mono ?_
    rintro e w4 ⟨rfl, hn⟩
    clear c0 c1 c2 c3 c4 c5 c6 c7 c8 c9 d0 d1 d2 d3 d4 d5
    have c0 := fresh_cell hn C0.out
    have c1 := fresh_cell hn C1.out
    have c2 := fresh_cell hn C2.out
    have c3 := fresh_cell hn C3.out
    have c4 := fresh_cell hn C4.out
    have c5 := fresh_cell hn C5.out
    have c6 := fresh_cell hn C6.out
    have c7 := fresh_cell hn C7.out
    have c8 := fresh_cell hn C8.out
    have c9 := fresh_cell hn C9.out
    have d0 := fresh_cell hn D0.out
    have d1 := fresh_cell hn D1.out
    have d2 := fresh_cell hn D2.out
    have d3 := fresh_cell hn D3.out
    have d4 := fresh_cell hn D4.out
    have d5 := fresh_cell hn D5.out
    go_wp2_with fail
    refine (kept_any in_spec (HI3.out.fresh hn) (HR3.out.fresh hn)).mono ?_
    rintro e w5 ⟨rfl, hn5⟩
    go_wp2
    go_ret
    exact ⟨rfl, fresh_trans hF3 (fresh_trans hn hn5)⟩
end Go.Proofs.YtmcefgpejocjfaaDoor
