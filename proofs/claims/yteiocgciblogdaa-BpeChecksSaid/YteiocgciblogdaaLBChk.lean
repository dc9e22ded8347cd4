import Derived.Test.YteiocgciblogdaaVSiz
import Derived.Test.YteiocgciblogdaaVStl
namespace Go.Proofs.Yteiocgciblogdaa
open Go.RowKit
/-! BpeChecks. -/
set_option maxRecDepth 20000 in
set_option maxHeartbeats 4000000 in
theorem checks_walk {w : World} {d : VD} {bo po : Option Addr} {cb cp : Nat} (hb : RdA w bo 1 d.nb cb (fun i => .int .u8 (d.B i))) (hp : RdA w po 2 d.np cp (tcs d.P d.Q)) (n1 : d.nb ≤ 140737488351232) (n2 : d.np ≤ 8796093021952) :
    Calls Try.prog 3 #[.agg #[.slice bo d.nb cb, .slice po d.np cp]] w fun e w' => e = .returned (.bool true) ∧ Below w.heap.size w w' := by
  obtain ⟨x, hx⟩ : ∃ x, d.told x := by
    by_cases h : d.Right
    · exact ⟨0, .inl ⟨h, rfl⟩⟩
    · exact ⟨50, .inr ⟨h, rfl⟩⟩
  obtain ⟨y, hy⟩ : ∃ y, d.sized y := by
    by_cases h : d.Right
    · exact ⟨_, .inl ⟨h, rfl⟩⟩
    · exact ⟨0, .inr ⟨h, rfl⟩⟩
  have HX := hidd hx
  have HY := hidd hy
  clear hx hy
  have hf0 := fresh_alloc w (.cells #[.slice bo d.nb cb, .slice po d.np cp] 25)
  have r0 := row2_new w 25 (.slice bo d.nb cb) (.slice po d.np cp)
  go_enter Try.func3, Try.ntmps3
  go_wp2_with fail
  generalize w.alloc (.cells #[.slice bo d.nb cb, .slice po d.np cp] 25) = w1 at *
  refine (twin_any (hb.fresh hf0) (hp.fresh hf0) n1 n2).mono ?_
  rintro e w2 ⟨gb, kb, gp, kp, rfl, hT⟩
  have hF2 := fresh_trans hf0 hT.low
  have r1 := r0.of_block (hT.low.block _ r0.lt)
  have fA := fresh_alloc w2 (.cells #[.slice (some ⟨gb, 0, none⟩) d.nb kb, .slice (some ⟨gp, 0, none⟩) d.np kp] 25)
  have c1 := row2_new w2 25 (.slice (some ⟨gb, 0, none⟩) d.nb kb) (.slice (some ⟨gp, 0, none⟩) d.np kp)
  have r2 := r1.of_block (fA.block _ r1.lt)
  have hT3 := hT.kept fA
  have hF3 := fresh_trans hF2 fA
  go_upto_region 2 with fail
  generalize w2.alloc (.cells #[.slice (some ⟨gb, 0, none⟩) d.nb kb, .slice (some ⟨gp, 0, none⟩) d.np kp] 25) = w3 at *
  generalize w2.heap.size = C at *
  obtain ⟨x0, x1⟩ := row2 c1
  clear r0 r1 hT fA hF2 hf0
  go_wp2_with fail
  refine (pcheck_any hT3.rb hT3.rp x HX.out).mono ?_
  rintro e w4 ⟨rfl, hf4⟩
  have c4 := c1.of_block (hf4.block _ c1.lt)
  have r4 := r2.of_block (hf4.block _ r2.lt)
  have hT4 := hT3.kept hf4
  have hF4 := fresh_trans hF3 hf4
  clear c1 r2 hT3 hF3 hf4 x0 x1
  obtain ⟨x0, x1⟩ := row2 c4
  go_wp2_with fail
  refine (psize_any hT4.rb hT4.rp y HY.out).mono ?_
  rintro e w5 ⟨rfl, hf5⟩
  have c5 := c4.of_block (hf5.block _ c4.lt)
  have r5 := r4.of_block (hf5.block _ r4.lt)
  have hT5 := hT4.kept hf5
  have hF5 := fresh_trans hF4 hf5
  clear c4 r4 hT4 hF4 hf5 x0 x1
  obtain ⟨y0, y1⟩ := row2 r5
  go_wp2_with fail
  refine (rcheck_any (hb.fresh hF5) (hp.fresh hF5) (by omega) x HX.out).mono ?_
  rintro e w6 ⟨rfl, hf6⟩
  have c6 := c5.of_block (hf6.block _ c5.lt)
  have r6 := r5.of_block (hf6.block _ r5.lt)
  have hT6 := hT5.kept hf6
  have hF6 := fresh_trans hF5 hf6
  clear c5 r5 hT5 hF5 hf6 y0 y1
  obtain ⟨y0, y1⟩ := row2 r6
  go_wp2_with fail
  refine (rsize_any (hb.fresh hF6) (hp.fresh hF6) (by omega) y HY.out).mono ?_
  rintro e w7 ⟨rfl, hf7⟩
  have c7 := c6.of_block (hf7.block _ c6.lt)
  have r7 := r6.of_block (hf7.block _ r6.lt)
  have hT7 := hT6.kept hf7
  have hF7 := fresh_trans hF6 hf7
  clear c6 r6 hT6 hF6 hf7 y0 y1
  obtain ⟨x0, x1⟩ := row2 c7
  obtain ⟨y0, y1⟩ := row2 r7
  go_wp2_with fail
  refine (still_any hT7 (hb.fresh hF7) (hp.fresh hF7) n1 n2).mono ?_
  rintro e w8 ⟨rfl, hf8⟩
  have hF8 := fresh_trans hF7 hf8
  clear c7 r7 hT7 hF7 hf8 x0 x1 y0 y1
  go_wp2
  go_ret
  exact ⟨rfl, hF8⟩
end Go.Proofs.Yteiocgciblogdaa
