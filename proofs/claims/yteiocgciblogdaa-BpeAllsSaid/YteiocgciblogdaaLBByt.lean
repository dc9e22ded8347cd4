import Derived.Test.YteiocgciblogdaaVByt
import Derived.Test.YteiocgciblogdaaVStl
namespace Go.Proofs.Yteiocgciblogdaa
open Go.RowKit
/-! BpeBytes. -/
theorem OwnB.rda {w : World} {base : Nat} {ao : Option Addr} {m cap : Nat} {l : List Int} (h : OwnB w base (.slice ao m cap) l) : m = l.length ∧ RdA w ao 1 l.length cap (fun j => .int .u8 (l.getD j 0)) := by
  obtain ⟨ao', cap', e, hr⟩ := h.rd
  cases e; exact ⟨rfl, hr⟩
theorem OwnB.get {w : World} {base : Nat} {v : Value} {l : List Int} (h : OwnB w base v l) : ∃ ao cap, v = .slice ao l.length cap ∧ RdA w ao 1 l.length cap (fun j => .int .u8 (l.getD j 0)) := h.rd
set_option maxRecDepth 20000 in
set_option maxHeartbeats 4000000 in
theorem bytes_walk {w : World} {d : VD} {bo po : Option Addr} {cb cp : Nat} (hb : RdA w bo 1 d.nb cb (fun i => .int .u8 (d.B i))) (hp : RdA w po 2 d.np cp (tcs d.P d.Q)) (n1 : d.nb ≤ 140737488351232) (n2 : d.np ≤ 8796093021952) (t : Int) :
    Calls Try.prog 4 #[.agg #[.slice bo d.nb cb, .slice po d.np cp], .int .i64 t] w fun e w' => e = .returned (.bool true) ∧ Below w.heap.size w w' := by
  obtain ⟨x, l, hx⟩ := d.decOut_some (fun _ => t) 1
  have HX := hidd hx
  clear hx
  have hf0 := fresh_alloc w (.cells #[.slice bo d.nb cb, .slice po d.np cp] 25)
  have r0 := row2_new w 25 (.slice bo d.nb cb) (.slice po d.np cp)
  go_enter Try.func4, Try.ntmps4
  go_wp2_with fail
  generalize w.alloc (.cells #[.slice bo d.nb cb, .slice po d.np cp] 25) = w1 at *
  refine (twin_any (hb.fresh hf0) (hp.fresh hf0) n1 n2).mono ?_
  rintro e w2 ⟨gb, kb, gp, kp, rfl, hT⟩
  have hF2 := fresh_trans hf0 hT.low
  have r1 := r0.of_block (hT.low.block _ r0.lt)
  have fA := fresh_alloc w2 (.cells #[.slice (some ⟨gb, 0, none⟩) d.nb kb, .slice (some ⟨gp, 0, none⟩) d.np kp] 25)
  have c1 := row2_new w2 25 (.slice (some ⟨gb, 0, none⟩) d.nb kb) (.slice (some ⟨gp, 0, none⟩) d.np kp)
  have r2 := r1.of_block (fA.block _ r1.lt)
  have hT3 := hT.kept fA
  have hF3 := fresh_trans hF2 fA
  go_upto_region 2 with fail
  generalize w2.alloc (.cells #[.slice (some ⟨gb, 0, none⟩) d.nb kb, .slice (some ⟨gp, 0, none⟩) d.np kp] 25) = w3 at *
  generalize w2.heap.size = C at *
  obtain ⟨x0, x1⟩ := row2 c1
  clear r0 r1 hT fA hF2 hf0
  go_wp2_with fail
  refine (pbytes_any hT3.rb hT3.rp t x l HX.out).mono ?_
  rintro e w4 ⟨v4, rfl, hO4, hf4⟩
  have c4 := c1.of_block (hf4.block _ c1.lt)
  have r4 := r2.of_block (hf4.block _ r2.lt)
  have hT4 := hT3.kept hf4
  have hF4 := fresh_trans hF3 hf4
  clear c1 r2 hT3 hF3 hf4 x0 x1
  obtain ⟨y0, y1⟩ := row2 r4
  obtain ⟨a4, k4, rfl, rd4⟩ := hO4.get
  go_wp2_with fail
  refine (rbytes_any (hb.fresh hF4) (hp.fresh hF4) (by omega) t x l HX.out).mono ?_
  rintro e w5 ⟨v5, rfl, hO5, hf5⟩
  have c5 := c4.of_block (hf5.block _ c4.lt)
  have r5 := r4.of_block (hf5.block _ r4.lt)
  have hT5 := hT4.kept hf5
  have hF5 := fresh_trans hF4 hf5
  have rd5 := rd4.fresh hf5
  obtain ⟨a5, k5, rfl, rd6⟩ := hO5.get
  clear c4 r4 hT4 hF4 hf5 y0 y1 rd4 hO4 hO5
  go_wp2_with fail
  refine (eqBytes_same rd5 rd6 (fun _ _ => rfl)).mono ?_
  rintro e w6 ⟨rfl, hf6⟩
  have c6 := c5.of_block (hf6.block _ c5.lt)
  have r6 := r5.of_block (hf6.block _ r5.lt)
  have hT6 := hT5.kept hf6
  have hF6 := fresh_trans hF5 hf6
  clear c5 r5 hT5 hF5 hf6 rd5 rd6
  obtain ⟨x0, x1⟩ := row2 c6
  obtain ⟨y0, y1⟩ := row2 r6
  go_wp2_with fail
  refine (still_any hT6 (hb.fresh hF6) (hp.fresh hF6) n1 n2).mono ?_
  rintro e w8 ⟨rfl, hf8⟩
  have hF8 := fresh_trans hF6 hf8
  clear c6 r6 hT6 hF6 hf8 x0 x1 y0 y1
  go_wp2
  go_ret
  exact ⟨rfl, hF8⟩
end Go.Proofs.Yteiocgciblogdaa
