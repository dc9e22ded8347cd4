import Derived.Test.YteiocgciblogdabVTwin
namespace Go.Proofs.Yteiocgciblogdab
open Go.RowKit
/-! What a twin is, read; still. -/
theorem TwinR.rb {w w' : World} {d : VD} {gb kb gp kp : Nat} (h : TwinR w w' d gb kb gp kp) : RdA w' (some ⟨gb, 0, none⟩) 1 d.nb kb (fun i => .int .u8 (d.B i)) :=
  (h.b.rda.take (by omega)).congr (fun j hj => by rw [mkB_lo (by omega)])
theorem TwinR.rp {w w' : World} {d : VD} {gb kb gp kp : Nat} (h : TwinR w w' d gb kb gp kp) : RdA w' (some ⟨gp, 0, none⟩) 2 d.np kp (tcs d.P d.Q) :=
  (h.p.rda.take (by omega)).congr (fun j hj => (tcs_mk1 hj).symm)
theorem TwinR.kept {w w' w'' : World} {d : VD} {gb kb gp kp : Nat} (h : TwinR w w' d gb kb gp kp) (f : Below w'.heap.size w' w'') : TwinR w w'' d gb kb gp kp :=
  ⟨h.b.kept f, h.p.kept f, h.off, fresh_trans h.low f⟩
set_option maxRecDepth 20000 in
set_option maxHeartbeats 4000000 in
theorem still_any {w0 w : World} {d : VD} {bo po : Option Addr} {cb cp gb kb gp kp : Nat} (hT : TwinR w0 w d gb kb gp kp) (hb : RdA w bo 1 d.nb cb (fun i => .int .u8 (d.B i))) (hp : RdA w po 2 d.np cp (tcs d.P d.Q)) (n1 : d.nb ≤ 140737488351232) (n2 : d.np ≤ 8796093021952) :
    Calls Try.prog 10 #[.agg #[.slice (some ⟨gb, 0, none⟩) d.nb kb, .slice (some ⟨gp, 0, none⟩) d.np kp], .agg #[.slice bo d.nb cb, .slice po d.np cp]] w fun e w' => e = .returned (.bool true) ∧ Below w.heap.size w w' := by
  have hf0 := fresh_trans (fresh_alloc w (.cells #[.slice (some ⟨gb, 0, none⟩) d.nb kb, .slice (some ⟨gp, 0, none⟩) d.np kp] 25)) (fresh_alloc _ (.cells #[.slice bo d.nb cb, .slice po d.np cp] 25))
  have r0 := (row2_new w 25 (.slice (some ⟨gb, 0, none⟩) d.nb kb) (.slice (some ⟨gp, 0, none⟩) d.np kp)).alloc (.cells #[.slice bo d.nb cb, .slice po d.np cp] 25)
  have r1 := row2_new (w.alloc (.cells #[.slice (some ⟨gb, 0, none⟩) d.nb kb, .slice (some ⟨gp, 0, none⟩) d.np kp] 25)) 25 (.slice bo d.nb cb) (.slice po d.np cp)
  simp only [World.size_alloc] at r1
  go_enter Try.func10, Try.ntmps10
  go_wp2_with fail
  generalize (w.alloc (.cells #[.slice (some ⟨gb, 0, none⟩) d.nb kb, .slice (some ⟨gp, 0, none⟩) d.np kp] 25)).alloc (.cells #[.slice bo d.nb cb, .slice po d.np cp] 25) = w1 at *
  refine (eqVocab_same (hT.rb.fresh hf0) (hT.rp.fresh hf0) (hb.fresh hf0) (hp.fresh hf0)).mono ?_
  rintro e w2 ⟨rfl, hf2⟩
  have hT2 := hT.kept (fresh_trans hf0 hf2)
  obtain ⟨x0, x1⟩ := row2 (r0.of_block (hf2.block _ r0.lt))
  obtain ⟨z0, z1⟩ := row2 (r1.of_block (hf2.block _ r1.lt))
  have hF := fresh_trans hf0 hf2
  have m0 : w2.cell? ⟨gb, d.nb, none⟩ = some (.int .u8 225) := by
    obtain ⟨b, o, e, h⟩ := hT2.b.rda.one (by omega)
    cases e
    have := h d.nb (by omega)
    rw [mkB_0] at this
    simpa using this
  have m1 : w2.cell? ⟨gb, d.nb + 1, none⟩ = some (.int .u8 226) := by
    obtain ⟨b, o, e, h⟩ := hT2.b.rda.one (by omega)
    cases e
    have := h (d.nb + 1) (by omega)
    rw [mkB_1] at this
    simpa using this
  have m2 : w2.cell? ⟨gp, d.np * 2, none⟩ = some (.int .i64 (-7)) ∧ w2.cell? ⟨gp, d.np * 2 + 1, none⟩ = some (.int .i64 (-8)) := by
    obtain ⟨b, o, e, h⟩ := hT2.p.rda.two (by omega)
    cases e
    have := h d.np (by omega)
    rw [mk1_hi, mk1_hi] at this
    simpa using this
  obtain ⟨m2, m3⟩ := m2
  have l1 := hT2.b.rda.le
  have l2 := hT2.b.rda.top
  have l3 := hT2.p.rda.le
  have l4 := hT2.p.rda.top
  unfold maxLen at l2 l4
  have i1 : (0 : Int) ≤ (d.nb : Int) + 2 := by omega
  have i2 : (d.nb : Int) + 2 ≤ (kb : Int) := by omega
  have i3 : (0 : Int) ≤ (d.np : Int) + 1 := by omega
  have i4 : (d.np : Int) + 1 ≤ (kp : Int) := by omega
  have hq := eqP_true (-7) (-8)
  clear r0 r1 hf2 hT2 hf0 hT
  go_wp2
  go_ret
  exact ⟨rfl, hF⟩
end Go.Proofs.Yteiocgciblogdab
