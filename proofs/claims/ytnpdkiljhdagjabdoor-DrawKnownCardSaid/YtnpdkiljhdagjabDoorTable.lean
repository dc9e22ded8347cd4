import Derived.Test.YtnpdkiljhdagjabDoorMix
import Derived.ProofKit
import Derived.OpenShut
import Derived.LaidLaws
namespace Go.Proofs.YtnpdkiljhdagjabDoor
open Go.RowKit
/-! What the row's condition says of the table of the rounds: its cells. -/
section
variable {H : Type} {enc : TypeId × Value → H} {P : Program} {w : World} {base : Nat} {sp : Nat → Bool} {held : Bool}
theorem pair_cells {t : TypeId} {f0 f1 : Field} {k0 k1 : IntKind} {fuel : Nat} {cs : List Value} {x : DataW H × List MemPlace} {a b : Int} (ht : P.underlying t = some (.struct #[f0, f1]))
    (h0 : P.underlying f0.type = some (.int k0)) (o0 : f0.offset = 0) (c0 : P.cellsOf f0.type = 1) (h1 : P.underlying f1.type = some (.int k1)) (o1 : f1.offset = 1) (c1 : P.cellsOf f1.type = 1) (hc : P.cellsOf t = 2)
    (h : DataW.trod enc P w base sp held fuel t cs = some x) (hx : x.1 = .agg [.lit (.int k0 a), .lit (.int k1 b)]) : cs = [.int k0 a, .int k1 b] := by
  obtain ⟨xs, n, _, rfl, hl, hlen, hf⟩ := DataW.trod_struct ht h
  have e0 := hf 0 f0 rfl
  have e1 := hf 1 f1 rfl
  rw [o0, c0] at e0
  rw [o1, c1] at e1
  rw [hc] at hl
  match cs, hl with
  | [v0, v1], _ =>
    match xs, hlen with
    | [y0, y1], _ =>
      simp only [List.map_cons, List.map_nil, DataW.agg.injEq, List.cons.injEq, and_true] at hx
      obtain ⟨z0, q0, r0, _⟩ := DataW.trod_int h0 e0
      obtain ⟨z1, q1, r1, _⟩ := DataW.trod_int h1 e1
      rw [r0, r1] at hx
      simp only [DataW.lit.injEq, Lit.int.injEq, true_and] at hx
      simp at q0 q1
      rw [q0, q1, hx.1, hx.2]
end
theorem three {α : Type} {l : List α} (h : l.length = 3) : ∃ a b c, l = [a, b, c] :=
  match l, h with
  | [a, b, c], _ => ⟨a, b, c, rfl⟩
theorem six {α : Type} {l : List α} (h : l.length = 6) : ∃ a b c d e f, l = [a, b, c, d, e, f] :=
  match l, h with
  | [a, b, c, d, e, f], _ => ⟨a, b, c, d, e, f, rfl⟩
theorem gTab : Tryd.prog.globalNamed "augur/draw.rounds" = some 0 := by kernel_rfl
theorem gTabType : (Tryd.prog.globals[0]?).map (·.type) = some 28 := by kernel_rfl
theorem cellsArr : Tryd.prog.cellsOf 28 = 6 := by kernel_rfl
theorem cellsElem : Tryd.prog.cellsOf 27 = 2 := by kernel_rfl
theorem cellsInt : Tryd.prog.cellsOf 3 = 1 := by kernel_rfl
theorem cellsWord : Tryd.prog.cellsOf 22 = 1 := by kernel_rfl
theorem holds_of {W : World} (h : laidMet Tryd.prog [("augur/draw.rounds", Rows.laid_augur_draw_rounds)] W) : Holds W := by
  obtain ⟨ps, ⟨g, t, cs, fuel, p, q, hg, ht, hvar, hd, _, _⟩, _⟩ := h
  obtain rfl := Option.some.inj (gTab.symm.trans hg)
  obtain rfl := Option.some.inj (gTabType.symm.trans ht)
  obtain ⟨xs, m, rfl, hx, hl, hn, hf⟩ := DataW.trod_array Tryd.underlying28 hd
  obtain ⟨x0, x1, x2, rfl⟩ := three hn
  rw [cellsArr] at hl
  obtain ⟨c0, c1, c2, c3, c4, c5, hcs⟩ := six hl
  have e0 := hf 0 (by omega)
  have e1 := hf 1 (by omega)
  have e2 := hf 2 (by omega)
  rw [cellsElem, hcs] at e0 e1 e2
  have hx1 := congrArg Prod.fst hx
  simp only [Rows.laid_augur_draw_rounds, List.map_cons, List.map_nil, DataW.agg.injEq, List.cons.injEq, and_true] at hx1
  have q0 := pair_cells Tryd.underlying27 Tryd.underlying3 rfl cellsInt Tryd.underlying22 rfl cellsWord cellsElem e0 hx1.1.symm
  have q1 := pair_cells Tryd.underlying27 Tryd.underlying3 rfl cellsInt Tryd.underlying22 rfl cellsWord cellsElem e1 hx1.2.1.symm
  have q2 := pair_cells Tryd.underlying27 Tryd.underlying3 rfl cellsInt Tryd.underlying22 rfl cellsWord cellsElem e2 hx1.2.2.symm
  simp at q0 q1 q2
  have hc : cs = tab := by
    apply Array.ext'
    rw [hcs, q0.1, q0.2, q1.1, q1.2, q2.1, q2.2]
    rfl
  subst hc
  unfold World.var? at hvar
  rw [gTab] at hvar
  simp only [Option.bind_some] at hvar
  split at hvar
  · rename_i cs' t fr hc
    refine ⟨t, fr, ?_⟩
    rw [hc, Option.some.inj hvar]
  · cases hvar
end Go.Proofs.YtnpdkiljhdagjabDoor
