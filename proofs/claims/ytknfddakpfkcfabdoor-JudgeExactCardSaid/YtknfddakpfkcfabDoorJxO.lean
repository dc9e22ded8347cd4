import Derived.Test.YtknfddakpfkcfabDoorJxD
import Derived.Test.YtknfddakpfkcfabDoorJdM
import Derived.Test.YtknfddakpfkcfabDoorMdO
import Derived.Test.YtknfddakpfkcfabDoorRaw
import Derived.WalkKit
import Derived.ProofKit
import Derived.OpenShut
import Derived.LaidLaws
import Derived.Lib.LaidTab
namespace Go.Proofs.YtknfddakpfkcfabDoor
open Go.ChangeShapes Go.WideShapes Go.ChangeAt Go.RowKit
/-! What came in: the table of the rounds, a list of numbers, a raw tree. -/
section
variable {H : Type} {enc : TypeId × Value → H} {P : Program} {w : World} {base : Nat} {sp : Nat → Bool} {held : Bool}
theorem pair_cells {t : TypeId} {f0 f1 : Field} {k0 k1 : IntKind} {fuel : Nat} {cs : List Value} {x : DataW H × List MemPlace} {a b : Int} (ht : P.underlying t = some (.struct #[f0, f1]))
    (h0 : P.underlying f0.type = some (.int k0)) (o0 : f0.offset = 0) (c0 : P.cellsOf f0.type = 1) (h1 : P.underlying f1.type = some (.int k1)) (o1 : f1.offset = 1) (c1 : P.cellsOf f1.type = 1) (hc : P.cellsOf t = 2)
    (h : DataW.trod enc P w base sp held fuel t cs = some x) (hx : x.1 = .agg [.lit (.int k0 a), .lit (.int k1 b)]) : cs = [.int k0 a, .int k1 b] := by
  obtain ⟨xs, n, _, rfl, hl, hlen, hf⟩ := DataW.trod_struct ht h
  have e0 := hf 0 f0 rfl
  have e1 := hf 1 f1 rfl
  rw [o0, c0] at e0
  rw [o1, c1] at e1
  rw [hc] at hl
  match cs, hl with
  | [v0, v1], _ =>
    match xs, hlen with
    | [y0, y1], _ =>
      simp only [List.map_cons, List.map_nil, DataW.agg.injEq, List.cons.injEq, and_true] at hx
      obtain ⟨z0, q0, r0, _⟩ := DataW.trod_int h0 e0
      obtain ⟨z1, q1, r1, _⟩ := DataW.trod_int h1 e1
      rw [r0, r1] at hx
      simp only [DataW.lit.injEq, Lit.int.injEq, true_and] at hx
      simp at q0 q1
      rw [q0, q1, hx.1, hx.2]
end
theorem three {α : Type} {l : List α} (h : l.length = 3) : ∃ a b c, l = [a, b, c] :=
  match l, h with
  | [a, b, c], _ => ⟨a, b, c, rfl⟩
theorem six {α : Type} {l : List α} (h : l.length = 6) : ∃ a b c d e f, l = [a, b, c, d, e, f] :=
  match l, h with
  | [a, b, c, d, e, f], _ => ⟨a, b, c, d, e, f, rfl⟩
theorem gD : Tryd.prog.globalNamed "augur/draw.rounds" = some 0 := by kernel_rfl
theorem gDType : (Tryd.prog.globals[0]?).map (·.type) = some 67 := by kernel_rfl
theorem cellsDArr : Tryd.prog.cellsOf 67 = 6 := by kernel_rfl
theorem cellsDElem : Tryd.prog.cellsOf 66 = 2 := by kernel_rfl
theorem cellsDInt : Tryd.prog.cellsOf 3 = 1 := by kernel_rfl
theorem cellsDWord : Tryd.prog.cellsOf 22 = 1 := by kernel_rfl
theorem var_block {W : World} {name : String} {g : Nat} {cs tb : Array Value} (hg : Tryd.prog.globalNamed name = some g) (hvar : W.var? Tryd.prog name = some cs) (hc : cs = tb) : ∃ t fr, W.heap[g]? = some (.cells tb t fr) := by
  subst hc
  unfold World.var? at hvar
  rw [hg] at hvar
  simp only [Option.bind_some] at hvar
  split at hvar
  · rename_i cs' t fr hc
    exact ⟨t, fr, by rw [hc, Option.some.inj hvar]⟩
  · cases hvar
set_option maxRecDepth 100000 in
theorem holds_of {W : World} (h : laidMet Tryd.prog [("augur/draw.rounds", Rows.laid_augur_draw_rounds)] W) : Dw.Holds W := by
  obtain ⟨ps, ⟨g, t, cs, fuel, p, q, hg, ht, hvar, hd, _, _⟩, _⟩ := h
  obtain rfl := Option.some.inj (gD.symm.trans hg)
  obtain rfl := Option.some.inj (gDType.symm.trans ht)
  obtain ⟨xs, m, rfl, hx, hl, hn, hf⟩ := DataW.trod_array Tryd.underlying67 hd
  obtain ⟨x0, x1, x2, rfl⟩ := three hn
  rw [cellsDArr] at hl
  obtain ⟨c0, c1, c2, c3, c4, c5, hcs⟩ := six hl
  have e0 := hf 0 (by omega)
  have e1 := hf 1 (by omega)
  have e2 := hf 2 (by omega)
  rw [cellsDElem, hcs] at e0 e1 e2
  have hx1 := congrArg Prod.fst hx
  simp only [Rows.laid_augur_draw_rounds, List.map_cons, List.map_nil, DataW.agg.injEq, List.cons.injEq, and_true] at hx1
  have q0 := pair_cells Tryd.underlying66 Tryd.underlying3 rfl cellsDInt Tryd.underlying22 rfl cellsDWord cellsDElem e0 hx1.1.symm
  have q1 := pair_cells Tryd.underlying66 Tryd.underlying3 rfl cellsDInt Tryd.underlying22 rfl cellsDWord cellsDElem e1 hx1.2.1.symm
  have q2 := pair_cells Tryd.underlying66 Tryd.underlying3 rfl cellsDInt Tryd.underlying22 rfl cellsDWord cellsDElem e2 hx1.2.2.symm
  simp at q0 q1 q2
  exact var_block gD hvar (Array.ext' (by rw [hcs, q0.1, q0.2, q1.1, q1.2, q2.1, q2.2]; rfl))
theorem add_in (b off k j : Nat) : ((⟨b, off, none⟩ : Addr).add k).add j = ⟨b, off + k + j, none⟩ := by
  unfold Addr.add
  split <;> split <;> simp_all
theorem spot_none {w : World} {a : Addr} {v : Value} (h : w.cell? a = some v) : ∃ b off, a = ⟨b, off, none⟩ := by
  obtain ⟨b, off, sp⟩ := a
  cases sp with
  | none => exact ⟨b, off, rfl⟩
  | some x =>
    unfold World.cell? at h
    split at h <;> simp at h
theorem two_cells {w : World} {base : Nat} {a : Addr} {x y : Value} (h : w.cells? base a 2 = some [x, y]) : w.cell? (a.add 0) = some x ∧ w.cell? (a.add 1) = some y := by
  unfold World.cells? at h
  split at h
  · rw [show List.range 2 = [0, 1] from rfl] at h
    simp only [List.mapM_cons, List.mapM_nil, Option.bind_eq_bind, Option.bind_eq_some_iff, Option.pure_def, Option.some.injEq] at h
    obtain ⟨x0, e0, t0, ⟨y0, e1, t1, rfl, h1⟩, h0⟩ := h
    subst h1
    simp only [List.cons.injEq, and_true] at h0
    obtain ⟨rfl, rfl⟩ := h0
    exact ⟨e0, e1⟩
  · cases h
section
variable {H : Type} {enc : TypeId × Value → H} {W : World} {base : Nat} {sp : Nat → Bool} {held : Bool}
set_option maxRecDepth 100000 in
theorem open_rawS {r : Reach} {b0 : Nat} {v : Value} {d : DataW H} {ps : List MemPlace} (hval : Value.okWide Tryd.prog W r b0 24 v) (hd : DataW.Trod enc Tryd.prog W base sp held 24 v d ps) :
    ∃ (ao : Option Addr) (n cap : Nat) (R : List (Int × Int)), v = .slice ao n cap ∧ RdA W ao 2 n cap (rwF R) := by
  obtain ⟨a0, len0, cap0, rfl⟩ := okWide_slice Tryd.underlying24 hval
  obtain ⟨fuel, hd⟩ := hd
  rcases DataW.trod_slice Tryd.underlying24 hd with ⟨hcs, _⟩ | ⟨a, len, cap, elems, rest, n, rfl, hcs, _, _, hl, hm, he, hel, _, _⟩
  · simp [Value.cells] at hcs
    obtain ⟨rfl, rfl, rfl⟩ := hcs
    exact ⟨none, 0, 0, [], rfl, ⟨Nat.le_refl _, Nat.zero_le _, fun h => absurd h (by omega)⟩⟩
  · simp [Value.cells] at hcs
    obtain ⟨rfl, rfl, rfl⟩ := hcs
    have key : ∀ i, ∃ t : Int × Int, i < len0 → W.cell? ((a.add (i * 2)).add 0) = some (.int .i64 t.1) ∧ W.cell? ((a.add (i * 2)).add 1) = some (.int .i64 t.2) := by
      intro i
      by_cases hi : i < len0
      · have h1 := hel i hi
        rw [List.getElem?_eq_getElem (by omega), cells_raw] at h1
        obtain ⟨cs, q0, q1⟩ := Option.bind_eq_some_iff.1 h1
        obtain ⟨s, u, rfl, _, _, _⟩ := cells_of_raw q1
        obtain ⟨g0, g1⟩ := two_cells q0
        exact ⟨(s, u), fun _ => ⟨g0, g1⟩⟩
      · exact ⟨(0, 0), fun h => absurd h hi⟩
    obtain ⟨f, hf⟩ := Classical.axiomOfChoice key
    refine ⟨some a, len0, cap0, (List.range len0).map f, rfl, ⟨hl, hm, fun hp => ?_⟩⟩
    obtain ⟨b, off, rfl⟩ : ∃ b off, a = ⟨b, off, none⟩ := spot_none (show W.cell? a = _ from (hf 0 hp).1)
    refine ⟨b, off, rfl, fun j hj => ?_⟩
    have hg : ∀ i, i < len0 → ((List.range len0).map f).getD i (0, 0) = f i := fun i hi => by
      rw [List.getD_eq_getElem?_getD]
      simp [hi]
    obtain ⟨i, h⟩ : ∃ i, j = i * 2 ∨ j = i * 2 + 1 := ⟨j / 2, by omega⟩
    have hh := hf i (by omega)
    simp only [add_in] at hh
    rcases h with rfl | rfl
    · rw [rwF_0, hg i (by omega)]; exact hh.1
    · rw [rwF_1, hg i (by omega), show off + (i * 2 + 1) = off + i * 2 + 1 by omega]; exact hh.2
end
theorem judgeExact_walk {H : Type} {enc : TypeId × Value → H} {base : Nat} {sp : Nat → Bool} {held : Bool} {r : Reach} {b0 : Nat} {v2 v3 : Value} {d0 d1 d2 d3 d4 : DataW H} {ps2 ps3 : List MemPlace} (seed : Nat) (size most : Int) (W : World) (hd : Dw.Holds W)
    (hs : seed < 18446744073709551616) (_ : -9223372036854775808 ≤ size) (_ : size ≤ 9223372036854775807)
    (hval2 : Value.okWide Tryd.prog W r b0 23 v2) (h2 : DataW.Trod enc Tryd.prog W base sp held 23 v2 d2 ps2)
    (hval3 : Value.okWide Tryd.prog W r b0 24 v3) (h3 : DataW.Trod enc Tryd.prog W base sp held 24 v3 d3 ps3)
    (_ : -9223372036854775808 ≤ most) (_ : most ≤ 9223372036854775807)
    (hsz : (DataW.weightsEach Tryd.prog [22, 3, 23, 24, 3] [d0, d1, d2, d3, d4]).all (· ≤ reachBytes) = true) :
    Calls Tryd.prog 3 #[.int .u64 (seed : Int), .int .i64 size, v2, v3, .int .i64 most] W fun e w' => e = .returned (.bool true) ∧ Below W.heap.size W w' := by
  obtain ⟨bo, n, cb, f, rfl, hK, _, hb⟩ := open_list hval2 h2
  obtain ⟨co, nr, cc, R, rfl, hR⟩ := open_rawS hval3 h3
  have hn := list_sized (j := 2) hsz rfl rfl hb
  obtain ⟨K, hKK⟩ : ∃ K, K = (List.range n).map f := ⟨_, rfl⟩
  have hl : K.length = n := by rw [hKK]; simp
  have hK2 : RdA W bo 1 K.length cb (lF K) := by
    rw [hl]
    refine hK.congr (fun j hj => ?_)
    unfold lF
    congr 1
    rw [hKK, List.getD_eq_getElem?_getD]
    simp [show j < n by omega]
  have := exact_law (size := size) (most := most) hK2 (by rw [hl]; exact hn) hR hd hs works_any
  rwa [hl] at this
end Go.Proofs.YtknfddakpfkcfabDoor
