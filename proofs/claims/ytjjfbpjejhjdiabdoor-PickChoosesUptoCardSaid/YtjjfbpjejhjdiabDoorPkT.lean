import Derived.Test.YtjjfbpjejhjdiabDoorPkL
import Derived.WalkKit
import Derived.ProofKit
import Derived.OpenShut
import Derived.LaidLaws
import Derived.Lib.LaidTab
import Derived.Deep.Matrix
import Derived.Deep.Grids
namespace Go.Proofs.YtjjfbpjejhjdiabDoor
open Go.ChangeShapes Go.WideShapes Go.ChangeAt Go.RowKit Go.Deep
/-! What came in: the two tables, lists of numbers and of truths. -/
section
variable {H : Type} {enc : TypeId × Value → H} {P : Program} {w : World} {base : Nat} {sp : Nat → Bool} {held : Bool}
theorem pair_cells {t : TypeId} {f0 f1 : Field} {k0 k1 : IntKind} {fuel : Nat} {cs : List Value} {x : DataW H × List MemPlace} {a b : Int} (ht : P.underlying t = some (.struct #[f0, f1]))
    (h0 : P.underlying f0.type = some (.int k0)) (o0 : f0.offset = 0) (c0 : P.cellsOf f0.type = 1) (h1 : P.underlying f1.type = some (.int k1)) (o1 : f1.offset = 1) (c1 : P.cellsOf f1.type = 1) (hc : P.cellsOf t = 2)
    (h : DataW.trod enc P w base sp held fuel t cs = some x) (hx : x.1 = .agg [.lit (.int k0 a), .lit (.int k1 b)]) : cs = [.int k0 a, .int k1 b] := by
  obtain ⟨xs, n, _, rfl, hl, hlen, hf⟩ := DataW.trod_struct ht h
  have e0 := hf 0 f0 rfl
  have e1 := hf 1 f1 rfl
  rw [o0, c0] at e0
  rw [o1, c1] at e1
  rw [hc] at hl
  match cs, hl with
  | [v0, v1], _ =>
    match xs, hlen with
    | [y0, y1], _ =>
      simp only [List.map_cons, List.map_nil, DataW.agg.injEq, List.cons.injEq, and_true] at hx
      obtain ⟨z0, q0, r0, _⟩ := DataW.trod_int h0 e0
      obtain ⟨z1, q1, r1, _⟩ := DataW.trod_int h1 e1
      rw [r0, r1] at hx
      simp only [DataW.lit.injEq, Lit.int.injEq, true_and] at hx
      simp at q0 q1
      rw [q0, q1, hx.1, hx.2]
end
theorem three {α : Type} {l : List α} (h : l.length = 3) : ∃ a b c, l = [a, b, c] :=
  match l, h with
  | [a, b, c], _ => ⟨a, b, c, rfl⟩
theorem six {α : Type} {l : List α} (h : l.length = 6) : ∃ a b c d e f, l = [a, b, c, d, e, f] :=
  match l, h with
  | [a, b, c, d, e, f], _ => ⟨a, b, c, d, e, f, rfl⟩
theorem gD : Tryd.prog.globalNamed "augur/draw.rounds" = some 0 := by kernel_rfl
theorem gDType : (Tryd.prog.globals[0]?).map (·.type) = some 89 := by kernel_rfl
theorem cellsDArr : Tryd.prog.cellsOf 89 = 6 := by kernel_rfl
theorem cellsDElem : Tryd.prog.cellsOf 88 = 2 := by kernel_rfl
theorem cellsDInt : Tryd.prog.cellsOf 3 = 1 := by kernel_rfl
theorem cellsDWord : Tryd.prog.cellsOf 22 = 1 := by kernel_rfl
theorem gF : Tryd.prog.globalNamed "augur/fix.expTerms" = some 1 := by kernel_rfl
theorem gFType : (Tryd.prog.globals[1]?).map (·.type) = some 100 := by kernel_rfl
theorem cellsFArr : Tryd.prog.cellsOf 100 = 5 := by kernel_rfl
theorem cellsFElem : Tryd.prog.cellsOf 2 = 1 := by kernel_rfl
theorem cellsFB : Tryd.prog.cellsOf 4 = 1 := by kernel_rfl
theorem var_block {W : World} {name : String} {g : Nat} {cs tb : Array Value} (hg : Tryd.prog.globalNamed name = some g) (hvar : W.var? Tryd.prog name = some cs) (hc : cs = tb) : ∃ t fr, W.heap[g]? = some (.cells tb t fr) := by
  subst hc
  unfold World.var? at hvar
  rw [hg] at hvar
  simp only [Option.bind_some] at hvar
  split at hvar
  · rename_i cs' t fr hc
    exact ⟨t, fr, by rw [hc, Option.some.inj hvar]⟩
  · cases hvar
set_option maxRecDepth 100000 in
theorem holds_both {W : World} (h : laidMet Tryd.prog [("augur/draw.rounds", Rows.laid_augur_draw_rounds), ("augur/fix.expTerms", Rows.laid_augur_fix_expTerms)] W) : Holds W ∧ Dw.Holds W := by
  obtain ⟨ps, ⟨g, t, cs, fuel, p, q, hg, ht, hvar, hd, ⟨g', t', cs', fuel', p', q', hg', ht', hvar', hd', _, _⟩, _⟩, _⟩ := h
  obtain rfl := Option.some.inj (gD.symm.trans hg)
  obtain rfl := Option.some.inj (gDType.symm.trans ht)
  obtain rfl := Option.some.inj (gF.symm.trans hg')
  obtain rfl := Option.some.inj (gFType.symm.trans ht')
  constructor
  · have e := Lib.cells_of_tab (k := .i64) (zs := [35472643, -175978408, 536691957, -1073764153, 1073741824]) Tryd.underlying100 Tryd.underlying2 cellsFElem cellsFArr hd'
    exact var_block gF hvar' (Array.ext' (by rw [e]; rfl))
  · obtain ⟨xs, m, rfl, hx, hl, hn, hf⟩ := DataW.trod_array Tryd.underlying89 hd
    obtain ⟨x0, x1, x2, rfl⟩ := three hn
    rw [cellsDArr] at hl
    obtain ⟨c0, c1, c2, c3, c4, c5, hcs⟩ := six hl
    have e0 := hf 0 (by omega)
    have e1 := hf 1 (by omega)
    have e2 := hf 2 (by omega)
    rw [cellsDElem, hcs] at e0 e1 e2
    have hx1 := congrArg Prod.fst hx
    simp only [Rows.laid_augur_draw_rounds, List.map_cons, List.map_nil, DataW.agg.injEq, List.cons.injEq, and_true] at hx1
    have q0 := pair_cells Tryd.underlying88 Tryd.underlying3 rfl cellsDInt Tryd.underlying22 rfl cellsDWord cellsDElem e0 hx1.1.symm
    have q1 := pair_cells Tryd.underlying88 Tryd.underlying3 rfl cellsDInt Tryd.underlying22 rfl cellsDWord cellsDElem e1 hx1.2.1.symm
    have q2 := pair_cells Tryd.underlying88 Tryd.underlying3 rfl cellsDInt Tryd.underlying22 rfl cellsDWord cellsDElem e2 hx1.2.2.symm
    simp at q0 q1 q2
    exact var_block gD hvar (Array.ext' (by rw [hcs, q0.1, q0.2, q1.1, q1.2, q2.1, q2.2]; rfl))
theorem bulk_one {H : Type} (d : DataW H) : 1 ≤ Rows.uptoBulk d := by
  cases d with
  | lit l => cases l <;> simp [Rows.uptoBulk]
  | nil => simp [Rows.uptoBulk]
  | ptr d => simp [Rows.uptoBulk]
  | slice a b => simp [Rows.uptoBulk]
  | agg a => simp [Rows.uptoBulk]
  | iface t d => simp [Rows.uptoBulk]
  | map e => simp [Rows.uptoBulk]
  | held h => simp [Rows.uptoBulk]
theorem bulk_mem {H : Type} {d : DataW H} : ∀ {l : List (DataW H)}, d ∈ l → Rows.uptoBulk d ≤ Rows.uptoBulkAll l
  | [], h => absurd h (by simp)
  | x :: r, h => by
    simp only [Rows.uptoBulkAll]
    rcases List.mem_cons.1 h with e | e
    · subst e; omega
    · have := bulk_mem e; omega
theorem bulk_length {H : Type} : ∀ (l : List (DataW H)), l.length ≤ Rows.uptoBulkAll l
  | [] => by simp [Rows.uptoBulkAll]
  | x :: r => by
    have h1 := bulk_one x
    have h2 := bulk_length r
    simp only [Rows.uptoBulkAll, List.length_cons]; omega
theorem bulk_row {H : Type} {d : DataW H} {n : Nat} (h : (d = .nil ∧ n = 0) ∨ ∃ el rest, d = .slice el rest ∧ el.length = n) : n ≤ Rows.uptoBulk d := by
  rcases h with ⟨_, e⟩ | ⟨el, rest, rfl, e⟩
  · omega
  · have := bulk_length el
    simp only [Rows.uptoBulk]; omega
theorem add_lit (b off j : Nat) : (⟨b, off, none⟩ : Addr).add j = ⟨b, off + j, none⟩ := by unfold Addr.add; split <;> simp_all
theorem plain_addr {w : World} {a : Addr} {v : Value} (h : w.cell? (a.add 0) = some v) : ∃ b off, a = ⟨b, off, none⟩ := by
  obtain ⟨b, off, sp⟩ := a
  cases sp with
  | none => exact ⟨b, off, rfl⟩
  | some x =>
    have e : (⟨b, off, some x⟩ : Addr).add 0 = ⟨b, off, some x⟩ := by unfold Addr.add; simp
    rw [e] at h
    unfold World.cell? at h
    split at h <;> simp at h
theorem wf_i64 {n : Int} (h : (Lit.int .i64 n).wf = true) : -9223372036854775808 ≤ n ∧ n ≤ 9223372036854775807 := by
  have hmin : IntKind.i64.min = -9223372036854775808 := rfl
  have hmax : IntKind.i64.max = 9223372036854775807 := rfl
  simp only [Lit.wf, Bool.and_eq_true, decide_eq_true_eq] at h; omega
section
variable {H : Type} {enc : TypeId × Value → H} {P : Program} {w : World} {base : Nat} {sp : Nat → Bool} {held : Bool}
theorem open_row {t e : TypeId} {k : IntKind} {fuel : Nat} {v : Value} {x : DataW H × List MemPlace} (ht : P.underlying t = some (.slice e)) (he : P.underlying e = some (.int k)) (hc : P.cellsOf e = 1)
    (h : DataW.trod enc P w base sp held fuel t [v] = some x) :
    ∃ (ao : Option Addr) (n cap : Nat) (f : Nat → Int), v = .slice ao n cap ∧ RdA w ao 1 n cap (fun i => .int k (f i)) ∧ (∀ i, i < n → (Lit.int k (f i)).wf = true) ∧ ((x.1 = .nil ∧ n = 0) ∨ ∃ el rest, x.1 = .slice el rest ∧ el.length = n) := by
  rcases open_ints ht he hc h with ⟨hcs, hx⟩ | ⟨a, len, cap, zs, hcs, _, hl, hm, hz, hx, hcell, hwz⟩
  · simp at hcs
    exact ⟨none, 0, 0, fun _ => 0, hcs, ⟨Nat.le_refl _, Nat.zero_le _, fun h => absurd h (by omega)⟩, fun i hi => absurd hi (by omega), .inl ⟨by rw [hx], rfl⟩⟩
  · simp at hcs
    have hlz : len ≤ zs.length := by rw [hz]; split <;> omega
    refine ⟨some a, len, cap, fun i => zs.getD i 0, hcs, ⟨hl, hm, fun h0 => ?_⟩, fun i hi => ?_, .inr ⟨_, _, by rw [hx], ?_⟩⟩
    · have h1 := hcell 0 (by omega)
      obtain ⟨b, off, rfl⟩ := plain_addr h1
      exact ⟨b, off, rfl, fun j hj => by have := hcell j (by omega); rwa [add_lit] at this⟩
    · apply hwz
      dsimp only
      rw [List.getD_eq_getElem?_getD, List.getElem?_eq_getElem (by omega)]
      exact List.getElem_mem _
    · simp [lits]; omega
end

set_option maxRecDepth 100000 in
theorem open_wide {H : Type} {enc : TypeId × Value → H} {W : World} {base : Nat} {sp : Nat → Bool} {held : Bool} {r : Reach} {b0 : Nat} {v0 : Value} {d0 : DataW H} {ps0 : List MemPlace}
    (hval0 : Value.okWide Tryd.prog W r b0 25 v0) (h0 : DataW.Trod enc Tryd.prog W base sp held 25 v0 d0 ps0) (hb : Rows.uptoBulk d0 ≤ 1048576) :
    ∃ (ao : Option Addr) (n cap : Nat) (f : Nat → Int), v0 = .slice ao n cap ∧ RdA W ao 1 n cap (fun i => .int .i64 (f i)) ∧ (∀ i, i < n → -9223372036854775808 ≤ f i ∧ f i ≤ 9223372036854775807) ∧ n ≤ 1048576 := by
  obtain ⟨a2, l2, c2, rfl⟩ := okWide_slice Tryd.underlying25 hval0
  obtain ⟨fuel, h1⟩ := h0
  have h1 : DataW.trod enc Tryd.prog W base sp held fuel 25 [.slice a2 l2 c2] = some (d0, ps0) := h1
  obtain ⟨ao, n, cap, f, e, hr, hw, hs⟩ := open_row Tryd.underlying25 Tryd.underlying2 cellsFElem h1
  exact ⟨ao, n, cap, f, e, hr, fun i hi => wf_i64 (hw i hi), Nat.le_trans (bulk_row hs) hb⟩
set_option maxRecDepth 100000 in
theorem open_intl {H : Type} {enc : TypeId × Value → H} {W : World} {base : Nat} {sp : Nat → Bool} {held : Bool} {r : Reach} {b0 : Nat} {v0 : Value} {d0 : DataW H} {ps0 : List MemPlace}
    (hval0 : Value.okWide Tryd.prog W r b0 26 v0) (h0 : DataW.Trod enc Tryd.prog W base sp held 26 v0 d0 ps0) (hb : Rows.uptoBulk d0 ≤ 1048576) :
    ∃ (ao : Option Addr) (n cap : Nat) (f : Nat → Int), v0 = .slice ao n cap ∧ RdA W ao 1 n cap (fun i => .int .i64 (f i)) ∧ n ≤ 1048576 := by
  obtain ⟨a2, l2, c2, rfl⟩ := okWide_slice Tryd.underlying26 hval0
  obtain ⟨fuel, h1⟩ := h0
  have h1 : DataW.trod enc Tryd.prog W base sp held fuel 26 [.slice a2 l2 c2] = some (d0, ps0) := h1
  obtain ⟨ao, n, cap, f, e, hr, hw, hs⟩ := open_row Tryd.underlying26 Tryd.underlying3 cellsDInt h1
  exact ⟨ao, n, cap, f, e, hr, Nat.le_trans (bulk_row hs) hb⟩
set_option maxRecDepth 100000 in
theorem open_booll {H : Type} {enc : TypeId × Value → H} {W : World} {base : Nat} {held : Bool} {r : Reach} {b0 : Nat} {v0 : Value} {d0 : DataW H} {ps0 : List MemPlace}
    (hval0 : Value.okWide Tryd.prog W r b0 27 v0) (h0 : DataW.Trod enc Tryd.prog W base (fun _ => true) held 27 v0 d0 ps0) (hb : Rows.uptoBulk d0 ≤ 1048576) :
    ∃ (ao : Option Addr) (n cap : Nat) (f : Nat → Bool), v0 = .slice ao n cap ∧ RdA W ao 1 n cap (fun i => .bool (f i)) ∧ n ≤ 1048576 := by
  obtain ⟨a2, l2, c2, rfl⟩ := okWide_slice Tryd.underlying27 hval0
  obtain ⟨fuel, h1⟩ := h0
  have h1 : DataW.trod enc Tryd.prog W base (fun _ => true) held fuel 27 [.slice a2 l2 c2] = some (d0, ps0) := h1
  rcases open_bools Tryd.underlying27 Tryd.underlying4 cellsFB h1 with ⟨hcs, hx⟩ | ⟨a, len, cap, B, hcs, _, hl, hm, hx, hcell⟩
  · simp at hcs
    obtain ⟨rfl, rfl, rfl⟩ := hcs
    exact ⟨none, 0, 0, fun _ => true, rfl, ⟨Nat.le_refl _, Nat.zero_le _, fun h => absurd h (by omega)⟩, by omega⟩
  · simp at hcs
    obtain ⟨rfl, rfl, rfl⟩ := hcs
    refine ⟨_, _, _, B, rfl, ⟨hl, hm, fun h0 => ?_⟩, ?_⟩
    · have h1 := hcell 0 (by omega)
      obtain ⟨b, off, rfl⟩ := plain_addr h1
      exact ⟨b, off, rfl, fun j hj => by have := hcell j (by omega); rwa [add_lit] at this⟩
    · refine Nat.le_trans (bulk_row (d := d0) (.inr ?_)) hb
      have hx1 : d0 = _ := congrArg Prod.fst hx
      exact ⟨_, _, hx1, by simp⟩
end Go.Proofs.YtjjfbpjejhjdiabDoor
