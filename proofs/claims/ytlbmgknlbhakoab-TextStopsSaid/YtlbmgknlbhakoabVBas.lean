import Derived.Test.YtlbmgknlbhakoabVAll
import Derived.Laws.Rows
namespace Go.Proofs.Ytlbmgknlbhakoab
open Go.RowKit Go.Shelf
attribute [local go_sem] Oper.semAt_some
/-! baseTokens. -/
/-- each byte's token, when the tokens below k are gone through -/
def VD.btk (d : VD) : Nat → Nat → Int
  | 0, _ => 0
  | k + 1, b => if 1 ≤ k ∧ k ≤ d.nb ∧ d.B (k - 1) = (b : Int) then (k : Int) else d.btk k b
theorem in_load_row {F : Fence} {n : Nat} {P : Program} {ops : Array Oper} {rest : List Oper} {o : Oper} {a : Act} {w : World} {Q : Exit → Act → World → Prop} (hgd : o.guard = none) (ty : TypeId) (x : Operand) (ho : o.op = .load ty x)
    (g : Nat) (hx : a.eval x = .pointer (some ⟨g, 0, none⟩)) (t : TypeId) (cs : Array Value) (fr : Nat × Nat) (d : TypeDesc) (hg : w.heap[g]? = some (.cells cs t fr))
    (hu : P.underlying ty = some d) (hd : (match d with | .struct _ | .array _ _ => true | _ => false) = true) (hi : (P.info? ty).map (·.size) = some cs.size)
    (h : wpListIn F n P ops Q rest (a.put o.dst (.agg cs)) w) : wpListIn F n P ops Q (o :: rest) a w := by
  refine wpListIn_plain hgd fun K hK => ?_
  unfold Oper.wpIn
  refine ⟨?_, ?_⟩
  · simp [Oper.about, ho]
  · rw [Oper.semAt_plain F _ _ (by rw [ho]; intro c hc'; cases hc')]
    simp only [execOp, ho, hx, Instr.loadAt, Instr.sureAddr, Sem.run_bind, Sem.run_pure, Result.andThen_ok, run_loadVar_row w g t ty cs fr d hg hu hd hi]
    exact hK _ _ h
theorem in_store_row {F : Fence} {n : Nat} {P : Program} {ops : Array Oper} {rest : List Oper} {o : Oper} {a : Act} {w : World} {Q : Exit → Act → World → Prop} (hgd : o.guard = none) (ty : TypeId) (x y : Operand) (ho : o.op = .store ty x y)
    (g : Nat) (cells : Array Value) (hx : a.eval x = .pointer (some ⟨g, 0, none⟩)) (hy : a.eval y = .agg cells)
    (t : TypeId) (old : Array Value) (hg : w.heap[g]? = some (.cells old t (0, 0))) (hi : (P.info? ty).map (·.size) = some cells.size)
    (hold : old.size = cells.size) (h1 : cells.all (·.oneCell') = true)
    (h : wpListIn F n P ops Q rest (a.put o.dst undef) (w.setRow g cells)) : wpListIn F n P ops Q (o :: rest) a w := by
  refine wpListIn_plain hgd fun K hK => ?_
  unfold Oper.wpIn
  refine ⟨?_, ?_⟩
  · simp [Oper.about, ho]
  · rw [Oper.semAt_plain F _ _ (by rw [ho]; intro c hc'; cases hc')]
    simp only [execOp, ho, hx, hy, Instr.storeAt, Instr.sureAddr, Sem.run_bind, Sem.run_pure, Result.andThen_ok, run_storeVar_row w g t ty old cells hg hi hold h1]
    exact hK _ _ h
theorem VD.btk_ge (d : VD) (b : Nat) : ∀ (j : Nat), d.btk (d.nb + 1 + j) b = d.btk (d.nb + 1) b
  | 0 => rfl
  | j + 1 => by
    rw [← VD.btk_ge d b j]
    show (if 1 ≤ d.nb + 1 + j ∧ d.nb + 1 + j ≤ d.nb ∧ _ then _ else _) = _
    rw [if_neg (by omega)]
    rfl
theorem cell_put {W : World} {l b o : Nat} {ob ob' : Obj} {v : Value} (hl : W.heap[l]? = some ob) (hc : ob.isCells = false) (h : W.cell? ⟨b, o, none⟩ = some v) : (W.putObj l ob').cell? ⟨b, o, none⟩ = some v :=
  cell_kept h (grownBy_putObj' _ _ _) (fun r e => by cases e; exact ⟨ob, hl, hc⟩)
theorem row_put {W : World} {l b n : Nat} {t : TypeId} {F : Nat → Value} {ob ob' : Obj} (hl : W.heap[l]? = some ob) (hc : ob.isCells = false) (h : W.rowIs b t n F) : (W.putObj l ob').rowIs b t n F := by
  refine h.of_block (put_other _ (fun e => ?_))
  subst e
  obtain ⟨c, hb, _⟩ := h
  rw [hb] at hl
  cases hl
  simp [Obj.isCells] at hc
theorem piece_put {W : World} {l base : Nat} {u : Value} {x : List Int} {ob ob' : Obj} (hl : W.heap[l]? = some ob) (hc : ob.isCells = false) (h : PieceAt W base u x) : PieceAt (W.putObj l ob') base u x := by
  obtain ⟨g, k, e, h1, h2, h3⟩ := h
  refine ⟨g, k, e, h1, h2, fun h0 => ?_⟩
  obtain ⟨b, e, hb, hlt, hcs⟩ := h3 h0
  exact ⟨b, e, hb, by simpa using hlt, fun j hj => cell_put hl hc (hcs j hj)⟩
theorem below_put {B l : Nat} {w W : World} {ob ob' : Obj} (hl : W.heap[l]? = some ob) (hB : B ≤ l) (h : Below B w W) : Below B w (W.putObj l ob') :=
  h.trans ((Below.refl B W).grown (grownBy_putObj' W l ob') (by have := (Array.getElem?_eq_some_iff.1 hl).1; omega) (fun k e => by cases e; omega))
theorem below_setRow' {B : Nat} {w W : World} (h : Below B w W) {g : Nat} (hg : B ≤ g) (hs : B ≤ W.heap.size) (cs : Array Value) : Below B w (W.setRow g cs) := by
  refine h.trans ?_
  refine (Below.refl B W).grown (row := some g) ⟨rfl, rfl, rfl, by simp [World.setRow], fun k _ hk => setRow_other _ _ _ _ (fun e => hk (by rw [e]))⟩ hs (fun k e => by cases e; exact hg)
end Go.Proofs.Ytlbmgknlbhakoab
