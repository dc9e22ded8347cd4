import Derived.Test.YtbpldnlafilbbaaOwn
import Derived.Lib.LazyBuf
import Derived.Lib.SliceRun
import Derived.Laws.IdiomCopy
import Derived.Deep.RegionLaw
namespace Go.Proofs.Ytbpldnlafilbbaa
open Go.RowKit
/-! The pool in memory: its block, its counts, its numbers; what calls may change; copy and clear on rows. -/
/-- What a call may have changed among the blocks that were there: those of S alone. -/
structure Chg (w w' : World) (S : Nat → Prop) : Prop where
  low : Below 0 w w'
  block : ∀ b, b < w.heap.size → ¬ S b → w'.heap[b]? = w.heap[b]?
theorem Chg.size {w w' : World} {S : Nat → Prop} (h : Chg w w' S) : w.heap.size ≤ w'.heap.size := h.low.size
theorem Chg.trans {a b c : World} {S T : Nat → Prop} (h : Chg a b S) (k : Chg b c T) (hT : ∀ x, x < a.heap.size → T x → S x) : Chg a c S :=
  ⟨h.low.trans k.low, fun x hx hS => (k.block x (Nat.lt_of_lt_of_le hx h.low.size) (fun t => hS (hT x hx t))).trans (h.block x hx hS)⟩
theorem Chg.of_below {w w' : World} (S : Nat → Prop) (f : Below w.heap.size w w') : Chg w w' S := ⟨⟨f.os, f.tape, f.output, f.size, fun _ h => absurd h (by omega)⟩, fun b hb _ => f.block b hb⟩
theorem Chg.of_app {w w' : World} {v v' : Value} (h : App w w' v v') : Chg w w' (fun b => v.ownBlock = some b) := ⟨⟨h.grown.os, h.grown.tape, h.grown.output, h.grown.size, fun _ h => absurd h (by omega)⟩, fun b hb hS => h.grown.block b hb (fun e => hS e.symm)⟩
theorem Chg.of_set (w : World) (g j : Nat) (x : Value) : Chg w (w.setCell ⟨g, j, none⟩ x) (fun b => b = g) := ⟨(Below.refl 0 w).setCell (Nat.zero_le _) _, fun _ _ hS => Below.heap_setCell _ _ _ _ hS⟩
theorem Chg.refl (w : World) (S : Nat → Prop) : Chg w w S := Chg.of_below S (Below.refl _ _)
theorem Chg.imp {w w' : World} {S T : Nat → Prop} (h : Chg w w' S) (k : ∀ b, b < w.heap.size → S b → T b) : Chg w w' T := ⟨h.low, fun b hb hT => h.block b hb (fun s => hT (k b hb s))⟩
theorem Chg.pre {a b c : World} {S : Nat → Prop} (f : Below a.heap.size a b) (h : Chg b c S) : Chg a c S := (Chg.of_below S f).trans h (fun _ _ t => t)
theorem Chg.post {a b c : World} {S : Nat → Prop} (h : Chg a b S) (f : Below b.heap.size b c) : Chg a c S := h.trans (Chg.of_below (fun _ => False) f) (fun _ _ t => t.elim)
theorem Chg.row {w w' : World} {S : Nat → Prop} (h : Chg w w' S) {b n : Nat} {t : TypeId} {F : Nat → Value} (hr : w.rowIs b t n F) (hb : ¬ S b) : w'.rowIs b t n F := hr.of_block (h.block b hr.lt hb)
theorem Chg.of_setCells (g : Nat) : ∀ (vs : List Value) (o : Nat) (w : World), Chg w (w.setCells g o vs) (fun b => b = g)
  | [], _, w => Chg.refl w _
  | v :: r, o, w => (Chg.of_set w g o v).trans (Chg.of_setCells g r (o + 1) _) (fun _ _ t => t)
theorem Chg.below {w w' : World} {S : Nat → Prop} (h : Chg w w' S) {B : Nat} {a : World} (hb : Below B a w) (hB : B ≤ w.heap.size) (hS : ∀ x, S x → B ≤ x) : Below B a w' :=
  hb.trans ⟨h.low.os, h.low.tape, h.low.output, h.low.size, fun k hk => h.block k (by omega) (fun s => by have := hS k s; omega)⟩
/-- 'Own' is kept where the list's block is. -/
theorem Own.chg {w w' : World} {S : Nat → Prop} (c : Chg w w' S) {base : Nat} {e : TypeId} {sz : Nat} {v : Value} {n : Nat} {cs : Nat → Value} (h : Own w base e sz v n cs) (hS : ∀ b, v.ownBlock = some b → ¬ S b) : Own w' base e sz v n cs := by
  refine ⟨h.1, ?_⟩
  rcases h.2 with hn | ⟨g, cap, cur, rfl, hb, hgg, rest⟩
  · exact .inl hn
  · refine .inr ⟨g, cap, cur, rfl, hb, ?_, rest⟩
    rw [c.block g (Array.getElem?_eq_some_iff.1 hgg).1 (hS g (by simp [Value.ownBlock]))]; exact hgg
/-- 'copy' onto a row. -/
theorem setCells_cells {w : World} {g : Nat} {t : TypeId} {n : Nat} {f : Nat → Value} (hr : w.rowIs g t n f) (off k : Nat) (v : Nat → Value) :
    (w.setCells g off ((List.range k).map v)).rowIs g t n (fun j => if off ≤ j ∧ j < off + k then v (j - off) else f j) :=
  (rowIs_setCells ((List.range k).map v) off w f hr).congr (fun j _ => by
    by_cases h : off ≤ j ∧ j < off + k
    · have : j - off < k := by omega
      simp [h, this]
    · simp [h])
theorem copy_run {P : Program} {w : World} (dT sT ty elem : TypeId) (hu : P.underlying dT = some (.slice elem)) (hsz : (P.info? elem).map (·.size) = some 1)
    {g off dLen dCap sb so sLen sCap k : Nat} (hk : k = Nat.min sLen dLen) {t : TypeId} {n : Nat} {f : Nat → Value} (hr : w.rowIs g t n f) (hfit : off + k ≤ n) (v : Nat → Value) (hv : ∀ j, j < k → w.cell? ⟨sb, so + j, none⟩ = some (v j)) (h1 : ∀ j, j < k → (v j).oneCell' = true) :
    (Builtin.copy_ #[dT, sT] ty #[.slice (some ⟨g, off, none⟩) dLen dCap, .slice (some ⟨sb, so, none⟩) sLen sCap]).run P w = .ok (goInt k) (w.setCells g off ((List.range k).map v)) := by
  have := run_copy_cells (P := P) w dT sT ty elem g off dLen dCap ⟨sb, so, none⟩ sLen sCap ((List.range k).map v) hu hsz (by simpa using hk)
    (fun j u hj => by
      by_cases hjk : j < k
      · simp [hjk] at hj
        have e : (⟨sb, so, none⟩ : Addr).add j = ⟨sb, so + j, none⟩ := by unfold Addr.add; split <;> simp_all
        rw [e, hv j hjk, hj]
      · simp [hjk] at hj)
    (fun j hj => by simp at hj; rw [hr.cell (by omega)]; rfl) (fun j _ => hr.frozen _) (fun u hu => by
      obtain ⟨j, hj, rfl⟩ := List.mem_map.1 hu
      exact h1 j (List.mem_range.1 hj))
  simpa using this
theorem wpList_copyR {P : Program} {w : World} {ops : Array Oper} {rest : List Oper} {o : Oper} {a : Act} {Q : Exit → Act → World → Prop} (hgd : o.guard = none) (d s : Operand) (dT sT : TypeId)
    (ho : o.op = .call { callee := .builtin .copy, args := #[d, s], argTypes := #[dT, sT] }) (elem : TypeId) (hu : P.underlying dT = some (.slice elem)) (hsz : (P.info? elem).map (·.size) = some 1)
    (g off dLen dCap sb so sLen sCap k : Nat) (hd : a.eval d = .slice (some ⟨g, off, none⟩) dLen dCap) (hs : a.eval s = .slice (some ⟨sb, so, none⟩) sLen sCap) (hk : k = Nat.min sLen dLen)
    (t : TypeId) (n : Nat) (f : Nat → Value) (hr : w.rowIs g t n f) (hfit : off + k ≤ n) (v : Nat → Value) (hv : ∀ j, j < k → w.cell? ⟨sb, so + j, none⟩ = some (v j)) (h1 : ∀ j, j < k → (v j).oneCell' = true)
    (h : ∀ w', w'.rowIs g t n (fun j => if off ≤ j ∧ j < off + k then v (j - off) else f j) → Chg w w' (fun b => b = g) → wpList P ops Q rest (a.put o.dst (goInt k)) w') : wpList P ops Q (o :: rest) a w := by
  refine wpList_plain hgd fun K hK => ?_
  have hrun := copy_run (P := P) (w := w) dT sT o.type elem hu hsz (dCap := dCap) (sCap := sCap) hk hr hfit v hv h1
  unfold Oper.wp
  simp [execOp, ho, resolve, invoke, builtin, hd, hs, hrun, Result.andThen]
  exact hK _ _ (h _ (setCells_cells hr off k v) (Chg.of_setCells g _ _ _))
theorem step_copyR {P : Program} {ops : Array Oper} {o : Oper} {a : Act} {w : World} {K : Act → World → Prop} {Q : Exit → Act → World → Prop} {E : Prop} (hgd : o.guard = none) (d s : Operand) (dT sT : TypeId)
    (ho : o.op = .call { callee := .builtin .copy, args := #[d, s], argTypes := #[dT, sT] }) (elem : TypeId) (hu : P.underlying dT = some (.slice elem)) (hsz : (P.info? elem).map (·.size) = some 1)
    (g off dLen dCap sb so sLen sCap k : Nat) (hd : a.eval d = .slice (some ⟨g, off, none⟩) dLen dCap) (hs : a.eval s = .slice (some ⟨sb, so, none⟩) sLen sCap) (hk : k = Nat.min sLen dLen)
    (t : TypeId) (n : Nat) (f : Nat → Value) (hr : w.rowIs g t n f) (hfit : off + k ≤ n) (v : Nat → Value) (hv : ∀ j, j < k → w.cell? ⟨sb, so + j, none⟩ = some (v j)) (h1 : ∀ j, j < k → (v j).oneCell' = true)
    (h : ∀ w', w'.rowIs g t n (fun j => if off ≤ j ∧ j < off + k then v (j - off) else f j) → Chg w w' (fun b => b = g) → K (a.put o.dst (goInt k)) w') :
    if Region.wanted o (yielded ops a.tmps) = true then Oper.wp P o a w K Q else E := by
  have hw : Region.wanted o (yielded ops a.tmps) = true := by simp [Region.wanted, hgd]
  rw [if_pos hw]
  have hrun := copy_run (P := P) (w := w) dT sT o.type elem hu hsz (dCap := dCap) (sCap := sCap) hk hr hfit v hv h1
  unfold Oper.wp
  simp [execOp, ho, resolve, invoke, builtin, hd, hs, hrun, Result.andThen]
  exact h _ (setCells_cells hr off k v) (Chg.of_setCells g _ _ _)
/-- 'clear' of a piece of a row. -/
theorem wpList_clearR {P : Program} {w : World} {ops : Array Oper} {rest : List Oper} {o : Oper} {a : Act} {Q : Exit → Act → World → Prop} (hgd : o.guard = none) (d : Operand) (dT : TypeId)
    (ho : o.op = .call { callee := .builtin .clear, args := #[d], argTypes := #[dT] }) (elem : TypeId) (hu : P.underlying dT = some (.slice elem)) (z : Value) (hz : ∀ w, (zeroValue elem).run P w = .ok z w) (hz1 : z.cells = #[z]) (hz2 : z.oneCell' = true)
    (g off k c : Nat) (hd : a.eval d = .slice (some ⟨g, off, none⟩) k c) (hk : 0 < k) (t : TypeId) (n : Nat) (f : Nat → Value) (hr : w.rowIs g t n f) (hfit : off + k ≤ n)
    (h : ∀ w', w'.rowIs g t n (fun j => if off ≤ j ∧ j < off + k then z else f j) → Chg w w' (fun b => b = g) → wpList P ops Q rest (a.put o.dst (.tuple #[])) w') : wpList P ops Q (o :: rest) a w := by
  refine wpList_plain hgd fun K hK => ?_
  have hrun := Lib.run_clear_slice (P := P) w dT elem o.type z hu hz hz1 hz2 g off k c hk (fun j hj => by rw [hr.cell (by omega)]; rfl) (fun j _ => hr.frozen _)
  unfold Oper.wp
  simp [execOp, ho, resolve, invoke, builtin, hd, hrun, Result.andThen]
  refine hK _ _ (h _ ?_ (Chg.of_setCells g _ _ _))
  refine (rowIs_setCells (List.replicate k z) off w f hr).congr (fun j _ => ?_)
  by_cases hj : off ≤ j ∧ j < off + k
  · have : j - off < k := by omega
    simp [hj, this]
  · simp [hj]
theorem Chg.cell {w w' : World} {T : Nat → Prop} (h : Chg w w' T) {b o : Nat} {v : Value} (hc : w.cell? ⟨b, o, none⟩ = some v) (hb : ¬ T b) : w'.cell? ⟨b, o, none⟩ = some v := by
  rw [← hc]; unfold World.cell?; rw [h.block b (lt_of_cell hc) hb]
end Go.Proofs.Ytbpldnlafilbbaa
