import Derived.Test.YtemmghneohnigaaDoorOwn
namespace Go.Proofs.YtemmghneohnigaaDoor
open Go.RowKit
/-! What calls may change. -/
/-- What a call may have changed among the blocks that were there: those of S alone. -/
structure Chg (w w' : World) (S : Nat → Prop) : Prop where
  low : Below 0 w w'
  block : ∀ b, b < w.heap.size → ¬ S b → w'.heap[b]? = w.heap[b]?
theorem Chg.size {w w' : World} {S : Nat → Prop} (h : Chg w w' S) : w.heap.size ≤ w'.heap.size := h.low.size
theorem Chg.trans {a b c : World} {S T : Nat → Prop} (h : Chg a b S) (k : Chg b c T) (hT : ∀ x, x < a.heap.size → T x → S x) : Chg a c S :=
  ⟨h.low.trans k.low, fun x hx hS => (k.block x (Nat.lt_of_lt_of_le hx h.low.size) (fun t => hS (hT x hx t))).trans (h.block x hx hS)⟩
theorem Chg.of_below {w w' : World} (S : Nat → Prop) (f : Below w.heap.size w w') : Chg w w' S := ⟨⟨f.os, f.tape, f.output, f.size, fun _ h => absurd h (by omega)⟩, fun b hb _ => f.block b hb⟩
theorem Chg.of_app {w w' : World} {v v' : Value} (h : App w w' v v') : Chg w w' (fun b => v.ownBlock = some b) := ⟨⟨h.grown.os, h.grown.tape, h.grown.output, h.grown.size, fun _ h => absurd h (by omega)⟩, fun b hb hS => h.grown.block b hb (fun e => hS e.symm)⟩
theorem Chg.of_set (w : World) (g j : Nat) (x : Value) : Chg w (w.setCell ⟨g, j, none⟩ x) (fun b => b = g) := ⟨(Below.refl 0 w).setCell (Nat.zero_le _) _, fun _ _ hS => Below.heap_setCell _ _ _ _ hS⟩
theorem Chg.refl (w : World) (S : Nat → Prop) : Chg w w S := Chg.of_below S (Below.refl _ _)
theorem Chg.imp {w w' : World} {S T : Nat → Prop} (h : Chg w w' S) (k : ∀ b, b < w.heap.size → S b → T b) : Chg w w' T := ⟨h.low, fun b hb hT => h.block b hb (fun s => hT (k b hb s))⟩
theorem Chg.pre {a b c : World} {S : Nat → Prop} (f : Below a.heap.size a b) (h : Chg b c S) : Chg a c S := (Chg.of_below S f).trans h (fun _ _ t => t)
theorem Chg.post {a b c : World} {S : Nat → Prop} (h : Chg a b S) (f : Below b.heap.size b c) : Chg a c S := h.trans (Chg.of_below (fun _ => False) f) (fun _ _ t => t.elim)
theorem Chg.row {w w' : World} {S : Nat → Prop} (h : Chg w w' S) {b n : Nat} {t : TypeId} {F : Nat → Value} (hr : w.rowIs b t n F) (hb : ¬ S b) : w'.rowIs b t n F := hr.of_block (h.block b hr.lt hb)
theorem Chg.below {w w' : World} {S : Nat → Prop} (h : Chg w w' S) {B : Nat} {a : World} (hb : Below B a w) (hB : B ≤ w.heap.size) (hS : ∀ x, S x → B ≤ x) : Below B a w' :=
  hb.trans ⟨h.low.os, h.low.tape, h.low.output, h.low.size, fun k hk => h.block k (by omega) (fun s => by have := hS k s; omega)⟩
/-- 'Own' is kept where the list's block is. -/
theorem Own.chg {w w' : World} {S : Nat → Prop} (c : Chg w w' S) {base : Nat} {e : TypeId} {sz : Nat} {v : Value} {n : Nat} {cs : Nat → Value} (h : Own w base e sz v n cs) (hS : ∀ b, v.ownBlock = some b → ¬ S b) : Own w' base e sz v n cs := by
  refine ⟨h.1, ?_⟩
  rcases h.2 with hn | ⟨g, cap, cur, rfl, hb, hgg, rest⟩
  · exact .inl hn
  · refine .inr ⟨g, cap, cur, rfl, hb, ?_, rest⟩
    rw [c.block g (Array.getElem?_eq_some_iff.1 hgg).1 (hS g (by simp [Value.ownBlock]))]; exact hgg
end Go.Proofs.YtemmghneohnigaaDoor
