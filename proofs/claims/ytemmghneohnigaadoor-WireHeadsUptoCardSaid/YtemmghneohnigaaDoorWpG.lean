import Derived.Test.YtemmghneohnigaaDoorWpF
import Derived.Lib.AppendStr
import Derived.Laws.IdiomCopy
namespace Go.Proofs.YtemmghneohnigaaDoor
open Go.RowKit
/-! A list of bytes that is only grown. -/
def TxG (w : World) (base : Nat) (v : Value) (l : List Int) : Prop := ∃ g cap, v = .slice (some ⟨g, 0, none⟩) l.length cap ∧ base ≤ g ∧ g < w.heap.size ∧ l.length ≤ cap ∧ cap ≤ maxLen ∧ w.there g 0 cap ∧ w.rangeAt g 0 (l.map fun x => Value.int .u8 x)
theorem wpList_append_any {P : Program} {w : World} {ops : Array Oper} {rest : List Oper} {o : Oper} {a : Act} {Q : Exit → Act → World → Prop} (hg : o.guard = none) (s x : Operand) (t u : TypeId)
    (hop : o.op = Op.call { callee := Callee.builtin Builtin.append, args := #[s, x], argTypes := #[t, u] }) (v y : Value) (hs : a.eval s = v) (hx : a.eval x = y) (v' : Value) (w' : World)
    (hr : (Builtin.append_ #[t, u] o.type #[v, y]).run P w = .ok v' w') (h : wpList P ops Q rest (a.put o.dst v') w') : wpList P ops Q (o :: rest) a w := by
  refine wpList_plain hg fun K hK => ?_
  unfold Oper.wp execOp
  simp only [hop, resolve, invoke, builtin, Sem.run_bind, Sem.run_pure, Result.andThen_ok, List.map_toArray, List.map_cons, List.map_nil, hs, hx, hr]
  exact hK _ _ h
theorem strCells_nums {s : List Int} (h : Byt s) : Lib.strCells (strOfNums s) = s.map fun x => Value.int .u8 x := by
  unfold Lib.strCells
  rw [strOfNums_data, List.map_map]
  refine List.map_congr_left (fun x hx => ?_)
  have := h x hx
  simp only [Function.comp, UInt8.toNat_ofNat']
  congr 1
  omega
theorem range_app {w : World} {b o : Nat} {x y : List Value} (h1 : w.rangeAt b o x) (h2 : w.rangeAt b (o + x.length) y) : w.rangeAt b o (x ++ y) := fun j v hj => by
  by_cases hlt : j < x.length
  · rw [List.getElem?_append_left hlt] at hj
    exact h1 j v hj
  · rw [List.getElem?_append_right (by omega)] at hj
    have := h2 (j - x.length) v hj
    rwa [show o + x.length + (j - x.length) = o + j by omega] at this
theorem chg_setCells (w : World) (g o : Nat) (vs : List Value) : Chg w (w.setCells g o vs) (fun b => b = g) := by
  induction vs generalizing o w with
  | nil => exact Chg.refl w _
  | cons v r ih => exact (Chg.of_set w g o v).trans (ih _ (o + 1)) (fun _ _ t => t)
/-- what is written behind the elements of a list with room -/
theorem TxG.room {w : World} {base g cap : Nat} {l s : List Int} (hb : base ≤ g) (hg : g < w.heap.size) (hcm : cap ≤ maxLen) (ht : w.there g 0 cap) (hr : w.rangeAt g 0 (l.map fun x => Value.int .u8 x)) (hroom : l.length + s.length ≤ cap) :
    TxG (w.setCells g l.length (s.map fun x => Value.int .u8 x)) base (.slice (some ⟨g, 0, none⟩) (l.length + s.length) cap) (l ++ s) := by
  have hth : w.there g l.length (s.map fun x => Value.int .u8 x).length := fun j hj => by
    rw [List.length_map] at hj
    have := ht (l.length + j) (by omega)
    rwa [Nat.zero_add] at this
  refine ⟨g, cap, by rw [List.length_append], hb, Nat.lt_of_lt_of_le hg (chg_setCells _ _ _ _).size, by rw [List.length_append]; exact hroom, hcm, World.there_setCells ht _ _ _, ?_⟩
  rw [List.map_append]
  refine range_app (World.rangeAt_setCells_apart hr _ _ _ (.inr (.inl (by simp)))) ?_
  rw [List.length_map, Nat.zero_add]
  exact World.rangeAt_setCells_same w g l.length _ hth
theorem u8one {s : List Int} : ∀ v ∈ (s.map fun x => Value.int .u8 x), v.oneCell' = true := fun v hv => by
  obtain ⟨x, _, rfl⟩ := List.mem_map.1 hv
  rfl
end Go.Proofs.YtemmghneohnigaaDoor
