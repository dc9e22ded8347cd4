import Derived.Test.YtdceahebkohbjabScG
import Derived.Test.YtdceahebkohbjabNgO
import Derived.Laws.Tables
import Derived.Deep.WholeRow
namespace Go.Proofs.Ytdceahebkohbjab
open Go.RowKit
/-! The plan in memory; makeRoom. -/
theorem Own.apart {w : World} {base b m sz : Nat} {e u : TypeId} {v : Value} {n : Nat} {cs G : Nat → Value} (h : Own w base e sz v n cs) (k : w.rowIs b u m G) (hne : e ≠ u) : v.ownBlock ≠ some b := fun hb => by
  rcases h.2 with ⟨rfl, rfl⟩ | ⟨g, cap, cur, rfl, _, hg, _⟩
  · simp [Value.ownBlock] at hb
  · obtain rfl : g = b := by simpa [Value.ownBlock] using hb
    obtain ⟨d, hd, _, _⟩ := k
    rw [hg] at hd
    cases hd
    exact hne rfl
theorem Own.offT {w : World} {b1 b2 s1 s2 n1 n2 : Nat} {e1 e2 : TypeId} {v u : Value} {c1 c2 : Nat → Value} (h : Own w b1 e1 s1 v n1 c1) (k : Own w b2 e2 s2 u n2 c2) (hne : e1 ≠ e2) : Off v u := fun x hx hy => by
  rcases h.2 with ⟨rfl, rfl⟩ | ⟨g, cap, cur, rfl, _, hg, _⟩
  · simp [Value.ownBlock] at hx
  · rcases k.2 with ⟨rfl, rfl⟩ | ⟨g', cap', cur', rfl, _, hg', _⟩
    · simp [Value.ownBlock] at hy
    · obtain rfl : g = x := by simpa [Value.ownBlock] using hx
      obtain rfl : g' = g := by simpa [Value.ownBlock] using hy
      rw [hg] at hg'
      cases hg'
      exact hne rfl
theorem App.row {w w' : World} {v v' : Value} (h : App w w' v v') {b n : Nat} {t : TypeId} {f : Nat → Value} (hr : w.rowIs b t n f) (hb : v.ownBlock ≠ some b) : w'.rowIs b t n f := hr.of_block (h.grown.block b hr.lt (fun e => hb e.symm))
theorem run_append_zero {P : Program} (w : World) (t ty e : TypeId) (ht : P.underlying t = some (.slice e)) {i : TypeInfo} (hi : P.info? e = some i) (ao u : Option Addr) (n cap k : Nat) (hle : n ≤ cap) :
    (Builtin.append_ #[t, t] ty #[.slice ao n cap, .slice u 0 k]).run P w = .ok (.slice ao n cap) w := by
  have hF : ∀ w, (Builtin.firstCells i.size 0 (.slice u 0 k)).run P w = .ok #[] w := fun w => by
    cases u with
    | none => exact run_firstCells_none w i.size 0 0 k
    | some a => exact run_firstCells_some w i.size 0 a 0 k [] (by simp) (by simp)
  cases ao with
  | none => cases u <;> simp [Builtin.append_, run_underlying ht, sizeOf, typeInfo, hi, Builtin.lenOf, hle, hF]
  | some a => cases u <;> simp [Builtin.append_, run_underlying ht, sizeOf, typeInfo, hi, Builtin.lenOf, hle, hF, storeCells]
theorem getD_left {α : Type} {d : α} (O P : List α) {j : Nat} (h : j < O.length) : (O ++ P).getD j d = O.getD j d := by
  simp only [List.getD]
  rw [List.getElem?_append_left h]
theorem getD_right {α : Type} {d : α} (O P : List α) (j : Nat) : (O ++ P).getD (O.length + j) d = P.getD j d := by
  simp only [List.getD]
  rw [List.getElem?_append_right (by omega), show O.length + j - O.length = j by omega]
def idF (L : Nat → Se) (O : List Nat) (j : Nat) : Value := .int .i64 (L (O.getD j 0)).id
theorem idF_app (L : Nat → Se) (O P : List Nat) {j : Nat} (h : j < O.length) : idF L (O ++ P) j = idF L O j := by
  unfold idF
  rw [getD_left _ _ h]
theorem idF_right (L : Nat → Se) (O P : List Nat) (j : Nat) : idF L (O ++ P) (O.length + j) = idF L P j := by
  unfold idF
  rw [getD_right]
def slF (L : Nat → Se) (Z : List (Nat × Int)) (j : Nat) : Value :=
  if j % 3 = 0 then .int .i64 (slc L (Z.getD (j / 3) (0, 0))).1 else if j % 3 = 1 then .int .i64 (slc L (Z.getD (j / 3) (0, 0))).2.1 else .int .i64 (slc L (Z.getD (j / 3) (0, 0))).2.2
structure Dsk (W : World) (c : Me) (u : Option Addr) (n cp : Nat) (L : Nat → Se) (b : Nat) (w : World) (st : Pn) : Prop where
  low : Chg W w (fun x => x = b)
  ex : ∃ vO vZ, DkA w b c (.slice u n cp) st.out st.left st.given vO vZ ∧ Own w W.heap.size 3 1 vO st.O.length (idF L st.O) ∧ Own w W.heap.size 45 3 vZ st.Z.length (slF L st.Z)
theorem Dsk.fresh {W : World} {c : Me} {u : Option Addr} {n cp : Nat} {L : Nat → Se} {b : Nat} {w w' : World} {st : Pn} (h : Dsk W c u n cp L b w st) (f : Below w.heap.size w w') : Dsk W c u n cp L b w' st := by
  obtain ⟨vO, vZ, h1, h2, h3⟩ := h.ex
  exact ⟨h.low.post f, vO, vZ, h1.fresh f, h2.kept f, h3.kept f⟩
theorem Chg.same {a b c : World} {S : Nat → Prop} (h : Chg a b S) (k : Chg b c S) : Chg a c S := h.trans k (fun _ _ t => t)
theorem Chg.app {a b c : World} {S : Nat → Prop} (h : Chg a b S) {v v' : Value} {e : TypeId} {sz n : Nat} {cs : Nat → Value} (k : App b c v v') (ho : Own b a.heap.size e sz v n cs) : Chg a c S := h.trans (Chg.of_app k) (fun x hx t => by have := (ho.lt x t).1; omega)
theorem isO_ex (out : Nat → Bool) : ∃ A, IsO A out := ⟨((List.range 16).map (fun i => Value.bool (out i))).toArray, by simp, fun i hi => by simp [hi]⟩
theorem IsO.list {A : Array Value} {out : Nat → Bool} (h : IsO A out) : A.toList = (List.range 16).map (fun i => Value.bool (out i)) := by
  apply List.ext_getElem?
  intro i
  rw [Array.getElem?_toList]
  by_cases hi : i < 16
  · rw [h.2 i hi]; simp [hi]
  · rw [Array.getElem?_eq_none (by have := h.1; omega)]
    simp [hi]
theorem DkA.out_range {w : World} {b : Nat} {c : Me} {sv : Value} {out : Nat → Bool} {left given : Int} {vO vZ : Value} (h : DkA w b c sv out left given vO vZ) {A : Array Value} (hA : IsO A out) : w.rangeAt b 6 A.toList := by
  intro j v hj
  rw [hA.list] at hj
  have hj16 : j < 16 := by
    have := (List.getElem?_eq_some_iff.1 hj).1
    simpa using this
  rw [h.cells.co j hj16]
  simpa [hj16] using hj
theorem DkA.there {w : World} {b : Nat} {c : Me} {sv : Value} {out : Nat → Bool} {left given : Int} {vO vZ : Value} (h : DkA w b c sv out left given vO vZ) : w.there b 6 16 := fun j hj => ⟨by rw [h.cells.co j hj]; rfl, h.frozen _⟩
theorem DkA.setOut {w : World} {b : Nat} {c : Me} {sv : Value} {out ot : Nat → Bool} {left given : Int} {vO vZ : Value} (h : DkA w b c sv out left given vO vZ) {A : Array Value} (hA : IsO A ot) : DkA (w.setCells b 6 A.toList) b c sv ot left given vO vZ := by
  rw [hA.list]
  refine (setCells_cells h 6 16 _).congr (fun j hj => ?_)
  unfold dkF
  by_cases e : 6 ≤ j ∧ j < 6 + 16
  · rw [if_pos e, if_neg (by omega), if_neg (by omega), if_neg (by omega), if_neg (by omega), if_neg (by omega), if_neg (by omega), if_pos (by omega)]
  · rw [if_neg e]
    by_cases e1 : j < 6
    · have : j = 0 ∨ j = 1 ∨ j = 2 ∨ j = 3 ∨ j = 4 ∨ j = 5 := by omega
      rcases this with rfl | rfl | rfl | rfl | rfl | rfl <;> rfl
    · have : j = 22 ∨ j = 23 ∨ j = 24 ∨ j = 25 := by omega
      rcases this with rfl | rfl | rfl | rfl <;> rfl
theorem DkA.setO {w : World} {b : Nat} {c : Me} {sv : Value} {out : Nat → Bool} {left given : Int} {vO vZ : Value} (h : DkA w b c sv out left given vO vZ) (v : Value) : DkA (w.setCell ⟨b, 24, none⟩ v) b c sv out left given v vZ := by
  refine (h.set 24 v).congr (fun j hj => ?_)
  unfold dkF
  by_cases e : j = 24
  · subst e; rfl
  · rw [if_neg e]
    by_cases e1 : j = 25
    · subst e1; rfl
    · by_cases e2 : j < 24
      · by_cases e3 : j < 22
        · simp only [e3, if_true]
        · have : j = 22 ∨ j = 23 := by omega
          rcases this with rfl | rfl <;> rfl
      · omega
theorem vict_eq (c : Me) (S : Nat → Se) (n : Nat) (g : Int) (p : Nat) (l : Int) {y : Nat} (hy : p ≤ y) (out : Nat → Bool) (ids : List Nat) :
    vict c S n g p l y out ids = if l ≤ rom c S n g p out then some (out, ids) else if y = p then none else
      if out y = true ∨ (S y).hn = 0 then vict c S n g p l (y - 1) out ids else vict c S n g p l (y - 1) (put out y) (ids ++ [y]) := by
  cases y with
  | zero =>
    obtain rfl : p = 0 := by omega
    unfold vict
    by_cases h : l ≤ rom c S n g 0 out
    · rw [if_pos h, if_pos h]
    · rw [if_neg h, if_neg h, if_pos rfl]
  | succ y => rfl
theorem put_row (out : Nat → Bool) (y i : Nat) : (if i = y then Value.bool true else .bool (out i)) = .bool (put out y i) := by
  unfold put
  split <;> rfl
end Go.Proofs.Ytdceahebkohbjab
