import Derived.RangeFuncNested
import Derived.RangeFuncBound
import Derived.RangeFuncCalls
import Derived.RangeFuncLeaves
import Derived.Shelf.Abstract
import Derived.Shelf.RegionOpen
import Derived.WalkKit
import Derived.OwnWalkIn
import Derived.TacticsInMore
import Derived.LoopNIn
import Derived.LoopIn
import Derived.Test.YteiocgciblogdabVDec
namespace Go.Proofs.Yteiocgciblogdab
open Go.RowKit
/-! A range over a function that hands over values which lie in memory: what it hands over in round k is told of the world in which it does (G). -/
/-- What lies in blocks that were there stays, new blocks may come. -/
def Bears (J : Nat → World → Prop) : Prop := ∀ k W W', J k W → Below W.heap.size W W' → J k W'
/-- .. and a block at or behind B that holds no cells may be put anew. -/
def Puts (B : Nat) (J : Nat → World → Prop) : Prop := ∀ k W l o o', B ≤ l → W.heap[l]? = some o → o.isCells = false → J k W → J k (W.putObj l o')
/-- The function's word. -/
def Hands (P : Program) (gf : Nat) (lb : Array Value) (N : Nat) (G : Nat → Array Value → World → Prop) (Kp : World → World → Prop) (w : World) : Prop :=
  ∀ (l : Nat) (J Jx : Nat → World → Prop) (W : World), Below w.heap.size w W → Bears J →
    (∀ k args W1, k < N → J k W1 → G k args W1 → YieldAt Fence.wide 1 P l args W1 fun e W' => (e = .returned (.bool true) ∧ J (k + 1) W' ∧ Kp W1 W') ∨ (e = .returned (.bool false) ∧ Jx (k + 1) W')) →
    J 0 W → CallsIn Fence.wide 2 P gf (#[.func (.yield l) #[] #[]] ++ lb) W fun e W' => (∃ v, e = .returned v) ∧ (J N W' ∨ ∃ k, k ≤ N ∧ Jx k W')
/-- How a round may end: it goes on, or it breaks off. -/
def roundEnds (Kp : World → World → Prop) (I : Nat → World → Prop) (X : Nat → Nat → World → Prop) (k : Nat) (W : World) : Exit → Act → World → Prop
  | .normal, _, W' => KeepsOthers W W' ∧ Kp W W' ∧ I (k + 1) W'
  | .exit id, _, W' => KeepsOthers W W' ∧ X id (k + 1) W'
  | _, _, _ => False
section
variable {P : Program}
theorem put_same {W : World} {l : Nat} {o : Obj} (o' : Obj) (h : W.heap[l]? = some o) : (W.putObj l o').heap[l]? = some o' := World.putObj_heap_same (Array.getElem?_eq_some_iff.1 h).1
theorem put_other {W : World} {l j : Nat} (o' : Obj) (h : j ≠ l) : (W.putObj l o').heap[j]? = W.heap[j]? := World.putObj_heap_other h
theorem range_hands {g : Operand} {ps : Array Tmp} {assign body : Code} {Q : Exit → Act → World → Prop} {a : Act} {w : World} {gf : Nat} {lb : Array Value} (hg : a.eval g = .func (.func gf) #[] lb) (eg : ∀ args w, (callFunc gf args).run P w = .ok (.enter gf args) w)
    {N : Nat} {G : Nat → Array Value → World → Prop} {Kp : World → World → Prop} (hit : Hands P gf lb N G Kp w) (hKt : ∀ {A B C : World}, Kp A B → Kp B C → Kp A C) (hKb : ∀ W l o o', w.heap.size ≤ l → W.heap[l]? = some o → o.isCells = false → Kp W (W.putObj l o'))
    (hps : ∀ k args W, G k args W → args.size = ps.size) (hGb : ∀ k args W l o o', w.heap.size ≤ l → W.heap[l]? = some o → o.isCells = false → G k args W → G k args (W.putObj l o'))
    (I : Nat → World → Prop) (X : Nat → Nat → World → Prop) (hI : Bears I) (hIp : Puts w.heap.size I) (hXp : ∀ id, Puts w.heap.size (X id)) (h0 : I 0 w) (a₁ : Array Value → Act)
    (hassign : ∀ (l : Nat) (k : Nat) (args : Array Value) (W : World) (K : Act → World → Prop), G k args W → K (a₁ args) W → assign.wpIn (Fence.wide.inRound l) 1 P (Exit.then K (fun _ _ _ => False)) { tmps := (ps.zip args).foldl (fun t (p, v) => t.setIfInBounds p v) a.tmps, defers := [] } W)
    (hbody : ∀ (l k : Nat) (args : Array Value) (W : World), k < N → I k W → G k args W → body.wpIn (Fence.wide.inRound l) 1 P (roundEnds Kp I X k W) (a₁ args) W)
    (hdone : ∀ (D : Nat) (W : World), w.heap.size ≤ D → I N W → W.heap[D]? = some (.deferred (some [])) → Q .normal { a with defers := { target := .collected D, args := #[] } :: a.defers } W)
    (hstop : ∀ (D id k : Nat) (W : World), w.heap.size ≤ D → k ≤ N → X id k W → W.heap[D]? = some (.deferred (some [])) → (Code.exit id).wpIn Fence.wide 3 P Q { a with defers := { target := .collected D, args := #[] } :: a.defers } W) :
    (Code.rangeFunc g ps assign body).wpIn Fence.wide 3 P Q a w := by
  refine wpIn_rangeFunc fun fn hfn => ?_
  generalize hR : (fun (st : LoopState) (pe : Option Code) => ({ state := st, pending := pe, fn, tmps := a.tmps, params := ps, assign, body, defers := w.heap.size } : Loop)) = R
  have hrec : ∀ st pe, ({ state := st, pending := pe, fn, tmps := a.tmps, params := ps, assign, body, defers := w.heap.size } : Loop) = R st pe := fun st pe => by rw [← hR]
  have e0 := run_enterLoop_outer (P := P) (w := w) fn a.tmps ps assign body
  rw [hrec] at e0
  generalize hW1 : (w.alloc (.deferred (some []))).alloc (.loop (R .ready none)) = W1 at e0
  have b1 : Below w.heap.size w W1 := by rw [← hW1]; exact fresh_trans (fresh_alloc _ _) (fresh_alloc _ _)
  have sz : w.heap.size + 1 < W1.heap.size := by rw [← hW1]; simp
  have l1 : W1.heap[w.heap.size + 1]? = some (.loop (R .ready none)) := by
    rw [← hW1, show w.heap.size + 1 = (w.alloc (.deferred (some []))).heap.size by simp]; exact Go.Deep.blk_alloc_new _ _
  have d1 : W1.heap[w.heap.size]? = some (.deferred (some [])) := by
    rw [← hW1, Go.Deep.blk_alloc_lt _ _ _ (by simp)]; exact Go.Deep.blk_alloc_new _ _
  refine ⟨w.heap.size + 1, [{ target := .collected w.heap.size, args := #[] }], W1, { target := .fn (.func gf) lb, args := #[.func (.yield (w.heap.size + 1)) #[] #[]] }, W1, gf, #[.func (.yield (w.heap.size + 1)) #[] #[]] ++ lb, W1, e0, ?_, fun _ _ => trivial, ?_, (fun _ => by omega), ?_⟩
  · simp only [resolve, hg]
    simp [go_sem]
  · simp [invoke, go_sem, eg]
  · refine (hit (w.heap.size + 1) (fun k W => I k W ∧ W.heap[w.heap.size + 1]? = some (.loop (R .ready none)) ∧ W.heap[w.heap.size]? = some (.deferred (some [])))
      (fun k W => ∃ id, X id k W ∧ W.heap[w.heap.size + 1]? = some (.loop (R .done (some (.exit id)))) ∧ W.heap[w.heap.size]? = some (.deferred (some []))) W1 b1 ?_ ?_ ⟨hI 0 w W1 h0 b1, l1, d1⟩).mono ?_
    · rintro k W W' ⟨h1, h2, h3⟩ f
      exact ⟨hI k W W' h1 f, (f.block _ (Array.getElem?_eq_some_iff.1 h2).1).trans h2, (f.block _ (Array.getElem?_eq_some_iff.1 h3).1).trans h3⟩
    · rintro k args W hk ⟨hi, hl, hd⟩ hgk
      have hy := run_yield (P := P) (args := args) hl (by rw [← hR]; exact hps k args W hgk)
      rw [← hR] at hy
      refine ⟨fn, _, assign, body, hy, roundIn_of_wpIn hfn (hassign _ k args W _ hgk ⟨_, run_beginRound hl (by rw [← hR]), ?_⟩)⟩
      have hb2 : ({ R .ready none with state := .busy } : Loop) = R .busy none := by rw [← hR]
      rw [hb2]
      have l2 := put_same (.loop (R .busy none)) hl
      have d2 := (put_other (W := W) (l := w.heap.size + 1) (j := w.heap.size) (.loop (R .busy none)) (by omega)).trans hd
      have k2 := hKb W _ _ (.loop (R .busy none)) (by omega) hl rfl
      refine wpIn_mono (hbody _ k args _ hk (hIp k W _ _ _ (by omega) hl rfl hi) (hGb k args W _ _ _ (by omega) hl rfl hgk)) ?_
      generalize W.putObj (w.heap.size + 1) (.loop (R .busy none)) = W2 at *
      rintro e a3 W3 hp
      have fin : ∀ jump, KeepsOthers W2 W3 → W3.heap[w.heap.size + 1]? = some (.loop (R .busy none)) ∧ W3.heap[w.heap.size]? = some (.deferred (some [])) ∧ (Instr.endRound (w.heap.size + 1) jump).run P W3 = .ok (.bool jump.isNone) (W3.putObj (w.heap.size + 1) (.loop (R (if jump.isNone then .ready else .done) jump))) := fun jump hk3 => by
        have l3 := hk3.same _ _ l2 rfl
        have er := run_endRound (P := P) jump l3
        refine ⟨l3, hk3.same _ _ d2 rfl, ?_⟩
        rw [er, ← hR]
      cases e with
      | normal =>
        obtain ⟨hk3, hkp, hi3⟩ := hp
        obtain ⟨l3, d3, er⟩ := fin none hk3
        exact ⟨_, _, er, .inl ⟨rfl, ⟨hIp _ _ _ _ _ (by omega) l3 rfl hi3, put_same _ l3, (put_other _ (by omega)).trans d3⟩, hKt (hKt k2 hkp) (hKb _ _ _ _ (by omega) l3 rfl)⟩⟩
      | exit id =>
        obtain ⟨hk3, hx3⟩ := hp
        obtain ⟨l3, d3, er⟩ := fin (some (.exit id)) hk3
        exact ⟨_, _, er, .inr ⟨rfl, id, hXp id _ _ _ _ _ (by omega) l3 rfl hx3, put_same _ l3, (put_other _ (by omega)).trans d3⟩⟩
      | ret => exact hp.elim
      | goto t => exact hp.elim
      | panic c => exact hp.elim
      | outgrown => exact hp.elim
    · rintro e W2 ⟨⟨v, rfl⟩, ⟨hi, hl, hd⟩ | ⟨k, hk, id, hx, hl, hd⟩⟩
      · refine ⟨none, _, (run_endLoop (P := P) hl (by rw [← hR]; simp)).trans (by rw [← hR]), ?_⟩
        exact hdone _ _ (Nat.le_refl _) (hIp _ _ _ _ _ (by omega) hl rfl hi) ((put_other _ (by omega)).trans hd)
      · refine ⟨some (.exit id), _, (run_endLoop (P := P) hl (by rw [← hR]; simp)).trans (by rw [← hR]), ?_⟩
        exact hstop _ id k _ (Nat.le_refl _) hk (hXp id _ _ _ _ _ (by omega) hl rfl hx) ((put_other _ (by omega)).trans hd)
end
end Go.Proofs.Yteiocgciblogdab
