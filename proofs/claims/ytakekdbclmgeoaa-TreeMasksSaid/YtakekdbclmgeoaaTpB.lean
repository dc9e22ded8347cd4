import Derived.RangeFuncNested
import Derived.RangeFuncBound
import Derived.RangeFuncCalls
import Derived.RangeFuncLeaves
import Derived.Shelf.Abstract
import Derived.Shelf.RegionOpen
import Derived.WalkKit
import Derived.OwnWalkIn
import Derived.TacticsInMore
import Derived.LoopNIn
import Derived.LoopIn
import Derived.RegionIn
import Derived.Test.YtakekdbclmgeoaaTpA
namespace Go.Proofs.Ytakekdbclmgeoaa
open Go.RowKit
/-! A range over a function that hands over values which lie in memory, and which ranges over another one itself. -/
/-- What lies in blocks that were there stays, new blocks may come. -/
def Bears (J : Nat → World → Prop) : Prop := ∀ k W W', J k W → Below W.heap.size W W' → J k W'
/-- .. and a block at or behind B that holds no cells may be put anew. -/
def Puts (B : Nat) (J : Nat → World → Prop) : Prop := ∀ k W l o o', B ≤ l → W.heap[l]? = some o → o.isCells = false → J k W → J k (W.putObj l o')
/-- cells outside of S stay -/
structure KpC (S : Nat → Prop) (W W' : World) : Prop where
  size : W.heap.size ≤ W'.heap.size
  blk : ∀ b o, ¬ S b → W.heap[b]? = some o → o.isCells = true → W'.heap[b]? = some o
theorem KpC.refl (S : Nat → Prop) (W : World) : KpC S W W := ⟨Nat.le_refl _, fun _ _ _ h _ => h⟩
theorem KpC.trans {S : Nat → Prop} {A B C : World} (h : KpC S A B) (k : KpC S B C) : KpC S A C := ⟨Nat.le_trans h.size k.size, fun b o hb h1 h2 => k.blk b o hb (h.blk b o hb h1 h2) h2⟩
theorem KpC.of_below {S : Nat → Prop} {W W' : World} (h : Below W.heap.size W W') : KpC S W W' := ⟨h.size, fun b _ _ h1 _ => (h.block b (Array.getElem?_eq_some_iff.1 h1).1).trans h1⟩
theorem KpC.put {S : Nat → Prop} (W : World) (l : Nat) (o o' : Obj) (h : W.heap[l]? = some o) (hc : o.isCells = false) : KpC S W (W.putObj l o') := ⟨by simp, fun b p _ h1 h2 => by
  by_cases e : b = l
  · subst e
    rw [h] at h1
    cases h1
    rw [hc] at h2
    cases h2
  · rw [World.putObj_heap_other e]; exact h1⟩
theorem KpC.cell {S : Nat → Prop} {W W' : World} (h : KpC S W W') {b o : Nat} {v : Value} (hb : ¬ S b) (hc : W.cell? ⟨b, o, none⟩ = some v) : W'.cell? ⟨b, o, none⟩ = some v := by
  cases e : W.heap[b]? with
  | none => unfold World.cell? at hc; rw [e] at hc; cases hc
  | some ob =>
    cases ob with
    | cells cs t fr =>
      have := h.blk b _ hb e rfl
      unfold World.cell? at hc ⊢
      rw [this]
      rw [e] at hc
      exact hc
    | _ => unfold World.cell? at hc; rw [e] at hc; cases hc
/-- The function's word. -/
def Hands2 (P : Program) (gf : Nat) (lb : Array Value) (N : Nat) (G : Nat → Array Value → World → Prop) (Kp : World → World → Prop) (w : World) : Prop :=
  ∀ (l : Nat) (J Jx : Nat → World → Prop) (W : World), Below w.heap.size w W → l < W.heap.size → Bears J → Puts W.heap.size J → Puts W.heap.size Jx →
    (∀ k args W1, k < N → J k W1 → G k args W1 → YieldAt Fence.wide 1 P l args W1 fun e W' => KeepsFrom W.heap.size W1 W' ∧ ((e = .returned (.bool true) ∧ J (k + 1) W' ∧ Kp W1 W') ∨ (e = .returned (.bool false) ∧ Jx (k + 1) W'))) →
    J 0 W → CallsIn Fence.wide 2 P gf (#[.func (.yield l) #[] #[]] ++ lb) W fun e W' => (∃ v, e = .returned v) ∧ (J N W' ∨ ∃ k, k ≤ N ∧ Jx k W')
/-- How a round may end: it goes on, or it breaks off. -/
def roundEnds (B : Nat) (Kp : World → World → Prop) (I : Nat → World → Prop) (X : Code → Nat → World → Prop) (k : Nat) (W : World) : Exit → Act → World → Prop
  | .normal, _, W' => KeepsFrom B W W' ∧ Kp W W' ∧ I (k + 1) W'
  | .exit id, _, W' => KeepsFrom B W W' ∧ X (.exit id) (k + 1) W'
  | .ret, _, W' => KeepsFrom B W W' ∧ X .ret (k + 1) W'
  | _, _, _ => False
section
variable {P : Program}
theorem put_same {W : World} {l : Nat} {o : Obj} (o' : Obj) (h : W.heap[l]? = some o) : (W.putObj l o').heap[l]? = some o' := World.putObj_heap_same (Array.getElem?_eq_some_iff.1 h).1
theorem put_other {W : World} {l j : Nat} (o' : Obj) (h : j ≠ l) : (W.putObj l o').heap[j]? = W.heap[j]? := World.putObj_heap_other h
theorem keeps_put {B : Nat} (W : World) (l : Nat) (o' : Obj) (h : l < B) : KeepsFrom B W (W.putObj l o') := ⟨by simp, fun k o hk hh _ => by rw [put_other o' (by omega)]; exact hh⟩
theorem keepsFrom_mono {B C : Nat} {W W' : World} (h : KeepsFrom B W W') (hC : B ≤ C) : KeepsFrom C W W' := ⟨h.size, fun k o hk => h.same k o (Nat.le_trans hC hk)⟩
set_option maxHeartbeats 1000000 in
theorem range_hands2 {g : Operand} {ps : Array Tmp} {assign body : Code} {Q : Exit → Act → World → Prop} {a : Act} {w : World} {gf : Nat} {lb : Array Value} (hg : a.eval g = .func (.func gf) #[] lb) (eg : ∀ args w, (callFunc gf args).run P w = .ok (.enter gf args) w)
    {N : Nat} {G : Nat → Array Value → World → Prop} {Kp : World → World → Prop} (hit : Hands2 P gf lb N G Kp w) (hKt : ∀ {A B C : World}, Kp A B → Kp B C → Kp A C) (hKb : ∀ W l o o', w.heap.size ≤ l → W.heap[l]? = some o → o.isCells = false → Kp W (W.putObj l o'))
    (hps : ∀ k args W, G k args W → args.size = ps.size) (hGb : ∀ k args W l o o', w.heap.size ≤ l → W.heap[l]? = some o → o.isCells = false → G k args W → G k args (W.putObj l o'))
    (I : Nat → World → Prop) (X : Code → Nat → World → Prop) (hI : Bears I) (hIp : Puts w.heap.size I) (hXp : ∀ c, Puts w.heap.size (X c)) (h0 : I 0 w) (a₁ : Array Value → Act)
    (hassign : ∀ (l : Nat) (k : Nat) (args : Array Value) (W : World) (K : Act → World → Prop), G k args W → K (a₁ args) W → assign.wpIn (Fence.wide.inRound l) 1 P (Exit.then K (fun _ _ _ => False)) { tmps := (ps.zip args).foldl (fun t (p, v) => t.setIfInBounds p v) a.tmps, defers := [] } W)
    (hbody : ∀ (l k : Nat) (args : Array Value) (W : World), k < N → I k W → G k args W → body.wpIn (Fence.wide.inRound l) 1 P (roundEnds w.heap.size Kp I X k W) (a₁ args) W)
    (hdone : ∀ (D : Nat) (W : World), w.heap.size ≤ D → I N W → W.heap[D]? = some (.deferred (some [])) → Q .normal { a with defers := { target := .collected D, args := #[] } :: a.defers } W)
    (hstop : ∀ (D : Nat) (c : Code) (k : Nat) (W : World), w.heap.size ≤ D → k ≤ N → X c k W → W.heap[D]? = some (.deferred (some [])) → c.wpIn Fence.wide 3 P Q { a with defers := { target := .collected D, args := #[] } :: a.defers } W) :
    (Code.rangeFunc g ps assign body).wpIn Fence.wide 3 P Q a w := by
  refine wpIn_rangeFunc fun fn hfn => ?_
  generalize hR : (fun (st : LoopState) (pe : Option Code) => ({ state := st, pending := pe, fn, tmps := a.tmps, params := ps, assign, body, defers := w.heap.size } : Loop)) = R
  have hrec : ∀ st pe, ({ state := st, pending := pe, fn, tmps := a.tmps, params := ps, assign, body, defers := w.heap.size } : Loop) = R st pe := fun st pe => by rw [← hR]
  have e0 := run_enterLoop_outer (P := P) (w := w) fn a.tmps ps assign body
  rw [hrec] at e0
  generalize hW1 : (w.alloc (.deferred (some []))).alloc (.loop (R .ready none)) = W1 at e0
  have b1 : Below w.heap.size w W1 := by rw [← hW1]; exact fresh_trans (fresh_alloc _ _) (fresh_alloc _ _)
  have sz : w.heap.size + 1 < W1.heap.size := by rw [← hW1]; simp
  have l1 : W1.heap[w.heap.size + 1]? = some (.loop (R .ready none)) := by
    rw [← hW1, show w.heap.size + 1 = (w.alloc (.deferred (some []))).heap.size by simp]; exact Go.Deep.blk_alloc_new _ _
  have d1 : W1.heap[w.heap.size]? = some (.deferred (some [])) := by
    rw [← hW1, Go.Deep.blk_alloc_lt _ _ _ (by simp)]; exact Go.Deep.blk_alloc_new _ _
  refine ⟨w.heap.size + 1, [{ target := .collected w.heap.size, args := #[] }], W1, { target := .fn (.func gf) lb, args := #[.func (.yield (w.heap.size + 1)) #[] #[]] }, W1, gf, #[.func (.yield (w.heap.size + 1)) #[] #[]] ++ lb, W1, e0, ?_, fun _ _ => trivial, ?_, (fun _ => by omega), ?_⟩
  · simp only [resolve, hg]
    simp [go_sem]
  · simp [invoke, go_sem, eg]
  · refine (hit (w.heap.size + 1) (fun k W => I k W ∧ W.heap[w.heap.size + 1]? = some (.loop (R .ready none)) ∧ W.heap[w.heap.size]? = some (.deferred (some [])))
      (fun k W => ∃ c, X c k W ∧ W.heap[w.heap.size + 1]? = some (.loop (R .done (some c))) ∧ W.heap[w.heap.size]? = some (.deferred (some []))) W1 b1 (by omega) ?_ ?_ ?_ ?_ ⟨hI 0 w W1 h0 b1, l1, d1⟩).mono ?_
    · rintro k W W' ⟨h1, h2, h3⟩ f
      exact ⟨hI k W W' h1 f, (f.block _ (Array.getElem?_eq_some_iff.1 h2).1).trans h2, (f.block _ (Array.getElem?_eq_some_iff.1 h3).1).trans h3⟩
    · rintro k W l o o' hl ho hoc ⟨h1, h2, h3⟩
      exact ⟨hIp k W l o o' (by omega) ho hoc h1, (put_other _ (by omega)).trans h2, (put_other _ (by omega)).trans h3⟩
    · rintro k W l o o' hl ho hoc ⟨c, h1, h2, h3⟩
      exact ⟨c, hXp c k W l o o' (by omega) ho hoc h1, (put_other _ (by omega)).trans h2, (put_other _ (by omega)).trans h3⟩
    · rintro k args W hk ⟨hi, hl, hd⟩ hgk
      have hy := run_yield (P := P) (args := args) hl (by rw [← hR]; exact hps k args W hgk)
      rw [← hR] at hy
      refine ⟨fn, _, assign, body, hy, roundIn_of_wpIn hfn (hassign _ k args W _ hgk ⟨_, run_beginRound hl (by rw [← hR]), ?_⟩)⟩
      have hb2 : ({ R .ready none with state := .busy } : Loop) = R .busy none := by rw [← hR]
      rw [hb2]
      have l2 := put_same (.loop (R .busy none)) hl
      have d2 := (put_other (W := W) (l := w.heap.size + 1) (j := w.heap.size) (.loop (R .busy none)) (by omega)).trans hd
      have k2 := hKb W _ _ (.loop (R .busy none)) (by omega) hl rfl
      have kf2 := keeps_put (B := W1.heap.size) W (w.heap.size + 1) (.loop (R .busy none)) sz
      refine wpIn_mono (hbody _ k args _ hk (hIp k W _ _ _ (by omega) hl rfl hi) (hGb k args W _ _ _ (by omega) hl rfl hgk)) ?_
      generalize W.putObj (w.heap.size + 1) (.loop (R .busy none)) = W2 at *
      rintro e a3 W3 hp
      have fin : ∀ jump, KeepsFrom w.heap.size W2 W3 → W3.heap[w.heap.size + 1]? = some (.loop (R .busy none)) ∧ W3.heap[w.heap.size]? = some (.deferred (some [])) ∧ (Instr.endRound (w.heap.size + 1) jump).run P W3 = .ok (.bool jump.isNone) (W3.putObj (w.heap.size + 1) (.loop (R (if jump.isNone then .ready else .done) jump))) ∧ KeepsFrom W1.heap.size W (W3.putObj (w.heap.size + 1) (.loop (R (if jump.isNone then .ready else .done) jump))) := fun jump hk3 => by
        have l3 := hk3.same _ _ (by omega) l2 rfl
        have er := run_endRound (P := P) jump l3
        refine ⟨l3, hk3.same _ _ (Nat.le_refl _) d2 rfl, ?_, (kf2.trans (keepsFrom_mono hk3 b1.size)).trans (keeps_put _ _ _ sz)⟩
        rw [er, ← hR]
      cases e with
      | normal =>
        obtain ⟨hk3, hkp, hi3⟩ := hp
        obtain ⟨l3, d3, er, kf⟩ := fin none hk3
        exact ⟨_, _, er, kf, .inl ⟨rfl, ⟨hIp _ _ _ _ _ (by omega) l3 rfl hi3, put_same _ l3, (put_other _ (by omega)).trans d3⟩, hKt (hKt k2 hkp) (hKb _ _ _ _ (by omega) l3 rfl)⟩⟩
      | exit id =>
        obtain ⟨hk3, hx3⟩ := hp
        obtain ⟨l3, d3, er, kf⟩ := fin (some (.exit id)) hk3
        exact ⟨_, _, er, kf, .inr ⟨rfl, _, hXp _ _ _ _ _ _ (by omega) l3 rfl hx3, put_same _ l3, (put_other _ (by omega)).trans d3⟩⟩
      | ret =>
        obtain ⟨hk3, hx3⟩ := hp
        obtain ⟨l3, d3, er, kf⟩ := fin (some .ret) hk3
        exact ⟨_, _, er, kf, .inr ⟨rfl, _, hXp _ _ _ _ _ _ (by omega) l3 rfl hx3, put_same _ l3, (put_other _ (by omega)).trans d3⟩⟩
      | goto t => exact hp.elim
      | panic c => exact hp.elim
      | outgrown => exact hp.elim
    · rintro e W2 ⟨⟨v, rfl⟩, ⟨hi, hl, hd⟩ | ⟨k, hk, c, hx, hl, hd⟩⟩
      · refine ⟨none, _, (run_endLoop (P := P) hl (by rw [← hR]; simp)).trans (by rw [← hR]), ?_⟩
        exact hdone _ _ (Nat.le_refl _) (hIp _ _ _ _ _ (by omega) hl rfl hi) ((put_other _ (by omega)).trans hd)
      · refine ⟨some c, _, (run_endLoop (P := P) hl (by rw [← hR]; simp)).trans (by rw [← hR]), ?_⟩
        exact hstop _ c k _ (Nat.le_refl _) hk (hXp c _ _ _ _ _ (by omega) hl rfl hx) ((put_other _ (by omega)).trans hd)
theorem yieldAt_wide {n m l l' : Nat} {args : Array Value} {W : World} {R : Ending → World → Prop} (h : YieldAt Fence.wide n P l args W R) : YieldAt (Fence.wide.inRound l') m P l args W R := by
  obtain ⟨fn, tmps, assign, body, hy, hr⟩ := h
  refine ⟨fn, tmps, assign, body, hy, trivial, fun c cs _ => ?_⟩
  obtain ⟨e, w', r, s⟩ := hr.2 c cs (room_wide _)
  exact ⟨e, w', r, s⟩
end
end Go.Proofs.Ytakekdbclmgeoaa
