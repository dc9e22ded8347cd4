import Derived.Test.YtjjnfpeeipainaaCpE
namespace Go.Proofs.Ytjjnfpeeipainaa
open Go.RowKit
/-! copied: its loops and their frames. -/
def loopsOf : Code → List Code
  | .loop c => [c]
  | .seq a b => loopsOf a ++ loopsOf b
  | .block _ c => loopsOf c
  | .scope c => loopsOf c
  | .cond _ a b => loopsOf a ++ loopsOf b
  | _ => []
noncomputable def loopM : Code := (loopsOf (Try.f50.body.getD .skip)).headD .skip
noncomputable def loopY : Code := ((loopsOf (Try.f50.body.getD .skip)).drop 1).headD .skip
theorem arr_lit (t : Array Value) (k : Nat) (h : t.size = k) : t = ((List.range k).map (fun i => t.getD i undef)).toArray := by
  apply Array.ext
  · simp [h]
  · intro i h1 h2
    simp [Array.getD, h1]
theorem loop_invP {P : Program} {Q : Exit → Act → World → Prop} {a : Act} {w : World} {c : Code} (Inv : Nat → Act → World → Prop) (N : Nat) (h0 : Inv N a w)
    (h : ∀ m a w, Inv m a w → c.wp P (Exit.then (fun a' w' => ∃ m', m = m' + 1 ∧ Inv m' a' w') Q) a w) : (Code.loop c).wp P Q a w := by
  refine wp_loop_rounds (N + 1) ?_
  have key : ∀ m a w, Inv m a w → Code.rounds P c Q (m + 1) a w := by
    intro m
    induction m with
    | zero =>
      intro a w hi
      rw [rounds_succ]
      refine Code.wp_mono ?_ (h 0 a w hi)
      intro e a' w' hq
      cases e with
      | normal => obtain ⟨m', e, _⟩ := hq; omega
      | _ => exact hq
    | succ m ih =>
      intro a w hi
      rw [rounds_succ]
      refine Code.wp_mono ?_ (h (m + 1) a w hi)
      intro e a' w' hq
      cases e with
      | normal =>
        obtain ⟨m', e, hi'⟩ := hq
        obtain rfl : m' = m := by omega
        exact ih a' w' hi'
      | _ => exact hq
  exact key N a w h0
theorem then_only {P : Program} {c : Code} {R R' : Act → World → Prop} {Q : Exit → Act → World → Prop} {a : Act} {w : World} (h : ∀ a w, R a w → R' a w) (k : c.wp P (Exit.then R (fun _ _ _ => False)) a w) : c.wp P (Exit.then R' Q) a w := by
  refine Code.wp_mono ?_ k
  intro e a' w' hq
  cases e with
  | normal => exact h _ _ hq
  | _ => exact hq.elim
def LF1 (B : Nat) (uM : Option Addr) (n cM k : Nat) (a : Act) : Prop := ∃ u : Nat → Value, u 1 = .pointer (some ⟨B, 0, none⟩) ∧ u 2 = .pointer (some ⟨B + 1, 0, none⟩) ∧ u 34 = .slice uM n cM ∧ u 35 = .int .i64 (n : Int) ∧ u 36 = .int .i64 (k : Int) ∧ a = { tmps := #[u 0, u 1, u 2, u 3, u 4, u 5, u 6, u 7, u 8, u 9, u 10, u 11, u 12, u 13, u 14, u 15, u 16, u 17, u 18, u 19, u 20, u 21, u 22, u 23, u 24, u 25, u 26, u 27, u 28, u 29, u 30, u 31, u 32, u 33, u 34, u 35, u 36, u 37, u 38, u 39, u 40, u 41, u 42, u 43, u 44, u 45, u 46, u 47, u 48, u 49, u 50, u 51, u 52, u 53, u 54, u 55, u 56, u 57, u 58, u 59, u 60, u 61, u 62, u 63, u 64, u 65, u 66, u 67, u 68, u 69, u 70, u 71, u 72, u 73, u 74, u 75, u 76, u 77, u 78, u 79, u 80, u 81, u 82, u 83, u 84, u 85, u 86, u 87], defers := [] }
set_option maxRecDepth 10000 in
theorem LF1.of {B : Nat} {uM : Option Addr} {n cM k : Nat} {t : Array Value} (h : t.size = 88) (h1 : t.getD 1 undef = .pointer (some ⟨B, 0, none⟩)) (h2 : t.getD 2 undef = .pointer (some ⟨B + 1, 0, none⟩)) (h34 : t.getD 34 undef = .slice uM n cM) (h35 : t.getD 35 undef = .int .i64 (n : Int)) (h36 : t.getD 36 undef = .int .i64 (k : Int)) : LF1 B uM n cM k { tmps := t, defers := [] } :=
  ⟨fun i => t.getD i undef, h1, h2, h34, h35, h36, congrArg (fun x => Act.mk x []) (arr_lit t 88 h)⟩
def LF2 (B n k : Nat) (a : Act) : Prop := ∃ u : Nat → Value, u 1 = .pointer (some ⟨B, 0, none⟩) ∧ u 2 = .pointer (some ⟨B + 1, 0, none⟩) ∧ u 50 = .int .i64 (n : Int) ∧ u 51 = .int .i64 (k : Int) ∧ a = { tmps := #[u 0, u 1, u 2, u 3, u 4, u 5, u 6, u 7, u 8, u 9, u 10, u 11, u 12, u 13, u 14, u 15, u 16, u 17, u 18, u 19, u 20, u 21, u 22, u 23, u 24, u 25, u 26, u 27, u 28, u 29, u 30, u 31, u 32, u 33, u 34, u 35, u 36, u 37, u 38, u 39, u 40, u 41, u 42, u 43, u 44, u 45, u 46, u 47, u 48, u 49, u 50, u 51, u 52, u 53, u 54, u 55, u 56, u 57, u 58, u 59, u 60, u 61, u 62, u 63, u 64, u 65, u 66, u 67, u 68, u 69, u 70, u 71, u 72, u 73, u 74, u 75, u 76, u 77, u 78, u 79, u 80, u 81, u 82, u 83, u 84, u 85, u 86, u 87], defers := [] }
set_option maxRecDepth 10000 in
theorem LF2.of {B n k : Nat} {t : Array Value} (h : t.size = 88) (h1 : t.getD 1 undef = .pointer (some ⟨B, 0, none⟩)) (h2 : t.getD 2 undef = .pointer (some ⟨B + 1, 0, none⟩)) (h50 : t.getD 50 undef = .int .i64 (n : Int)) (h51 : t.getD 51 undef = .int .i64 (k : Int)) : LF2 B n k { tmps := t, defers := [] } :=
  ⟨fun i => t.getD i undef, h1, h2, h50, h51, congrArg (fun x => Act.mk x []) (arr_lit t 88 h)⟩
end Go.Proofs.Ytjjnfpeeipainaa
