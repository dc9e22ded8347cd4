import Derived.Test.YteiocgciblogdabVBas
import Derived.Test.YteiocgciblogdabVByt
import Derived.Test.YteiocgciblogdabVStl
namespace Go.Proofs.Yteiocgciblogdab
open Go.RowKit
/-! What BpeAlls wants: an iterator that stays, a loop in a fence whose rounds leave marks, the marks at the end. -/
theorem Hands.later {P : Program} {gf : Nat} {lb : Array Value} {N : Nat} {G : Nat → Array Value → World → Prop} {Kp : World → World → Prop} {w w' : World} (h : Hands P gf lb N G Kp w) (f : Below w.heap.size w w') : Hands P gf lb N G Kp w' :=
  fun l J Jx W hW hJ hY h0 => h l J Jx W (fresh_trans f hW) hJ hY h0
theorem loop_inv {F : Fence} {n : Nat} {P : Program} {Q : Exit → Act → World → Prop} {a : Act} {w : World} {c : Code} (Inv : Nat → Act → World → Prop) (N : Nat) (h0 : Inv N a w)
    (h : ∀ m a w, Inv m a w → c.wpIn F n P (Exit.then (fun a' w' => ∃ m', m = m' + 1 ∧ Inv m' a' w') Q) a w) : (Code.loop c).wpIn F n P Q a w := by
  refine wpIn_loop_rounds (N + 1) ?_
  have key : ∀ m a w, Inv m a w → Code.roundsIn F n P c Q (m + 1) a w := by
    intro m
    induction m with
    | zero =>
      intro a w hi
      rw [roundsIn_succ]
      refine wpIn_mono (h 0 a w hi) ?_
      intro e a' w' hq
      cases e with
      | normal => obtain ⟨m', e, _⟩ := hq; omega
      | _ => exact hq
    | succ m ih =>
      intro a w hi
      rw [roundsIn_succ]
      refine wpIn_mono (h (m + 1) a w hi) ?_
      intro e a' w' hq
      cases e with
      | normal =>
        obtain ⟨m', e, hi'⟩ := hq
        obtain rfl : m' = m := by omega
        exact ih a' w' hi'
      | _ => exact hq
  exact key N a w h0
def mark (D : Nat) : Deferred := { target := .collected D, args := #[] }
theorem leaves_marks {F : Fence} {n : Nat} {P : Program} {fn : Func} {tmps : Array Value} {R : Ending → World → Prop} {B : Nat} (Z : World → Prop) (hZ : ∀ W D, B ≤ D → W.heap[D]? = some (.deferred (some [])) → Z W → Z (W.putObj D (.deferred none)))
    (hend : ∀ W, Z W → LeavesInM F n P fn tmps R [] .returning W) : ∀ (Ds : List Nat) (W : World), Ds.Nodup → (∀ D ∈ Ds, B ≤ D ∧ W.heap[D]? = some (.deferred (some []))) → Z W → LeavesInM F n P fn tmps R (Ds.map mark) .returning W
  | [], W, _, _, hz => hend W hz
  | D :: Ds, W, hn, hD, hz => by
    obtain ⟨h1, h2⟩ := hD D (by simp)
    have hnd := List.nodup_cons.1 hn
    refine ⟨by simp, .inl ⟨D, _, rfl, run_takeDeferred h2, ?_⟩⟩
    refine leaves_marks Z hZ hend Ds _ hnd.2 (fun E hE => ?_) (hZ W D h1 h2 hz)
    obtain ⟨h3, h4⟩ := hD E (by simp [hE])
    exact ⟨h3, (put_other (j := E) (l := D) _ (fun e => hnd.1 (by rw [← e]; exact hE))).trans h4⟩
theorem KeepsOthers.of_below {W W' : World} (h : Below W.heap.size W W') : KeepsOthers W W' := ⟨h.size, fun l _ e _ => (h.block l (Array.getElem?_eq_some_iff.1 e).1).trans e⟩
theorem row1_new (w : World) (t : TypeId) (x : Value) : (w.alloc (.cells #[x] t)).rowIs w.heap.size t 1 (fun _ => x) :=
  World.rowIs_alloc w #[x] t (fun _ => x) (fun i hi => by
    have hi : i < 1 := hi
    obtain rfl : i = 0 := by omega
    rfl)
theorem row1 {w : World} {g : Nat} {t : TypeId} {x : Value} (h : w.rowIs g t 1 (fun _ => x)) : w.cell? ⟨g, 0, none⟩ = some x ∧ ∀ j, w.frozen? ⟨g, j, none⟩ = false := ⟨h.cell (i := 0) (by decide), h.frozen⟩
theorem row1_set {w : World} {g : Nat} {t : TypeId} {x : Value} (h : w.rowIs g t 1 (fun _ => x)) (y : Value) : (w.setCell ⟨g, 0, none⟩ y).rowIs g t 1 (fun _ => y) := (h.set 0 y).congr (fun i hi => by
  obtain rfl : i = 0 := by omega
  rfl)
theorem PieceAt.get {w : World} {base : Nat} {u : Value} {l : List Int} (h : PieceAt w base u l) : ∃ ao cap, u = .slice ao l.length cap ∧ RdA w ao 1 l.length cap (fun j => .int .u8 (l.getD j 0)) := by
  obtain ⟨g, k, e, h1, h2, h3⟩ := h
  refine ⟨g, k, e, h1, h2, fun h0 => ?_⟩
  obtain ⟨b, e, _, _, hc⟩ := h3 h0
  exact ⟨b, 0, e, fun j hj => by simpa using hc j (by omega)⟩
theorem results_bool {fn : Func} {p : Tmp} (h : fn.results = #[.cell p 4]) (tmps : Array Value) (w : World) (g : Nat) (b : Bool) (hp : tmps.getD p undef = .pointer (some ⟨g, 0, none⟩)) (hc : w.cell? ⟨g, 0, none⟩ = some (.bool b)) :
    (results fn tmps).run Try.prog w = .ok (.bool b) w := by
  have hp' : tmps[p]?.getD undef = .pointer (some ⟨g, 0, none⟩) := by simpa using hp
  simp [results, h, hp', asAddr, loadVar, go_sem, hc]
theorem eqNilF_in (dp : Nat) (fn : Fn) (first cap : Array Value) (w : World) : (Op.equalIn (dp + 1) 42 (.func fn first cap) .nilFunc).run Try.prog w = .ok false w := by
  simp [Op.equalIn, run_underlying Try.underlying42]
theorem eqNilF (fn : Fn) (first cap : Array Value) (w : World) : (binOp .eql 42 (.func fn first cap) .nilFunc).run Try.prog w = .ok (.bool false) w := by
  simp only [binOp]
  simp [Op.equal, Op.maxDepth, eqNilF_in 9999]
end Go.Proofs.Yteiocgciblogdab
