import Derived.Test.YtakekdbclmgeoaaTpC
import Derived.Stop.RegionWithIn
namespace Go.Proofs.Ytakekdbclmgeoaa
open Go.RowKit
/-! A drawn region in a round; marks at a function's end. -/
def noDefer (l : List Oper) : Bool := l.all (fun o => match o.op with | .defer _ => false | _ => true)
theorem noDefer_spec {l : List Oper} (h : noDefer l = true) (j : Nat) (o : Oper) (ho : l.toArray[j]? = some o) : ∀ c, o.op ≠ .defer c := by
  have hm : o ∈ l := by
    have : l[j]? = some o := by simpa using ho
    exact List.mem_of_getElem? this
  unfold noDefer at h
  have := List.all_eq_true.1 h o hm
  intro c e
  rw [e] at this
  simp at this
/-! A drawn region inside a round that holds no defer is walked as outside of it. -/
theorem wpIn_outR {F : Fence} {n : Nat} {P : Program} {o : Oper} {a : Act} {w : World} {K : Act → World → Prop} {Q : Exit → Act → World → Prop} (l : Nat) (hnd : ∀ c, o.op ≠ .defer c) (hro : F.round = none) (h : o.wpIn F n P a w K Q) : o.wpIn (F.inRound l) n P a w K Q := by
  unfold Oper.wpIn at *
  refine ⟨h.1, ?_⟩
  have h2 := h.2
  rw [hro, Oper.semAt_eq _ _ _ hnd] at h2
  rw [Oper.semAt_eq _ _ _ hnd]
  generalize (execOp a.eval o).run P w = r at *
  cases r with
  | ok x w' => cases x <;> exact h2
  | halt x w' => cases x <;> exact h2
theorem wpOpIn_outR {F : Fence} {n : Nat} {P : Program} {ops : Array Oper} {i : Nat} {a : Act} {w : World} {K : Act → World → Prop} {Q : Exit → Act → World → Prop} (l : Nat) (hnd : ∀ (j : Nat) (o : Oper), ops[j]? = some o → ∀ c, o.op ≠ .defer c) (hro : F.round = none) (h : wpOpIn F n P ops Q i K a w) : wpOpIn (F.inRound l) n P ops Q i K a w := by
  unfold wpOpIn at *
  split
  · rename_i ho; simp only [ho] at h; exact h
  · rename_i o ho
    simp only [ho] at h
    split
    · rename_i hw; simp only [hw, if_true] at h; exact wpIn_outR l (hnd i o ho) hro h
    · rename_i hw; simp only [hw] at h; exact h
theorem wpAnyIn_outR {F : Fence} {n : Nat} {P : Program} {md : Region.Mode} {ops : Array Oper} {Q : Exit → Act → World → Prop} (l : Nat) (hnd : ∀ (j : Nat) (o : Oper), ops[j]? = some o → ∀ c, o.op ≠ .defer c) (hro : F.round = none) : ∀ (fuel : Nat) (listed : Array Bool) (a : Act) (w : World), wpAnyIn F n P md ops Q fuel listed a w → wpAnyIn (F.inRound l) n P md ops Q fuel listed a w
  | 0, _, _, _, h => h
  | fuel + 1, _, _, _, h => ⟨h.1, fun i hi => wpOpIn_mono (fun a' w' h' => wpAnyIn_outR l hnd hro fuel _ a' w' h') (wpOpIn_outR l hnd hro (h.2 i hi))⟩
theorem wpIn_region_outR {F : Fence} {n : Nat} {P : Program} {id : Nat} {Q : Exit → Act → World → Prop} {a : Act} {w : World} {l : Nat} {ls : List Oper} (hnd : noDefer ls = true) (hro : F.round = none) (hm : P.follows .mixedOrders = true)
    (h : wpAnyIn F n P .any ls.toArray Q ls.toArray.size (Array.replicate ls.toArray.size false) a w.drew) : (Code.region id ls.toArray true).wpIn (F.inRound l) n P Q a w :=
  wpIn_region_any hm (wpAnyIn_outR l (noDefer_spec hnd) hro _ _ _ _ h)
theorem loop_inv {F : Fence} {n : Nat} {P : Program} {Q : Exit → Act → World → Prop} {a : Act} {w : World} {c : Code} (Inv : Nat → Act → World → Prop) (N : Nat) (h0 : Inv N a w)
    (h : ∀ m a w, Inv m a w → c.wpIn F n P (Exit.then (fun a' w' => ∃ m', m = m' + 1 ∧ Inv m' a' w') Q) a w) : (Code.loop c).wpIn F n P Q a w := by
  refine wpIn_loop_rounds (N + 1) ?_
  have key : ∀ m a w, Inv m a w → Code.roundsIn F n P c Q (m + 1) a w := by
    intro m
    induction m with
    | zero =>
      intro a w hi
      rw [roundsIn_succ]
      refine wpIn_mono (h 0 a w hi) ?_
      intro e a' w' hq
      cases e with
      | normal => obtain ⟨m', e, _⟩ := hq; omega
      | _ => exact hq
    | succ m ih =>
      intro a w hi
      rw [roundsIn_succ]
      refine wpIn_mono (h (m + 1) a w hi) ?_
      intro e a' w' hq
      cases e with
      | normal =>
        obtain ⟨m', e, hi'⟩ := hq
        obtain rfl : m' = m := by omega
        exact ih a' w' hi'
      | _ => exact hq
  exact key N a w h0
def mark (D : Nat) : Deferred := { target := .collected D, args := #[] }
theorem leaves_marks {F : Fence} {n : Nat} {P : Program} {fn : Func} {tmps : Array Value} {R : Ending → World → Prop} {B : Nat} (Z : World → Prop) (hZ : ∀ W D, B ≤ D → W.heap[D]? = some (.deferred (some [])) → Z W → Z (W.putObj D (.deferred none)))
    (hend : ∀ W, Z W → LeavesInM F n P fn tmps R [] .returning W) : ∀ (Ds : List Nat) (W : World), Ds.Nodup → (∀ D ∈ Ds, B ≤ D ∧ W.heap[D]? = some (.deferred (some []))) → Z W → LeavesInM F n P fn tmps R (Ds.map mark) .returning W
  | [], W, _, _, hz => hend W hz
  | D :: Ds, W, hn, hD, hz => by
    obtain ⟨h1, h2⟩ := hD D (by simp)
    have hnd := List.nodup_cons.1 hn
    refine ⟨by simp, .inl ⟨D, _, rfl, run_takeDeferred h2, ?_⟩⟩
    refine leaves_marks Z hZ hend Ds _ hnd.2 (fun E hE => ?_) (hZ W D h1 h2 hz)
    obtain ⟨h3, h4⟩ := hD E (by simp [hE])
    exact ⟨h3, (put_other (j := E) (l := D) _ (fun e => hnd.1 (by rw [← e]; exact hE))).trans h4⟩
theorem KeepsOthers.of_below {W W' : World} (h : Below W.heap.size W W') : KeepsOthers W W' := ⟨h.size, fun l _ e _ => (h.block l (Array.getElem?_eq_some_iff.1 e).1).trans e⟩
theorem row1_new (w : World) (t : TypeId) (x : Value) : (w.alloc (.cells #[x] t)).rowIs w.heap.size t 1 (fun _ => x) :=
  World.rowIs_alloc w #[x] t (fun _ => x) (fun i hi => by
    have hi : i < 1 := hi
    obtain rfl : i = 0 := by omega
    rfl)
theorem row1 {w : World} {g : Nat} {t : TypeId} {x : Value} (h : w.rowIs g t 1 (fun _ => x)) : w.cell? ⟨g, 0, none⟩ = some x ∧ ∀ j, w.frozen? ⟨g, j, none⟩ = false := ⟨h.cell (i := 0) (by decide), h.frozen⟩
theorem row1_set {w : World} {g : Nat} {t : TypeId} {x : Value} (h : w.rowIs g t 1 (fun _ => x)) (y : Value) : (w.setCell ⟨g, 0, none⟩ y).rowIs g t 1 (fun _ => y) := (h.set 0 y).congr (fun i hi => by
  obtain rfl : i = 0 := by omega
  rfl)
theorem results_bool {fn : Func} {p : Tmp} (h : fn.results = #[.cell p 4]) (tmps : Array Value) (w : World) (g : Nat) (b : Bool) (hp : tmps.getD p undef = .pointer (some ⟨g, 0, none⟩)) (hc : w.cell? ⟨g, 0, none⟩ = some (.bool b)) :
    (results fn tmps).run Try.prog w = .ok (.bool b) w := by
  have hp' : tmps[p]?.getD undef = .pointer (some ⟨g, 0, none⟩) := by simpa using hp
  simp [results, h, hp', asAddr, loadVar, go_sem, hc]
theorem eqNilF_in (dp : Nat) (fn : Fn) (first cap : Array Value) (w : World) : (Op.equalIn (dp + 1) 45 (.func fn first cap) .nilFunc).run Try.prog w = .ok false w := by
  simp [Op.equalIn, run_underlying Try.underlying45]
theorem eqNilF (fn : Fn) (first cap : Array Value) (w : World) : (binOp .eql 45 (.func fn first cap) .nilFunc).run Try.prog w = .ok (.bool false) w := by
  simp only [binOp]
  simp [Op.equal, Op.maxDepth, eqNilF_in 9999]
theorem Hands2.later {P : Program} {gf : Nat} {lb : Array Value} {N : Nat} {G : Nat → Array Value → World → Prop} {Kp : World → World → Prop} {w w' : World} (h : Hands2 P gf lb N G Kp w) (f : Below w.heap.size w w') : Hands2 P gf lb N G Kp w' :=
  fun l J Jx W hW => h l J Jx W (fresh_trans f hW)
theorem row_put {W : World} {l b : Nat} {o o' : Obj} {t : TypeId} {m : Nat} {f : Nat → Value} (h : W.heap[l]? = some o) (hc : o.isCells = false) (hr : W.rowIs b t m f) : (W.putObj l o').rowIs b t m f := by
  refine hr.of_block (put_other _ (fun e => ?_))
  subst e
  obtain ⟨cs, hb, _⟩ := hr
  rw [hb] at h
  cases h
  cases hc
end Go.Proofs.Ytakekdbclmgeoaa
