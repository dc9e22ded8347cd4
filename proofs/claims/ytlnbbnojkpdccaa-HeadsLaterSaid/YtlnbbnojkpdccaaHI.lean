import Derived.Test.YtlnbbnojkpdccaaHG
namespace Go.Proofs.Ytlnbbnojkpdccaa
open Go.RowKit Go.Shelf
attribute [local go_sem] Oper.semAt_some
/-! What HeadsLater wants: CopyWide, a loop in a fence whose rounds leave marks. -/
set_option maxRecDepth 20000 in
set_option maxHeartbeats 1600000 in
theorem copyW_own {w : World} {ao : Option Addr} {n cap : Nat} {f : Nat → Int} (h : RdA w ao 1 n cap (fun i => .int .i64 (f i))) (hn : n ≤ 17592186043904) :
    Calls Try.prog 13 #[.slice ao n cap] w fun e w' => ∃ u uc, e = .returned (.slice u n uc) ∧ Own w' w.heap.size 2 1 (.slice u n uc) n (fun i => .int .i64 (f i)) ∧ Below w.heap.size w w' := by
  have hn2 : n ≤ 9223372036854775807 := by omega
  go_enter Try.func13, Try.ntmps13
  go_wp2
  go_loopw [3, 4] (fun v i wr => ∃ k : Nat, k ≤ n ∧ i = .int .i64 k ∧ Own wr w.heap.size 2 1 v k (fun j => .int .i64 (f j)) ∧ Below w.heap.size w wr) (fun _ i _ => n - (intOf i).toNat)
  case atStart => exact ⟨0, by omega, rfl, own_nil _ _ _ _ _, Below.refl _ _⟩
  case round =>
    obtain ⟨k, hk, rfl, hown, hf⟩ := hrel
    have hsz := hf.size
    by_cases hlt : k < n
    · obtain ⟨b1, o1, rfl, h1⟩ := (h.fresh hf).one (by omega)
      have d := h1 k hlt
      have hle := h.le
      have HX : Hid (∀ (w0 : World) (t : TypeId), (w0.alloc (.cells #[.int .i64 (f k)] t)).cell? ⟨w0.heap.size, 0, none⟩ = some ((fun j => Value.int .i64 (f j)) k)) := fun w0 t => new_cell _ _ _
      clear h1
      generalize f k = y at d HX
      go_wp2_with (at_builtin; refine wpList_app1 _ rfl _ _ 22 rfl w.heap.size 2 (.int .i64 0) 8 Try.underlying22 infoW rfl _ k (fun j => .int .i64 (f j)) rfl (hown.kept (fresh_alloc _ _)) _ 1 rfl (HX.out _ _) rfl (by omega) (by omega) (by simp; omega) ?_)
      intro v' w1 hown' happ
      have hf1 := happ.below (hf.alloc hsz _) (hown.kept (fresh_alloc _ _)) (Nat.le_refl _) (by simp; omega)
      clear happ hown
      go_wp2
      go_roundw
      case rel => exact ⟨k + 1, by omega, by go_num, hown', hf1⟩
      case measure => simp [intOf]; omega
    · obtain rfl : k = n := by omega
      obtain ⟨u, uc, rfl, hu⟩ := hown.rd
      go_wp2
      go_ret
      exact ⟨u, uc, rfl, hown, hf⟩
theorem loop_inv {F : Fence} {n : Nat} {P : Program} {Q : Exit → Act → World → Prop} {a : Act} {w : World} {c : Code} (Inv : Nat → Act → World → Prop) (N : Nat) (h0 : Inv N a w)
    (h : ∀ m a w, Inv m a w → c.wpIn F n P (Exit.then (fun a' w' => ∃ m', m = m' + 1 ∧ Inv m' a' w') Q) a w) : (Code.loop c).wpIn F n P Q a w := by
  refine wpIn_loop_rounds (N + 1) ?_
  have key : ∀ m a w, Inv m a w → Code.roundsIn F n P c Q (m + 1) a w := by
    intro m
    induction m with
    | zero =>
      intro a w hi
      rw [roundsIn_succ]
      refine wpIn_mono (h 0 a w hi) ?_
      intro e a' w' hq
      cases e with
      | normal => obtain ⟨m', e, _⟩ := hq; omega
      | _ => exact hq
    | succ m ih =>
      intro a w hi
      rw [roundsIn_succ]
      refine wpIn_mono (h (m + 1) a w hi) ?_
      intro e a' w' hq
      cases e with
      | normal =>
        obtain ⟨m', e, hi'⟩ := hq
        obtain rfl : m' = m := by omega
        exact ih a' w' hi'
      | _ => exact hq
  exact key N a w h0
def mark (D : Nat) : Deferred := { target := .collected D, args := #[] }
theorem put_other {W : World} {l j : Nat} (o' : Obj) (h : j ≠ l) : (W.putObj l o').heap[j]? = W.heap[j]? := World.putObj_heap_other h
theorem leaves_marks {F : Fence} {n : Nat} {P : Program} {fn : Func} {tmps : Array Value} {R : Ending → World → Prop} {B : Nat} (Z : World → Prop) (hZ : ∀ W D, B ≤ D → W.heap[D]? = some (.deferred (some [])) → Z W → Z (W.putObj D (.deferred none)))
    (hend : ∀ W, Z W → LeavesInM F n P fn tmps R [] .returning W) : ∀ (Ds : List Nat) (W : World), Ds.Nodup → (∀ D ∈ Ds, B ≤ D ∧ W.heap[D]? = some (.deferred (some []))) → Z W → LeavesInM F n P fn tmps R (Ds.map mark) .returning W
  | [], W, _, _, hz => hend W hz
  | D :: Ds, W, hn, hD, hz => by
    obtain ⟨h1, h2⟩ := hD D (by simp)
    have hnd := List.nodup_cons.1 hn
    refine ⟨by simp, .inl ⟨D, _, rfl, run_takeDeferred h2, ?_⟩⟩
    refine leaves_marks Z hZ hend Ds _ hnd.2 (fun E hE => ?_) (hZ W D h1 h2 hz)
    obtain ⟨h3, h4⟩ := hD E (by simp [hE])
    exact ⟨h3, (put_other (j := E) (l := D) _ (fun e => hnd.1 (by rw [← e]; exact hE))).trans h4⟩
theorem results_bool {fn : Func} {p : Tmp} (h : fn.results = #[.cell p 4]) (tmps : Array Value) (w : World) (g : Nat) (b : Bool) (hp : tmps.getD p undef = .pointer (some ⟨g, 0, none⟩)) (hc : w.cell? ⟨g, 0, none⟩ = some (.bool b)) :
    (results fn tmps).run Try.prog w = .ok (.bool b) w := by
  have hp' : tmps[p]?.getD undef = .pointer (some ⟨g, 0, none⟩) := by simpa using hp
  simp [results, h, hp', asAddr, loadVar, go_sem, hc]
/-- what may change: one block below, and what is new -/
theorem own_grown (B Nb : Nat) (W0 : World) (hB : W0.heap.size ≤ B) : OwnFrom B (fun (_ : Unit) W => W0.grownBy W (some Nb)) := fun _ X Y row h hg hr =>
  ⟨hg.os.trans h.os, hg.tape.trans h.tape, hg.output.trans h.output, Nat.le_trans h.size hg.size, fun k hk hne => by
    rw [hg.block k (Nat.lt_of_lt_of_le hk h.size) (fun e => by have := (hr k e.symm).1; omega)]
    exact h.block k hk hne⟩
/-- what the law keeps: all that was there but two blocks -/
structure Kb (W0 W : World) (Nb bl : Nat) : Prop where
  os : W.os = W0.os
  tape : W.tape = W0.tape
  output : W.output = W0.output
  size : W0.heap.size ≤ W.heap.size
  block : ∀ z, z < W0.heap.size → z ≠ Nb → z ≠ bl → W.heap[z]? = W0.heap[z]?
theorem Kb.of {W0 W : World} {Nb : Nat} (h : W0.grownBy W (some Nb)) (bl : Nat) : Kb W0 W Nb bl := ⟨h.os, h.tape, h.output, h.size, fun z h1 h2 _ => h.block z h1 (fun e => h2 (by injection e))⟩
theorem Kb.fresh {W0 W W' : World} {Nb bl : Nat} (h : Kb W0 W Nb bl) (f : Below W.heap.size W W') : Kb W0 W' Nb bl :=
  ⟨f.os.trans h.os, f.tape.trans h.tape, f.output.trans h.output, Nat.le_trans h.size f.size, fun z h1 h2 h3 => (f.block z (Nat.lt_of_lt_of_le h1 h.size)).trans (h.block z h1 h2 h3)⟩
theorem Kb.set {W0 W : World} {Nb bl : Nat} (h : Kb W0 W Nb bl) (o : Nat) (v : Value) : Kb W0 (W.setCell ⟨bl, o, none⟩ v) Nb bl :=
  ⟨h.os, h.tape, h.output, by simpa using h.size, fun z h1 h2 h3 => (Below.heap_setCell _ _ _ _ (by show z ≠ bl; exact h3)).trans (h.block z h1 h2 h3)⟩
theorem Kb.box {W0 W : World} {Nb bl B : Nat} {t : TypeId} {v : Value} (h : Kb W0 W Nb bl) (hb : Boxed W0 B t v) (h1 : B ≠ Nb) (h2 : B ≠ bl) : Boxed W B t v := (h.block B hb.lt h1 h2).trans hb
theorem Kb.cell {W0 W : World} {Nb bl B o : Nat} {v : Value} (h : Kb W0 W Nb bl) (hc : W0.cell? ⟨B, o, none⟩ = some v) (h1 : B ≠ Nb) (h2 : B ≠ bl) : W.cell? ⟨B, o, none⟩ = some v := by
  rw [← hc]
  unfold World.cell?
  rw [h.block B (lt_of_cell hc) h1 h2]
theorem Kb.ord {W0 W : World} {Nb bl g : Nat} {L : List (Int × Int)} (h : Kb W0 W Nb bl) (hO : OrdAt W0 g L) (h1 : g ≠ Nb) (h2 : g ≠ bl) : OrdAt W g L := ⟨fun k hk => h.cell (hO.fst k hk) h1 h2, fun k hk => h.cell (hO.snd k hk) h1 h2⟩
theorem Kb.below {W0 W w : World} {Nb bl : Nat} (h : Kb W0 W Nb bl) (hb : Below w.heap.size w W0) (h1 : w.heap.size ≤ Nb) (h2 : w.heap.size ≤ bl) : Below w.heap.size w W :=
  ⟨h.os.trans hb.os, h.tape.trans hb.tape, h.output.trans hb.output, Nat.le_trans hb.size h.size, fun z hz => (h.block z (Nat.lt_of_lt_of_le hz hb.size) (by omega) (by omega)).trans (hb.block z hz)⟩
/-- the law's own list: whole numbers that may be written -/
def LRow (n bl : Nat) (W : World) : Prop := 0 < n → ∃ cp F, W.rowIs bl 2 cp F ∧ n ≤ cp ∧ ∀ j, j < n → ∃ y : Int, F j = .int .i64 y
theorem LRow.set {n bl : Nat} {W : World} (h : LRow n bl W) (i : Nat) (y : Int) : LRow n bl (W.setCell ⟨bl, i, none⟩ (.int .i64 y)) := fun h0 => by
  obtain ⟨cp, F, hr, hc, hF⟩ := h h0
  refine ⟨cp, _, hr.set i (.int .i64 y), hc, fun j hj => ?_⟩
  by_cases e : j = i
  · exact ⟨y, by simp [e]⟩
  · obtain ⟨z, hz⟩ := hF j hj
    exact ⟨z, by simp [e, hz]⟩
theorem LRow.blk {n bl : Nat} {W W' : World} (h : LRow n bl W) (e : W'.heap[bl]? = W.heap[bl]?) : LRow n bl W' := fun h0 => by
  obtain ⟨cp, F, hr, hc, hF⟩ := h h0
  exact ⟨cp, F, hr.of_block e, hc, hF⟩
theorem LRow.lt {n bl : Nat} {W : World} (h : LRow n bl W) (h0 : 0 < n) : bl < W.heap.size := by
  obtain ⟨cp, F, hr, _⟩ := h h0
  exact hr.lt
end Go.Proofs.Ytlnbbnojkpdccaa
