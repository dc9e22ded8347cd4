import Derived.RangeFuncNested
import Derived.RangeFuncLeaves
import Derived.Shelf.Abstract
import Derived.OwnWalkIn
import Derived.TacticsInMore
import Derived.LoopNIn
import Derived.LoopIn
import Derived.RegionIn
import Derived.Test.YtaalinlggjimcaaXH
namespace Go.Proofs.Ytaalinlggjimcaa
open Go.RowKit Go.Shelf
attribute [local go_sem] Oper.semAt_some
/-! Backward over a text, and is. -/
abbrev PcT := { p : List Int // Pc p }
def encP (x : Nat × PcT) : Array Value := #[.int .i64 (x.1 : Int), pieceV x.2.1]
/-- a text in memory -/
def textF (t : List (List Int)) : Nat → Value := fun j => .int .i64 ((t.getD (j / 16) []).getD (j % 16) 0)
structure TextAt (w : World) (g : Nat) (t : List (List Int)) : Prop where
  row : ∀ j, j < t.length * 16 → w.cell? ⟨g, j, none⟩ = some (textF t j)
  pcs : ∀ p ∈ t, Pc p
theorem TextAt.below {w w' : World} {g n : Nat} {t : List (List Int)} (h : TextAt w g t) (f : Below n w w') (hg : g < n) : TextAt w' g t := ⟨fun j hj => (f.cell (p := ⟨g, j, none⟩) hg).trans (h.row j hj), h.pcs⟩
theorem getD_mem {α : Type} {l : List α} {k : Nat} {d : α} (h : k < l.length) : l.getD k d ∈ l := by
  rw [List.getD_eq_getElem?_getD, List.getElem?_eq_getElem h]; exact List.getElem_mem h
theorem TextAt.piece {w : World} {g : Nat} {t : List (List Int)} (h : TextAt w g t) {k : Nat} (hk : k < t.length) : w.rangeAt g (k * 16) (ints (t.getD k [])) := by
  intro j v hj
  have hp := h.pcs _ (getD_mem (d := []) hk)
  have hjl : j < 16 := by have := (List.getElem?_eq_some_iff.1 hj).1; rw [ints_len, hp.1] at this; exact this
  rw [h.row (k * 16 + j) (by omega)]
  unfold textF
  rw [show (k * 16 + j) / 16 = k by omega, show (k * 16 + j) % 16 = j by omega]
  unfold ints at hj
  rw [List.getElem?_map] at hj
  rw [List.getD_eq_getElem?_getD (l := t.getD k [])]
  cases hq : (t.getD k [])[j]? with
  | none => rw [hq] at hj; cases hj
  | some y => rw [hq] at hj; simpa using hj
/-- what a round keeps: two blocks -/
structure KpB (a b : Nat) (W W' : World) : Prop where
  size : W.heap.size ≤ W'.heap.size
  fst : W'.heap[a]? = W.heap[a]?
  snd : W'.heap[b]? = W.heap[b]?
theorem KpB.refl (a b : Nat) (W : World) : KpB a b W W := ⟨Nat.le_refl _, rfl, rfl⟩
theorem KpB.trans {a b : Nat} {X Y Z : World} (h : KpB a b X Y) (k : KpB a b Y Z) : KpB a b X Z := ⟨Nat.le_trans h.size k.size, k.fst.trans h.fst, k.snd.trans h.snd⟩
theorem KpB.cell {a b : Nat} {W W' : World} (h : KpB a b W W') {x o : Nat} (hx : x = a ∨ x = b) : W'.cell? ⟨x, o, none⟩ = W.cell? ⟨x, o, none⟩ := by
  unfold World.cell?
  rcases hx with rfl | rfl
  · simp only [h.fst]
  · simp only [h.snd]
theorem KpB.of_below {a b n : Nat} {W W' : World} (h : Below n W W') (ha : a < n) (hb : b < n) : KpB a b W W' := ⟨h.size, h.block a ha, h.block b hb⟩
theorem TextAt.keep {w w' : World} {a g : Nat} {t : List (List Int)} (h : TextAt w g t) (f : KpB a g w w') : TextAt w' g t := ⟨fun j hj => (f.cell (.inr rfl)).trans (h.row j hj), h.pcs⟩
/-- what is handed over: the pieces from behind -/
def back (t : List (List Int)) (ys : List (Nat × PcT)) : Prop := ys.map (fun x => x.2.1) <+: t.reverse
theorem sizePc : (Try.prog.info? 73).map (·.size) = some 16 := by kernel_rfl
theorem load_piece {w : World} {b o : Nat} {p : List Int} (hp : Pc p) (h : w.rangeAt b o (ints p)) : (Instr.loadAt 73 (.pointer (some ⟨b, o, none⟩))).run Try.prog w = .ok (pieceV p) w :=
  run_loadAt_mid w b o 73 (ints p) _ h Try.underlying73 rfl (by rw [ints_len, hp.1]; exact sizePc)
theorem rev_get {t : List (List Int)} {j : Nat} (h : j < t.length) : t.reverse[j]? = some (t.getD (t.length - 1 - j) []) := by
  rw [List.getElem?_reverse h, List.getD_eq_getElem?_getD, List.getElem?_eq_getElem (by omega)]; rfl
theorem wpListIn_load_mid {F : Fence} {nF : Nat} {P : Program} {ops : Array Oper} {rest : List Oper} {op : Oper} {a : Act} {w : World} {Q : Exit → Act → World → Prop} (hgd : op.guard = none) (ty : TypeId) (x : Operand) (ho : op.op = .load ty x)
    (b o : Nat) (hx : a.eval x = .pointer (some ⟨b, o, none⟩)) (cs : List Value) (d : TypeDesc) (hc : w.rangeAt b o cs)
    (hu : P.underlying ty = some d) (hd : d.isRow = true) (hi : (P.info? ty).map (·.size) = some cs.length)
    (h : wpListIn F nF P ops Q rest (a.put op.dst (.agg cs.toArray)) w) : wpListIn F nF P ops Q (op :: rest) a w := by
  refine wpListIn_plain hgd fun K' hK' => ?_
  unfold Oper.wpIn
  refine ⟨by simp [Oper.about, ho], ?_⟩
  rw [Oper.semAt_plain F _ _ (by rw [ho]; intro c hc'; cases hc')]
  unfold execOp
  simp only [ho, hx, Instr.loadAt, Instr.sureAddr, Sem.run_bind, Sem.run_pure, Result.andThen_ok, run_loadVar_mid w b o ty cs d hc hu hd hi]
  exact hK' _ _ h
theorem wpListIn_store_mid {F : Fence} {nF : Nat} {P : Program} {ops : Array Oper} {rest : List Oper} {op : Oper} {a : Act} {w : World} {Q : Exit → Act → World → Prop} (hgd : op.guard = none) (ty : TypeId) (x y : Operand) (ho : op.op = .store ty x y)
    (b o : Nat) (hx : a.eval x = .pointer (some ⟨b, o, none⟩)) (cells : Array Value) (hy : a.eval y = .agg cells) (ht : w.there b o cells.size)
    (hi : (P.info? ty).map (·.size) = some cells.size) (h1 : cells.all (·.oneCell') = true)
    (h : wpListIn F nF P ops Q rest (a.put op.dst undef) (w.setCells b o cells.toList)) : wpListIn F nF P ops Q (op :: rest) a w := by
  refine wpListIn_plain hgd fun K' hK' => ?_
  unfold Oper.wpIn
  refine ⟨by simp [Oper.about, ho], ?_⟩
  rw [Oper.semAt_plain F _ _ (by rw [ho]; intro c hc'; cases hc')]
  unfold execOp
  have e := run_storeAt_mid w b o ty cells ht hi h1
  simp only [ho, hx, hy, Sem.run_bind, Sem.run_pure, Result.andThen_ok, e]
  exact hK' _ _ h
set_option maxRecDepth 100000 in
set_option maxHeartbeats 1000000 in
theorem back_in (F : Fence) (n : Nat) (hF : F.fn 78) (hro : F.round = none) (hn : 1 ≤ n) (l Bn g cap : Nat) (t : List (List Int)) (ht : t.length ≤ 1000) (J Jx : List (Nat × PcT) → World → Prop)
    (hY : ∀ pre x W, J pre W → pre.length < t.length → YieldAt F (n - 1) Try.prog l (encP x) W fun e W' => (e = .returned (.bool true) ∧ J (pre ++ [x]) W' ∧ KpB Bn g W W') ∨ (e = .returned (.bool false) ∧ Jx (pre ++ [x]) W'))
    (W : World) (hBn : W.cell? ⟨Bn, 0, none⟩ = some (.slice (some ⟨g, 0, none⟩) t.length cap)) (hT : TextAt W g t) (h0 : J [] W) :
    CallsIn F n Try.prog 78 #[.func (.yield l) #[] #[], .pointer (some ⟨Bn, 0, none⟩)] W fun e W' => (∃ v, e = .returned v) ∧ ((∃ ys, (ys.map (fun x => x.2.1) = t.reverse) ∧ J ys W') ∨ (∃ pre, back t pre ∧ Jx pre W')) := by
  refine callsIn_of_wp Try.func78 rfl hF ?_ hro
  simp only [Try.ntmps78, List.size_toArray, List.length_cons, List.length_nil, Nat.reduceAdd, Nat.reduceSub, Array.replicate_succ, Array.replicate_zero, List.push_toArray, List.append_toArray, List.nil_append, List.cons_append]
  have HT := hidd hT
  have HY := hidd hY
  clear hT hY
  gi_wp2
  gi_loopw [3] (fun i wr => ∃ pre : List (Nat × PcT), pre.length ≤ t.length ∧ i = .int .i64 ((t.length : Int) - 1 - pre.length) ∧ Hid (pre.map (fun x => x.2.1) = t.reverse.take pre.length) ∧ Hid (J pre wr) ∧ KpB Bn g W wr) (fun i _ => ((intOf i) + 1).toNat)
  case atStart => exact ⟨[], Nat.zero_le _, by simp, by show _ = _; simp, h0, KpB.refl _ _ _⟩
  case round =>
    obtain ⟨pre, hk, rfl, HPR, HJ, hf⟩ := hrel
    have c1 := (hf.cell (.inl rfl)).trans hBn
    by_cases hlt : pre.length < t.length
    · obtain ⟨k, hkk⟩ : ∃ k : Nat, k = t.length - 1 - pre.length := ⟨_, rfl⟩
      have ek : (t.length : Int) - 1 - pre.length = (k : Int) := by omega
      have hkl : k < t.length := by omega
      obtain ⟨q, HQ⟩ : ∃ q, Hid (q = t.getD k []) := ⟨_, rfl⟩
      have hp : Pc q := by rw [HQ.out]; exact HT.out.pcs _ (getD_mem (d := []) hkl)
      obtain ⟨fn, tmps, assign, body, hy, hR⟩ := HY.out pre (k, ⟨q, hp⟩) wr HJ.out hlt
      have HRG : Hid (wr.rangeAt g (k * 16) (ints q)) := by show wr.rangeAt _ _ _; rw [HQ.out]; exact (HT.out.keep hf).piece hkl
      have HSZ : Hid ((Try.prog.info? 73).map (·.size) = some (ints q).length) := by show _ = _; rw [ints_len, hp.1]; exact sizePc
      have HE : Hid ((pre ++ [(k, (⟨q, hp⟩ : PcT))]).map (fun x => x.2.1) = t.reverse.take (pre.length + 1)) := by
        show _ = _
        rw [List.map_append, HPR.out, List.take_add_one, rev_get hlt, ← hkk, ← HQ.out]
        rfl
      unfold encP pieceV at hy
      rw [ek]
      have HKK := hidd hkk
      clear hkk
      gi_wp2_with (refine wpListIn_load_mid (by rfl) 73 _ (by rfl) g (k * 16) (by rfl) (ints q) _ HRG.out Try.underlying73 (by rfl) HSZ.out ?_)
      refine hR.mono ?_
      rintro e W3 (⟨rfl, hJ3, hk3⟩ | ⟨rfl, hJx3⟩)
      · gi_wp2
        go_roundw
        case rel => exact ⟨pre ++ [(k, (⟨q, hp⟩ : PcT))], by simp; omega, by simp; omega, by show _ = _; rw [HE.out]; simp, hJ3, hf.trans hk3⟩
        case measure => simp [intOf] <;> omega
      · gi_wp2
        refine bodyPost_ret (results_none rfl _ _ _) rfl ?_
        exact ⟨⟨_, rfl⟩, .inr ⟨_, by show _ <+: _; rw [HE.out]; exact List.take_prefix _ _, hJx3⟩⟩
    · have e1 : (t.length : Int) - 1 - pre.length = -1 := by omega
      have HE : Hid (pre.map (fun x => x.2.1) = t.reverse) := by
        show _ = _
        rw [HPR.out, List.take_of_length_le (by simp; omega)]
      rw [e1]
      gi_wp2
      go_end0
      exact ⟨⟨_, rfl⟩, .inl ⟨pre, HE.out, HJ.out⟩⟩
theorem back_stops (F : Fence) (n : Nat) (hF : F.fn 78) (hro : F.round = none) (hn : 1 ≤ n) (Bn g cap : Nat) (t : List (List Int)) (ht : t.length ≤ 1000) (w : World) (hBl : Bn < w.heap.size) (hg : g < w.heap.size)
    (hc : w.cell? ⟨Bn, 0, none⟩ = some (.slice (some ⟨g, 0, none⟩) t.length cap)) (hT : TextAt w g t) :
    SeqStopsK F n Try.prog 78 #[.pointer (some ⟨Bn, 0, none⟩)] encP (KpB Bn g) (fun ys => ys.map (fun x => x.2.1) = t.reverse) (back t) t.length w := fun l J Jx W hW _ _ hY h0 =>
  back_in F n hF hro hn l Bn g cap t ht J Jx hY W ((hW.cell (p := ⟨Bn, 0, none⟩) hBl).trans hc) (hT.below hW hg) h0
theorem mkf (fn : Fn) (first cap : Array Value) (w : World) : (Instr.makeFunc fn first cap).run Try.prog w = .ok (.func fn first cap) w := by simp [Instr.makeFunc]
set_option maxHeartbeats 1000000 in
theorem backward_any (ao : Option Addr) (n k : Nat) (w : World) : Calls Try.prog 75 #[.slice ao n k] w fun e w' => e = .returned (.func (.func 78) #[] #[.pointer (some ⟨w.heap.size, 0, none⟩)]) ∧ w' = w.alloc (.cells #[.slice ao n k] 82) := by
  have hmf := mkf
  go_enter Try.func75, Try.ntmps75
  go_wp2
  go_ret
  exact ⟨rfl, rfl⟩
end Go.Proofs.Ytaalinlggjimcaa
