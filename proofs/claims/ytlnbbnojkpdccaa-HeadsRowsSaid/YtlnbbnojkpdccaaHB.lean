import Derived.RangeFuncNested
import Derived.RangeFuncLeaves
import Derived.Shelf.Abstract
import Derived.OwnWalkIn
import Derived.TacticsInMore
import Derived.LoopNIn
import Derived.LoopIn
import Derived.RegionIn
import Derived.Test.YtlnbbnojkpdccaaHA
namespace Go.Proofs.Ytlnbbnojkpdccaa
open Go.RowKit Go.Shelf
attribute [local go_sem] Oper.semAt_some
/-! The iterator of Ranked: what lies in the order is handed over, one by one. -/
def encX (x : Int × Int) : Array Value := #[.int .i64 x.1, .int .i64 x.2]
structure OrdAt (w : World) (g : Nat) (L : List (Int × Int)) : Prop where
  fst : ∀ k, k < L.length → w.cell? ⟨g, k * 2, none⟩ = some (.int .i64 (L.getD k (0, 0)).1)
  snd : ∀ k, k < L.length → w.cell? ⟨g, k * 2 + 1, none⟩ = some (.int .i64 (L.getD k (0, 0)).2)
theorem OrdAt.below {w w' : World} {g n : Nat} {L : List (Int × Int)} (h : OrdAt w g L) (f : Below n w w') (hg : g < n) : OrdAt w' g L :=
  ⟨fun j hj => (f.cell (p := ⟨g, j * 2, none⟩) hg).trans (h.fst j hj), fun j hj => (f.cell (p := ⟨g, j * 2 + 1, none⟩) hg).trans (h.snd j hj)⟩
/-- what a round keeps: two blocks -/
structure KpB (a b : Nat) (W W' : World) : Prop where
  size : W.heap.size ≤ W'.heap.size
  fst : W'.heap[a]? = W.heap[a]?
  snd : W'.heap[b]? = W.heap[b]?
theorem KpB.refl (a b : Nat) (W : World) : KpB a b W W := ⟨Nat.le_refl _, rfl, rfl⟩
theorem KpB.trans {a b : Nat} {X Y Z : World} (h : KpB a b X Y) (k : KpB a b Y Z) : KpB a b X Z := ⟨Nat.le_trans h.size k.size, k.fst.trans h.fst, k.snd.trans h.snd⟩
theorem KpB.cell {a b : Nat} {W W' : World} (h : KpB a b W W') {x o : Nat} (hx : x = a ∨ x = b) : W'.cell? ⟨x, o, none⟩ = W.cell? ⟨x, o, none⟩ := by
  unfold World.cell?
  rcases hx with rfl | rfl
  · simp only [h.fst]
  · simp only [h.snd]
theorem KpB.of_below {a b n : Nat} {W W' : World} (h : Below n W W') (ha : a < n) (hb : b < n) : KpB a b W W' := ⟨h.size, h.block a ha, h.block b hb⟩
theorem OrdAt.keep {w w' : World} {a g : Nat} {L : List (Int × Int)} (h : OrdAt w g L) (f : KpB a g w w') : OrdAt w' g L :=
  ⟨fun j hj => (f.cell (.inr rfl)).trans (h.fst j hj), fun j hj => (f.cell (.inr rfl)).trans (h.snd j hj)⟩
theorem grown_of {W W' : World} (h : Below W.heap.size W W') : W.grownBy W' none := ⟨h.os, h.tape, h.output, h.size, fun k hk _ => h.block k hk⟩
theorem abides_below {B : Nat} {J : List (Int × Int) → World → Prop} (hJ : AbidesFrom B J) {s : List (Int × Int)} {W W' : World} (h : J s W) (f : Below W.heap.size W W') : J s W' :=
  hJ s W W' none h (grown_of f) (fun r e => by cases e)
set_option maxRecDepth 100000 in
set_option maxHeartbeats 1600000 in
theorem iter_in (F : Fence) (n : Nat) (hF : F.fn 25) (hro : F.round = none) (hn : 1 ≤ n) (l Bn g cap : Nat) (L : List (Int × Int)) (hL : L.length ≤ 9223372036854775807) (J Jx : List (Int × Int) → World → Prop)
    (W : World) (hJ : AbidesFrom W.heap.size J)
    (hY : ∀ pre x W, J pre W → pre.length < L.length → YieldAt F (n - 1) Try.prog l (encX x) W fun e W' => (e = .returned (.bool true) ∧ J (pre ++ [x]) W' ∧ KpB Bn g W W') ∨ (e = .returned (.bool false) ∧ Jx (pre ++ [x]) W'))
    (hBn : W.cell? ⟨Bn, 0, none⟩ = some (.slice (some ⟨g, 0, none⟩) L.length cap)) (hT : OrdAt W g L) (hg : g < W.heap.size) (h0 : J [] W) :
    CallsIn F n Try.prog 25 #[.func (.yield l) #[] #[], .pointer (some ⟨Bn, 0, none⟩)] W fun e W' => (∃ v, e = .returned v) ∧ ((∃ ys, ys = L ∧ J ys W') ∨ (∃ pre, pre <+: L ∧ Jx pre W')) := by
  refine callsIn_of_wp Try.func25 rfl hF ?_ hro
  simp only [Try.ntmps25, List.size_toArray, List.length_cons, List.length_nil, Nat.reduceAdd, Nat.reduceSub, Array.replicate_succ, Array.replicate_zero, List.push_toArray, List.append_toArray, List.nil_append, List.cons_append]
  have HT := hidd hT
  have HY := hidd hY
  have HJ0 := hidd hJ
  have hBl := lt_of_cell hBn
  clear hT hY hJ
  gi_wp2
  gi_loopw [7] (fun i wr => ∃ k : Nat, k ≤ L.length ∧ i = .int .i64 (k : Int) ∧ Hid (J (L.take k) wr) ∧ KpB Bn g W wr) (fun i _ => L.length - (intOf i).toNat)
  case atStart => exact ⟨0, Nat.zero_le _, by simp, by show J _ _; simpa using h0, KpB.refl _ _ _⟩
  case round =>
    obtain ⟨k, hk, rfl, HJ, hf⟩ := hrel
    by_cases hlt : k < L.length
    · obtain ⟨a, b, HE⟩ : ∃ a b, Hid ((a, b) = L.getD k (0, 0)) := ⟨(L.getD k (0, 0)).1, (L.getD k (0, 0)).2, rfl⟩
      have c1 := (HT.out.keep hf).fst k hlt
      have c2 := (HT.out.keep hf).snd k hlt
      rw [← HE.out] at c1 c2
      have HE2 : Hid (L.take k ++ [(a, b)] = L.take (k + 1)) := by
        show _ = _
        rw [List.take_add_one, HE.out, List.getD_eq_getElem?_getD, List.getElem?_eq_getElem hlt]
        rfl
      have hgl : g ≠ wr.heap.size := by have := hf.size; omega
      have hbl : Bn ≠ wr.heap.size := by have := hf.size; omega
      have i0 : (0 : Int) ≤ (k : Int) := by omega
      have i1 : (k : Int) < (L.length : Int) := by omega
      have HJ1 := hidd (abides_below HJ0.out HJ.out (fresh_alloc wr (.cells #[.int .i64 a, .int .i64 b] 71)))
      obtain ⟨fn, tmps, assign, body, hy, hR⟩ := HY.out (L.take k) (a, b) _ HJ1.out (by rw [List.length_take]; omega)
      unfold encX at hy
      have hk1 : KpB Bn g wr (wr.alloc (.cells #[.int .i64 a, .int .i64 b] 71)) := KpB.of_below (fresh_alloc _ _) (by have := hf.size; omega) (by have := hf.size; omega)
      gi_wp2
      refine hR.mono ?_
      rintro e W3 (⟨rfl, hJ3, hk3⟩ | ⟨rfl, hJx3⟩)
      · gi_wp2
        go_roundw
        case rel => exact ⟨k + 1, by omega, by go_num, by show J _ _; rw [← HE2.out]; exact hJ3, (hf.trans hk1).trans hk3⟩
        case measure => simp [intOf] <;> omega
      · gi_wp2
        refine bodyPost_ret (results_none rfl _ _ _) rfl ?_
        exact ⟨⟨_, rfl⟩, .inr ⟨_, by rw [HE2.out]; exact List.take_prefix _ _, hJx3⟩⟩
    · obtain rfl : k = L.length := by omega
      have HE : Hid (J L wr) := by have := HJ.out; rw [List.take_length] at this; exact this
      gi_wp2
      go_end0
      exact ⟨⟨_, rfl⟩, .inl ⟨_, rfl, HE.out⟩⟩
theorem iter_stops (F : Fence) (n : Nat) (hF : F.fn 25) (hro : F.round = none) (hn : 1 ≤ n) (Bn g cap : Nat) (L : List (Int × Int)) (hL : L.length ≤ 9223372036854775807) (w : World) (hBl : Bn < w.heap.size) (hg : g < w.heap.size)
    (hc : w.cell? ⟨Bn, 0, none⟩ = some (.slice (some ⟨g, 0, none⟩) L.length cap)) (hT : OrdAt w g L) :
    SeqStopsK F n Try.prog 25 #[.pointer (some ⟨Bn, 0, none⟩)] encX (KpB Bn g) (fun ys => ys = L) (fun ys => ys <+: L) L.length w := fun l J Jx W hW hJ _ hY h0 =>
  iter_in F n hF hro hn l Bn g cap L hL J Jx W hJ hY ((hW.cell (p := ⟨Bn, 0, none⟩) hBl).trans hc) (hT.below hW hg) (Nat.lt_of_lt_of_le hg hW.size) h0
end Go.Proofs.Ytlnbbnojkpdccaa
