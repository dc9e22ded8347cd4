import Derived.Test.YtlnbbnojkpdccaaHB
import Derived.Test.YtlnbbnojkpdccaaHC
namespace Go.Proofs.Ytlnbbnojkpdccaa
open Go.RowKit Go.Shelf
open Go.Sort hiding Below
/-! inOrder, Ranked. -/
def encH (x : Int × Int) : List Value := [.int .i64 x.1, .int .i64 x.2]
theorem below_sort {B : Nat} {w W : World} (h : Below B w W) {blk off m : Nat} {d : Array (Int × Int)} {os : Array Obj} (hb : B ≤ blk) (hB : B ≤ W.heap.size) : Below B w (sortWorldK encH 2 W blk off m d os) := by
  refine ⟨h.os, h.tape, h.output, Nat.le_trans h.size ?_, fun k hk => ?_⟩
  · unfold sortWorldK
    rw [Go.Sort.size_grow, size_putRowK]
    exact Nat.le_add_right _ _
  · rw [← h.block k hk]
    unfold sortWorldK
    rw [Go.Sort.heap_grow_old _ _ (by rw [size_putRowK]; show k < W.heap.size; omega)]
    unfold putRowK putRow mapBlock
    show (W.heap.modify blk _)[k]? = _
    rw [Array.getElem?_modify]
    rw [if_neg (by omega)]
theorem made2 (w : World) (n : Nat) (t : TypeId) : (w.alloc (.cells (madeCells #[.int .i64 0, .int .i64 0] (n * 2)) t)).rowIs w.heap.size t (n * 2) (fun _ => .int .i64 0) :=
  ⟨_, Go.Deep.blk_alloc_new _ _, size_madeCells _ _, fun i hi => by
    have : i % 2 = 0 ∨ i % 2 = 1 := by omega
    rcases this with e | e <;> simp [madeCells, hi, e]⟩
theorem run_make_cands (n : Nat) (hn : n ≤ 17592186043904) (w : World) : (Instr.makeSlice 67 (.int .i64 (n : Int)) (.int .i64 (n : Int))).run Try.prog w = .ok (.slice (some ⟨w.heap.size, 0, none⟩) n n) (w.alloc (.cells (madeCells #[.int .i64 0, .int .i64 0] (n * 2)) 71)) := by
  obtain ⟨i, hi, z0, z1, z2⟩ := info_parts infoC
  have hr := run_make (P := Try.prog) w 67 71 i _ Try.underlying67 hi z0 .i64 .i64 n n (by omega) (Int.le_refl _) (by rw [z2]; omega) (by omega)
  simp only [Int.toNat_natCast, z1] at hr
  exact hr
def candF (f : Nat → Int) (k : Nat) : Nat → Value := fun j => if j < k * 2 then (if j % 2 = 0 then .int .i64 ((j / 2 : Nat) : Int) else .int .i64 (f (j / 2))) else .int .i64 0
theorem candF_next (f : Nat → Int) (k j : Nat) : (if j = k * 2 + 1 then Value.int .i64 (f k) else if j = k * 2 then .int .i64 (k : Int) else candF f k j) = candF f (k + 1) j := by
  unfold candF
  by_cases h1 : j = k * 2 + 1
  · rw [if_pos h1, if_pos (by omega), if_neg (by omega), show j / 2 = k by omega]
  · rw [if_neg h1]
    by_cases h2 : j = k * 2
    · rw [if_pos h2, if_pos (by omega), if_pos (by omega), show j / 2 = k by omega]
    · rw [if_neg h2]
      by_cases h3 : j < k * 2
      · simp only [if_pos h3, if_pos (show j < (k + 1) * 2 by omega)]
      · simp only [if_neg h3, if_neg (show ¬ j < (k + 1) * 2 by omega)]
theorem holds_cand {w : World} {g n : Nat} {f : Nat → Int} (h : w.rowIs g 71 (n * 2) (candF f n)) : HoldsK encH 2 w g 0 (cand f n).toArray := by
  intro t ht
  have ht : t < n * 2 := by simpa [cand_len] using ht
  refine ⟨?_, h.frozen _⟩
  rw [Nat.zero_add, h.cell ht, get_flatK _ _ _ _ (by simpa [cand_len] using ht)]
  have e : (cand f n).toArray[t / 2]! = (((t / 2 : Nat) : Int), f (t / 2)) := by
    have hl : t / 2 < n := by omega
    simp [cand, hl]
  rw [e]
  unfold candF encH
  rw [if_pos ht]
  have : t % 2 = 0 ∨ t % 2 = 1 := by omega
  rcases this with e | e <;> simp [e]
theorem ord_sorted {W : World} {blk m n : Nat} {f : Nat → Int} {os : Array Obj} (hH : HoldsK encH 2 W blk 0 (cand f n).toArray) (hb : blk < W.heap.size) : OrdAt (sortWorldK encH 2 W blk 0 m (ordL f n).toArray os) blk (ordL f n) := by
  have h := holdsK_sortWorldK encH 2 W blk 0 m (cand f n).toArray (ordL f n).toArray os hb hH (by simp [cand_len, ordL_len])
  have e : ∀ k, k < (ordL f n).length → (ordL f n).toArray[k]! = (ordL f n).getD k (0, 0) := fun k hk => by
    rw [getElem!_pos (ordL f n).toArray k (by simpa using hk), List.getElem_toArray, List.getD_eq_getElem?_getD, List.getElem?_eq_getElem hk]; rfl
  refine ⟨fun k hk => ?_, fun k hk => ?_⟩
  · have := (HoldsK.cell h (i := k) (c := 0) (by simpa using hk) (by decide)).1
    rw [e k hk] at this
    simpa [encH] using this
  · have := (HoldsK.cell h (i := k) (c := 1) (by simpa using hk) (by decide)).1
    rw [e k hk] at this
    simpa [encH] using this
theorem cmpLays (blk off size : Nat) (w : World) : CmpLays Try.prog 37 #[] encH 2 cfH blk off size w := fun _ _ _ _ x y => cmp_any x y _
set_option maxRecDepth 20000 in
set_option maxHeartbeats 1600000 in
theorem inOrder_any {w : World} {ao : Option Addr} {n cap : Nat} {f : Nat → Int} (h : RdA w ao 1 n cap (fun i => .int .i64 (f i))) (hn : n ≤ 17592186043904) :
    Calls Try.prog 24 #[.slice ao n cap] w fun e w' => ∃ g, e = .returned (.slice (some ⟨g, 0, none⟩) n n) ∧ w.heap.size ≤ g ∧ g < w'.heap.size ∧ OrdAt w' g (ordL f n) ∧ Below w.heap.size w w' := by
  have hmk := run_make_cands n hn
  have R0 := made2 w n 71
  have f0 := fresh_alloc w (.cells (madeCells #[.int .i64 0, .int .i64 0] (n * 2)) 71)
  have eg : ∀ args w, (callFunc 37 args).run Try.prog w = .ok (.enter 37 args) w := enters_of Try.func37 (by kernel_rfl) rfl
  have HS : Hid (∀ W : World, W.rowIs w.heap.size 71 (n * 2) (candF f n) → Below w.heap.size w W → Calls Try.prog 36 #[.slice (some ⟨w.heap.size, 0, none⟩) n n, .func (.func 37) #[] #[]] W fun e w' => e = .returned (.tuple #[]) ∧ w.heap.size < w'.heap.size ∧ OrdAt w' w.heap.size (ordL f n) ∧ Below w.heap.size w w') := fun W hr hb => by
    have hH := holds_cand hr
    have hl := hr.lt
    have hcon := AnyQ.slices_SortFunc_total Ytlnbbnojkpdccaa.sortC 2 Try.isAgg71 Try.sizeOf71 encH (fun _ => rfl) (fun x v hv => by simp [encH] at hv; rcases hv with rfl | rfl <;> rfl) cfH swoH 37 #[] w.heap.size 0 n (cand f n).toArray W eg (cmpLays _ _ _ _) hH hl (by simp [cand_len]; omega) totH
    have e1 : (cand f n).toArray.size = n := by simp [cand_len]
    rw [e1] at hcon
    refine Calls.mono hcon ?_
    rintro e w' ⟨rfl, m, os, rfl⟩
    exact ⟨rfl, lt_sortWorldK _ _ _ _ _ _ _ _ hl, ord_sorted hH hl, below_sort hb (Nat.le_refl _) (Nat.le_of_lt hl)⟩
  clear eg
  go_enter Try.func24, Try.ntmps24
  go_wp2
  go_loopw [11] (fun i wr => ∃ k : Nat, k ≤ n ∧ i = .int .i64 (k : Int) ∧ wr.rowIs w.heap.size 71 (n * 2) (candF f k) ∧ Below w.heap.size w wr) (fun i _ => n - (intOf i).toNat)
  case atStart => exact ⟨0, Nat.zero_le _, by simp, R0.congr (fun i _ => by unfold candF; rw [if_neg (by omega)]), f0⟩
  case round =>
    clear R0 f0 hmk
    obtain ⟨k, hk, rfl, hr, hf⟩ := hrel
    by_cases hlt : k < n
    · obtain ⟨b1, o1, rfl, h1⟩ := (h.fresh hf).one (by omega)
      have d := h1 k hlt
      have hle := h.le
      have htop := h.top
      unfold maxLen at htop
      have c0 := hr.cell (i := k * 2) (by omega)
      have c1 := hr.cell (i := k * 2 + 1) (by omega)
      have fr := hr.frozen
      have i0 : (0 : Int) ≤ (k : Int) := by omega
      have i1 : (k : Int) < (n : Int) := by omega
      have HR := hidd hr
      clear h1 hr
      go_wp2
      go_roundw
      case rel => exact ⟨k + 1, by omega, by go_num, ((HR.out.set (k * 2) (.int .i64 (k : Int))).set (k * 2 + 1) (.int .i64 (f k))).congr (fun j _ => candF_next f k j), (hf.setCell (Nat.le_refl _) _).setCell (Nat.le_refl _) _⟩
      case measure => simp [intOf]; omega
    · obtain rfl : k = n := by omega
      go_wp2_with (go_at_call 36; with_reducible refine (HS.out _ hr hf).mono ?_; rintro e w9 ⟨rfl, g1, g2, g3⟩)
      go_ret
      exact ⟨_, rfl, Nat.le_refl _, g1, g2, g3⟩
def RkP (w : World) (f : Nat → Int) (n : Nat) (e : Ending) (w' : World) : Prop := ∃ Bn g c, e = .returned (.func (.func 25) #[] #[.pointer (some ⟨Bn, 0, none⟩)]) ∧ w.heap.size ≤ Bn ∧ Bn < w'.heap.size ∧ w.heap.size ≤ g ∧ g < w'.heap.size ∧ w'.cell? ⟨Bn, 0, none⟩ = some (.slice (some ⟨g, 0, none⟩) n c) ∧ OrdAt w' g (ordL f n) ∧ Below w.heap.size w w'
theorem mkf (fn : Fn) (first cap : Array Value) (w : World) : (Instr.makeFunc fn first cap).run Try.prog w = .ok (.func fn first cap) w := by simp [Instr.makeFunc]
set_option maxRecDepth 20000 in
set_option maxHeartbeats 800000 in
theorem ranked_any {w : World} {ao : Option Addr} {n cap : Nat} {f : Nat → Int} (h : RdA w ao 1 n cap (fun i => .int .i64 (f i))) (hn : n ≤ 17592186043904) :
    Calls Try.prog 14 #[.slice ao n cap] w (RkP w f n) := by
  have hmf := mkf
  have HI := hidd (inOrder_any h hn)
  clear h
  go_enter Try.func14, Try.ntmps14
  go_wp2_with (go_at_call 24; with_reducible refine HI.out.mono ?_; rintro e w1 ⟨g, rfl, g1, g2, g3, g4⟩)
  go_ret
  have f1 := fresh_alloc w1 (.cells #[.slice (some ⟨g, 0, none⟩) n n] 67)
  exact ⟨w1.heap.size, g, n, rfl, g4.size, by simp, g1, by simp; omega, by simp, g3.below f1 g2, fresh_trans g4 f1⟩
end Go.Proofs.Ytlnbbnojkpdccaa
