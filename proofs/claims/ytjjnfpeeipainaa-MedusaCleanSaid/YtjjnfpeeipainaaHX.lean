import Derived.Shelf.SlSortCmp.Insertion
import Derived.Test.YtjjnfpeeipainaaRows
import Derived.Test.YtjjnfpeeipainaaOwn
import Derived.BigQuiet
import Derived.RangeFuncNested
import Derived.RangeFuncLeaves
import Derived.Shelf.Abstract
import Derived.OwnWalkIn
import Derived.TacticsInMore
import Derived.LoopNIn
import Derived.LoopIn
import Derived.RegionIn
import Derived.Shelf.SlSortCmp.NoneTotal
import Derived.Shelf.SlicesG.Cmp
import Derived.Ground.SlsfProg
import Derived.Ground.SlgcProg
import Derived.Deep.RegionHeld3
namespace Go.Proofs.Ytjjnfpeeipainaa
open Go.RowKit Go.Shelf Go.Lib Go.Sort
/-! The order of tokens: by logit and number. -/
def cfH (x y : Int × Int) : Int := if Lib.compareInt y.2 x.2 = 0 then Lib.compareInt x.1 y.1 else Lib.compareInt y.2 x.2
def AheadP (x y : Int × Int) : Prop := y.2 < x.2 ∨ (x.2 = y.2 ∧ x.1 < y.1)
theorem ltH (x y : Int × Int) : (ltOf cfH x y = true) ↔ AheadP x y := by
  unfold ltOf cfH AheadP Lib.compareInt
  rw [decide_eq_true_iff]
  split <;> rename_i h <;> (repeat' split at h) <;> (repeat' split) <;> omega
theorem ltHf (x y : Int × Int) : (ltOf cfH x y = false) ↔ ¬ AheadP x y := by rw [← ltH]; simp
theorem swoH : SWO (ltOf cfH) where
  irrefl x := by rw [ltHf]; unfold AheadP; omega
  trans x y z h1 h2 := by rw [ltH] at *; unfold AheadP at *; omega
  ntrans x y z h1 h2 := by rw [ltHf] at *; unfold AheadP at *; omega
theorem totH (x y : Int × Int) (h1 : ltOf cfH x y = false) (h2 : ltOf cfH y x = false) : x = y := by
  rw [ltHf] at *
  unfold AheadP at *
  obtain ⟨a, b⟩ := x
  obtain ⟨c, d⟩ := y
  simp only [Prod.mk.injEq] at *
  omega
def cand (f : Nat → Int) (n : Nat) : List (Int × Int) := (List.range n).map fun (i : Nat) => ((i : Int), f i)
def leH (x y : Int × Int) : Bool := !ltOf cfH y x
def ordL (f : Nat → Int) (n : Nat) : List (Int × Int) := (cand f n).mergeSort fun x y => !ltOf cfH y x
theorem cand_len (f : Nat → Int) (n : Nat) : (cand f n).length = n := by simp [cand]
theorem ordL_perm (f : Nat → Int) (n : Nat) : (ordL f n).Perm (cand f n) := List.mergeSort_perm _ _
theorem ordL_len (f : Nat → Int) (n : Nat) : (ordL f n).length = n := by rw [(ordL_perm f n).length_eq, cand_len]
theorem cand_mem {f : Nat → Int} {n : Nat} {x : Int × Int} : x ∈ cand f n ↔ ∃ i : Nat, i < n ∧ x = ((i : Int), f i) := by
  unfold cand
  simp only [List.mem_map, List.mem_range]
  exact ⟨fun ⟨i, h, e⟩ => ⟨i, h, e.symm⟩, fun ⟨i, h, e⟩ => ⟨i, h, e.symm⟩⟩
theorem cand_nodup (f : Nat → Int) (n : Nat) : (cand f n).Nodup := by
  unfold cand
  rw [List.nodup_iff_pairwise_ne, List.pairwise_map]
  exact (List.nodup_range (n := n)).imp fun h e => h (by simp only [Prod.mk.injEq] at e; omega)
theorem ordL_mem {f : Nat → Int} {n : Nat} {x : Int × Int} : x ∈ ordL f n ↔ ∃ i : Nat, i < n ∧ x = ((i : Int), f i) := by
  rw [(ordL_perm f n).mem_iff, cand_mem]
theorem ordL_sorted (f : Nat → Int) (n : Nat) : (ordL f n).Pairwise fun x y => AheadP x y := by
  have h1 : (ordL f n).Pairwise fun x y => (!ltOf cfH y x) = true := List.pairwise_mergeSort (fun a b c h1 h2 => by
      simp only [Bool.not_eq_true'] at *
      exact swoH.ntrans _ _ _ h2 h1) (fun a b => by
      cases h : ltOf cfH b a with
      | false => simp
      | true =>
        have := (ltH _ _).1 h
        have : ltOf cfH a b = false := (ltHf _ _).2 (by unfold AheadP at *; omega)
        simp [this]) _
  have h2 : (ordL f n).Pairwise (· ≠ ·) := List.nodup_iff_pairwise_ne.1 ((ordL_perm f n).nodup_iff.2 (cand_nodup f n))
  refine (h1.and h2).imp fun {x y} h => ?_
  obtain ⟨h, hne⟩ := h
  by_cases hl : ltOf cfH x y = true
  · exact (ltH _ _).1 hl
  · exact absurd (totH x y (by simpa using hl) (by simpa using h)) hne
/-- the token at place k -/
def sg (f : Nat → Int) (n k : Nat) : Nat := ((ordL f n).getD k (0, 0)).1.toNat
theorem ordL_get {f : Nat → Int} {n k : Nat} (h : k < n) : (ordL f n)[k]? = some ((sg f n k : Int), f (sg f n k)) ∧ sg f n k < n := by
  have hl : k < (ordL f n).length := by rw [ordL_len]; exact h
  obtain ⟨i, hi, e⟩ := ordL_mem.1 (List.getElem_mem hl)
  have es : sg f n k = i := by
    unfold sg
    rw [List.getD_eq_getElem?_getD, List.getElem?_eq_getElem hl, e]
    simp
  rw [es, List.getElem?_eq_getElem hl, e]
  exact ⟨rfl, hi⟩
theorem sg_lt {f : Nat → Int} {n k : Nat} (h : k < n) : sg f n k < n := (ordL_get h).2
theorem sg_ahead {f : Nat → Int} {n i j : Nat} (hij : i < j) (hj : j < n) : f (sg f n j) < f (sg f n i) ∨ (f (sg f n i) = f (sg f n j) ∧ sg f n i < sg f n j) := by
  have hi : i < n := by omega
  have h := List.pairwise_iff_getElem.1 (ordL_sorted f n) i j (by rw [ordL_len]; exact hi) (by rw [ordL_len]; exact hj) hij
  have e1 := (ordL_get (f := f) hi).1
  have e2 := (ordL_get (f := f) hj).1
  rw [List.getElem?_eq_getElem (by rw [ordL_len]; exact hi)] at e1
  rw [List.getElem?_eq_getElem (by rw [ordL_len]; exact hj)] at e2
  rw [Option.some.injEq] at e1 e2
  rw [e1, e2] at h
  unfold AheadP at h
  simp only at h
  omega
theorem sg_inj {f : Nat → Int} {n i j : Nat} (hi : i < n) (hj : j < n) (e : sg f n i = sg f n j) : i = j := by
  rcases Nat.lt_trichotomy i j with h | h | h
  · have := sg_ahead (f := f) h hj; rw [e] at this; omega
  · exact h
  · have := sg_ahead (f := f) h hi; rw [e] at this; omega
theorem sg_surj {f : Nat → Int} {n m : Nat} (h : m < n) : ∃ k, k < n ∧ sg f n k = m := by
  have hm : ((m : Int), f m) ∈ ordL f n := ordL_mem.2 ⟨m, h, rfl⟩
  obtain ⟨k, hk, e⟩ := List.getElem_of_mem hm
  rw [ordL_len] at hk
  refine ⟨k, hk, ?_⟩
  have e1 := (ordL_get (f := f) hk).1
  rw [List.getElem?_eq_getElem (by rw [ordL_len]; exact hk), e] at e1
  simp only [Option.some.injEq, Prod.mk.injEq] at e1
  omega
theorem ordL_congr {f g : Nat → Int} {n : Nat} (h : ∀ i, i < n → f i = g i) : ordL f n = ordL g n := by
  have : cand f n = cand g n := List.map_congr_left fun i hi => by rw [h i (List.mem_range.1 hi)]
  unfold ordL
  rw [this]
theorem sg_congr {f g : Nat → Int} {n : Nat} (h : ∀ i, i < n → f i = g i) (k : Nat) : sg f n k = sg g n k := by
  unfold sg
  rw [ordL_congr h]
theorem sg_shift {f g : Nat → Int} {n : Nat} {c : Int} (h : ∀ i, i < n → g i = f i + c) {k : Nat} (hk : k < n) : sg g n k = sg f n k := by
  have e : ordL g n = (ordL f n).map fun x => (x.1, x.2 + c) := by
    unfold ordL
    rw [List.map_mergeSort (s := fun x y => !ltOf cfH y x)]
    · congr 1
      unfold cand
      rw [List.map_map]
      exact List.map_congr_left fun i hi => by simp [h i (List.mem_range.1 hi)]
    · intro a _ b _
      have : ltOf cfH b a = ltOf cfH (b.1, b.2 + c) (a.1, a.2 + c) := by
        rw [Bool.eq_iff_iff, ltH, ltH]
        unfold AheadP
        simp only
        omega
      rw [this]
  have e1 := (ordL_get (f := f) hk).1
  unfold sg
  rw [e, List.getD_eq_getElem?_getD, List.getElem?_map, e1, List.getD_eq_getElem?_getD, e1]
  rfl
/-- a vector of two -/
theorem sg_two {f : Nat → Int} (h0 : f 0 = 3) (h1 : f 1 = 5) : sg f 2 0 = 1 ∧ sg f 2 1 = 0 := by
  have a := sg_lt (f := f) (n := 2) (k := 0) (by omega)
  have b := sg_lt (f := f) (n := 2) (k := 1) (by omega)
  have c := sg_ahead (f := f) (n := 2) (i := 0) (j := 1) (by omega) (by omega)
  generalize sg f 2 0 = x at *
  generalize sg f 2 1 = y at *
  have hx : x = 0 ∨ x = 1 := by omega
  have hy : y = 0 ∨ y = 1 := by omega
  rcases hx with rfl | rfl <;> rcases hy with rfl | rfl <;> simp only [h0, h1] at c <;> omega
/-- what is not among the first k stands behind the one before -/
theorem sg_rest {f : Nat → Int} {n k m : Nat} (hm : m < n) (hno : ∀ j, j ≤ k → sg f n j ≠ m) : ¬ (f (sg f n k) < f m ∨ (f m = f (sg f n k) ∧ m < sg f n k)) := by
  obtain ⟨j, hj, e⟩ := sg_surj (f := f) hm
  by_cases h : j ≤ k
  · exact absurd e (hno j h)
  · have := sg_ahead (f := f) (n := n) (i := k) (j := j) (by omega) hj
    rw [e] at this
    omega
end Go.Proofs.Ytjjnfpeeipainaa
namespace Go.Proofs.Ytjjnfpeeipainaa
open Go.RowKit
/-! Layer 9: small facts; EqInts, Or. -/
theorem infoIh : (Try.prog.info? 3).map (fun i => (i.zero, i.size, i.bytes)) = some (some (.int .i64 0), 1, 8) := by kernel_rfl
theorem infoW : (Try.prog.info? 2).map (fun i => (i.zero, i.size, i.bytes)) = some (some (.int .i64 0), 1, 8) := by kernel_rfl
theorem infoB : (Try.prog.info? 4).map (fun i => (i.zero, i.size, i.bytes)) = some (some (.bool false), 1, 1) := by kernel_rfl
theorem infoC : (Try.prog.info? 118).map (fun i => (i.zero, i.size, i.bytes)) = some (some (.agg #[.int .i64 0, .int .i64 0]), 2, 16) := by kernel_rfl
set_option maxRecDepth 20000 in
set_option maxHeartbeats 1600000 in
theorem eqInts_any {w : World} {ao bo : Option Addr} {n m ca cb : Nat} {f g : Nat → Int} (ha : RdA w ao 1 n ca (fun i => .int .i64 (f i))) (hb : RdA w bo 1 m cb (fun i => .int .i64 (g i))) :
    Calls Try.prog 23 #[.slice ao n ca, .slice bo m cb] w fun e w' => (∃ r : Bool, e = .returned (.bool r) ∧ (r = true ↔ n = m ∧ ∀ i, i < n → f i = g i)) ∧ Below w.heap.size w w' := by
  have hn : n ≤ 9223372036854775807 := by have := ha.le; have := ha.top; unfold maxLen at this; omega
  have hm : m ≤ 9223372036854775807 := by have := hb.le; have := hb.top; unfold maxLen at this; omega
  by_cases hnm : n = m
  · subst hnm
    go_enter Try.func23, Try.ntmps23
    go_wp2
    go_loopw [5] (fun i wr => ∃ k : Nat, k ≤ n ∧ i = .int .i64 k ∧ Hid (∀ j, j < k → f j = g j) ∧ Below w.heap.size w wr) (fun i _ => n - (intOf i).toNat)
    case atStart => exact ⟨0, by omega, rfl, fun j hj => absurd hj (by omega), Below.refl _ _⟩
    case round =>
      obtain ⟨k, hk, rfl, HE, hf⟩ := hrel
      by_cases hlt : k < n
      · obtain ⟨b1, o1, rfl, h1⟩ := (ha.fresh hf).one (by omega)
        obtain ⟨b2, o2, rfl, h2⟩ := (hb.fresh hf).one (by omega)
        have c1 := h1 k hlt
        have c2 := h2 k hlt
        clear h1 h2
        by_cases e : f k = g k
        · rw [← e] at c2
          have HE3 := hidd e
          clear e
          go_wp2
          go_quiet (fail)
          go_wp2
          go_roundw
          case rel => exact ⟨k + 1, by omega, by go_num, fun j hj => (by
            by_cases q : j = k
            · rw [q]; exact HE3.out
            · exact HE.out j (by omega)), below_drewN hf _⟩
          case measure => simp [intOf]; omega
        · have x3 : decide (f k = g k) = false := decide_eq_false e
          have HE3 := hidd e
          go_wp2
          go_quiet (fail)
          go_wp2
          go_ret
          exact ⟨⟨false, rfl, ⟨fun q => (by cases q), fun q => absurd (q.2 k hlt) HE3.out⟩⟩, below_drewN hf _⟩
      · obtain rfl : n = k := by omega
        go_wp2
        go_ret
        exact ⟨⟨true, rfl, ⟨fun _ => ⟨(by first | rfl | trivial), HE.out⟩, fun _ => rfl⟩⟩, hf⟩
  · have hne : ¬ (n : Int) = (m : Int) := by omega
    go_enter Try.func23, Try.ntmps23
    go_wp2
    go_ret
    exact ⟨⟨false, rfl, ⟨fun q => (by cases q), fun q => absurd q.1 hnm⟩⟩, Below.refl _ _⟩
theorem eq_rows {w : World} {ao bo : Option Addr} {n ca cb : Nat} {f g : Nat → Int} (ha : RdA w ao 1 n ca (fun i => .int .i64 (f i))) (hb : RdA w bo 1 n cb (fun i => .int .i64 (g i))) (he : ∀ i, i < n → f i = g i) :
    Calls Try.prog 23 #[.slice ao n ca, .slice bo n cb] w fun e w' => e = .returned (.bool true) ∧ Below w.heap.size w w' := by
  refine (eqInts_any ha hb).mono ?_
  rintro e w8 ⟨⟨r, rfl, hr⟩, f8⟩
  have : r = true := hr.2 ⟨rfl, he⟩
  subst this
  exact ⟨rfl, f8⟩
set_option maxRecDepth 20000 in
set_option maxHeartbeats 800000 in
theorem or_any {w : World} {g : Nat} {x y : Int} (h0 : w.cell? ⟨g, 0, none⟩ = some (.int .i64 x)) (h1 : w.cell? ⟨g, 1, none⟩ = some (.int .i64 y)) :
    Calls Try.prog 77 #[.slice (some ⟨g, 0, none⟩) 2 2] w fun e w' => e = .returned (.int .i64 (if x = 0 then y else x)) ∧ w' = w := by
  by_cases hx : x = 0
  · subst hx
    by_cases hy : y = 0
    · subst hy
      go_enter Try.func77, Try.ntmps77
      go_wp2
      refine wp_loop_rounds 3 ?_
      rw [rounds_succ]
      go_wp2
      rw [rounds_succ]
      go_wp2
      rw [rounds_succ]
      go_wp2
      go_ret
      exact ⟨rfl, rfl⟩
    · have hd : (y != 0) = true := by simp [hy]
      go_enter Try.func77, Try.ntmps77
      go_wp2
      refine wp_loop_rounds 2 ?_
      rw [rounds_succ]
      go_wp2
      rw [rounds_succ]
      go_wp2
      go_ret
      exact ⟨rfl, rfl⟩
  · have hd : (x != 0) = true := by simp [hx]
    have HX := hidd hx
    go_enter Try.func77, Try.ntmps77
    go_wp2
    refine wp_loop_rounds 1 ?_
    rw [rounds_succ]
    go_wp2
    go_ret
    exact ⟨by first | rfl | (rw [if_neg HX.out]), rfl⟩
end Go.Proofs.Ytjjnfpeeipainaa
namespace Go.Proofs.Ytjjnfpeeipainaa
open Go.RowKit Go.Shelf
attribute [local go_sem] Oper.semAt_some
/-! The iterator of Ranked: what lies in the order is handed over, one by one. -/
def encX (x : Int × Int) : Array Value := #[.int .i64 x.1, .int .i64 x.2]
structure OrdAt (w : World) (g : Nat) (L : List (Int × Int)) : Prop where
  fst : ∀ k, k < L.length → w.cell? ⟨g, k * 2, none⟩ = some (.int .i64 (L.getD k (0, 0)).1)
  snd : ∀ k, k < L.length → w.cell? ⟨g, k * 2 + 1, none⟩ = some (.int .i64 (L.getD k (0, 0)).2)
theorem OrdAt.below {w w' : World} {g n : Nat} {L : List (Int × Int)} (h : OrdAt w g L) (f : Below n w w') (hg : g < n) : OrdAt w' g L :=
  ⟨fun j hj => (f.cell (p := ⟨g, j * 2, none⟩) hg).trans (h.fst j hj), fun j hj => (f.cell (p := ⟨g, j * 2 + 1, none⟩) hg).trans (h.snd j hj)⟩
/-- what a round keeps: two blocks -/
structure KpB (a b : Nat) (W W' : World) : Prop where
  size : W.heap.size ≤ W'.heap.size
  fst : W'.heap[a]? = W.heap[a]?
  snd : W'.heap[b]? = W.heap[b]?
theorem KpB.refl (a b : Nat) (W : World) : KpB a b W W := ⟨Nat.le_refl _, rfl, rfl⟩
theorem KpB.trans {a b : Nat} {X Y Z : World} (h : KpB a b X Y) (k : KpB a b Y Z) : KpB a b X Z := ⟨Nat.le_trans h.size k.size, k.fst.trans h.fst, k.snd.trans h.snd⟩
theorem KpB.cell {a b : Nat} {W W' : World} (h : KpB a b W W') {x o : Nat} (hx : x = a ∨ x = b) : W'.cell? ⟨x, o, none⟩ = W.cell? ⟨x, o, none⟩ := by
  unfold World.cell?
  rcases hx with rfl | rfl
  · simp only [h.fst]
  · simp only [h.snd]
theorem KpB.of_below {a b n : Nat} {W W' : World} (h : Below n W W') (ha : a < n) (hb : b < n) : KpB a b W W' := ⟨h.size, h.block a ha, h.block b hb⟩
theorem OrdAt.keep {w w' : World} {a g : Nat} {L : List (Int × Int)} (h : OrdAt w g L) (f : KpB a g w w') : OrdAt w' g L :=
  ⟨fun j hj => (f.cell (.inr rfl)).trans (h.fst j hj), fun j hj => (f.cell (.inr rfl)).trans (h.snd j hj)⟩
theorem grown_of {W W' : World} (h : Below W.heap.size W W') : W.grownBy W' none := ⟨h.os, h.tape, h.output, h.size, fun k hk _ => h.block k hk⟩
theorem abides_below {B : Nat} {J : List (Int × Int) → World → Prop} (hJ : AbidesFrom B J) {s : List (Int × Int)} {W W' : World} (h : J s W) (f : Below W.heap.size W W') : J s W' :=
  hJ s W W' none h (grown_of f) (fun r e => by cases e)
set_option maxRecDepth 100000 in
set_option maxHeartbeats 1600000 in
theorem iter_in (F : Fence) (n : Nat) (hF : F.fn 58) (hro : F.round = none) (hn : 1 ≤ n) (l Bn g cap : Nat) (L : List (Int × Int)) (hL : L.length ≤ 9223372036854775807) (J Jx : List (Int × Int) → World → Prop)
    (W : World) (hJ : AbidesFrom W.heap.size J)
    (hY : ∀ pre x W, J pre W → pre.length < L.length → YieldAt F (n - 1) Try.prog l (encX x) W fun e W' => (e = .returned (.bool true) ∧ J (pre ++ [x]) W' ∧ KpB Bn g W W') ∨ (e = .returned (.bool false) ∧ Jx (pre ++ [x]) W'))
    (hBn : W.cell? ⟨Bn, 0, none⟩ = some (.slice (some ⟨g, 0, none⟩) L.length cap)) (hT : OrdAt W g L) (hg : g < W.heap.size) (h0 : J [] W) :
    CallsIn F n Try.prog 58 #[.func (.yield l) #[] #[], .pointer (some ⟨Bn, 0, none⟩)] W fun e W' => (∃ v, e = .returned v) ∧ ((∃ ys, ys = L ∧ J ys W') ∨ (∃ pre, pre <+: L ∧ Jx pre W')) := by
  refine callsIn_of_wp Try.func58 rfl hF ?_ hro
  simp only [Try.ntmps58, List.size_toArray, List.length_cons, List.length_nil, Nat.reduceAdd, Nat.reduceSub, Array.replicate_succ, Array.replicate_zero, List.push_toArray, List.append_toArray, List.nil_append, List.cons_append]
  have HT := hidd hT
  have HY := hidd hY
  have HJ0 := hidd hJ
  have hBl := lt_of_cell hBn
  clear hT hY hJ
  gi_wp2
  gi_loopw [7] (fun i wr => ∃ k : Nat, k ≤ L.length ∧ i = .int .i64 (k : Int) ∧ Hid (J (L.take k) wr) ∧ KpB Bn g W wr) (fun i _ => L.length - (intOf i).toNat)
  case atStart => exact ⟨0, Nat.zero_le _, by simp, by show J _ _; simpa using h0, KpB.refl _ _ _⟩
  case round =>
    obtain ⟨k, hk, rfl, HJ, hf⟩ := hrel
    by_cases hlt : k < L.length
    · obtain ⟨a, b, HE⟩ : ∃ a b, Hid ((a, b) = L.getD k (0, 0)) := ⟨(L.getD k (0, 0)).1, (L.getD k (0, 0)).2, rfl⟩
      have c1 := (HT.out.keep hf).fst k hlt
      have c2 := (HT.out.keep hf).snd k hlt
      rw [← HE.out] at c1 c2
      have HE2 : Hid (L.take k ++ [(a, b)] = L.take (k + 1)) := by
        show _ = _
        rw [List.take_add_one, HE.out, List.getD_eq_getElem?_getD, List.getElem?_eq_getElem hlt]
        rfl
      have hgl : g ≠ wr.heap.size := by have := hf.size; omega
      have hbl : Bn ≠ wr.heap.size := by have := hf.size; omega
      have i0 : (0 : Int) ≤ (k : Int) := by omega
      have i1 : (k : Int) < (L.length : Int) := by omega
      have HJ1 := hidd (abides_below HJ0.out HJ.out (fresh_alloc wr (.cells #[.int .i64 a, .int .i64 b] 118)))
      obtain ⟨fn, tmps, assign, body, hy, hR⟩ := HY.out (L.take k) (a, b) _ HJ1.out (by rw [List.length_take]; omega)
      unfold encX at hy
      have hk1 : KpB Bn g wr (wr.alloc (.cells #[.int .i64 a, .int .i64 b] 118)) := KpB.of_below (fresh_alloc _ _) (by have := hf.size; omega) (by have := hf.size; omega)
      gi_wp2
      refine hR.mono ?_
      rintro e W3 (⟨rfl, hJ3, hk3⟩ | ⟨rfl, hJx3⟩)
      · gi_wp2
        go_roundw
        case rel => exact ⟨k + 1, by omega, by go_num, by show J _ _; rw [← HE2.out]; exact hJ3, (hf.trans hk1).trans hk3⟩
        case measure => simp [intOf] <;> omega
      · gi_wp2
        refine bodyPost_ret (results_none rfl _ _ _) rfl ?_
        exact ⟨⟨_, rfl⟩, .inr ⟨_, by rw [HE2.out]; exact List.take_prefix _ _, hJx3⟩⟩
    · obtain rfl : k = L.length := by omega
      have HE : Hid (J L wr) := by have := HJ.out; rw [List.take_length] at this; exact this
      gi_wp2
      go_end0
      exact ⟨⟨_, rfl⟩, .inl ⟨_, rfl, HE.out⟩⟩
theorem iter_stops (F : Fence) (n : Nat) (hF : F.fn 58) (hro : F.round = none) (hn : 1 ≤ n) (Bn g cap : Nat) (L : List (Int × Int)) (hL : L.length ≤ 9223372036854775807) (w : World) (hBl : Bn < w.heap.size) (hg : g < w.heap.size)
    (hc : w.cell? ⟨Bn, 0, none⟩ = some (.slice (some ⟨g, 0, none⟩) L.length cap)) (hT : OrdAt w g L) :
    SeqStopsK F n Try.prog 58 #[.pointer (some ⟨Bn, 0, none⟩)] encX (KpB Bn g) (fun ys => ys = L) (fun ys => ys <+: L) L.length w := fun l J Jx W hW hJ _ hY h0 =>
  iter_in F n hF hro hn l Bn g cap L hL J Jx W hJ hY ((hW.cell (p := ⟨Bn, 0, none⟩) hBl).trans hc) (hT.below hW hg) (Nat.lt_of_lt_of_le hg hW.size) h0
end Go.Proofs.Ytjjnfpeeipainaa
namespace Go.Proofs
open Go.Shelf Go.RowKit Go.Lib Go.Sort
def Ytjjnfpeeipainaa.sortC_ren : Go.Shelf.Ren := ⟨fun | 6 => 75 | 15 => 88 | 14 => 87 | 28 => 108 | 29 => 109 | 20 => 100 | 21 => 101 | 22 => 102 | 23 => 103 | 24 => 104 | 25 => 105 | 26 => 106 | 27 => 107 | 46 => 111 | 47 => 112 | 48 => 113 | 49 => 114 | 50 => 115 | 57 => 117 | n => n, fun | 22 => 114 | 24 => 118 | 25 => 135 | 3 => 3 | 39 => 150 | 0 => 0 | 53 => 165 | 55 => 167 | 4 => 4 | 46 => 159 | 45 => 158 | 50 => 122 | 5 => 5 | 9 => 9 | 66 => 168 | 70 => 172 | 76 => 174 | 77 => 175 | n => n, fun | n => n⟩
theorem Ytjjnfpeeipainaa.sortC : Go.Proofs.SlLaysF0.n6 Try.prog Ytjjnfpeeipainaa.sortC_ren := {
  mixed := by kernel_rfl
  f6 := ⟨Try.f75.name, by decide, Try.func75.trans (congrArg some (by kernel_rfl))⟩
  f14 := ⟨Try.f87.name, by decide, Try.func87.trans (congrArg some (by kernel_rfl))⟩
  f15 := Try.func88.trans (congrArg some (by kernel_rfl))
  f20 := ⟨Try.f100.name, by decide, Try.func100.trans (congrArg some (by kernel_rfl))⟩
  f21 := ⟨Try.f101.name, by decide, Try.func101.trans (congrArg some (by kernel_rfl))⟩
  f22 := ⟨Try.f102.name, by decide, Try.func102.trans (congrArg some (by kernel_rfl))⟩
  f23 := ⟨Try.f103.name, by decide, Try.func103.trans (congrArg some (by kernel_rfl))⟩
  f24 := ⟨Try.f104.name, by decide, Try.func104.trans (congrArg some (by kernel_rfl))⟩
  f25 := ⟨Try.f105.name, by decide, Try.func105.trans (congrArg some (by kernel_rfl))⟩
  f26 := ⟨Try.f106.name, by decide, Try.func106.trans (congrArg some (by kernel_rfl))⟩
  f27 := ⟨Try.f107.name, by decide, Try.func107.trans (congrArg some (by kernel_rfl))⟩
  f28 := Try.func108.trans (congrArg some (by kernel_rfl))
  f29 := Try.func109.trans (congrArg some (by kernel_rfl))
  f46 := ⟨Try.f111.name, by decide, Try.func111.trans (congrArg some (by kernel_rfl))⟩
  f47 := Try.func112.trans (congrArg some (by kernel_rfl))
  f48 := Try.func113.trans (congrArg some (by kernel_rfl))
  f49 := ⟨Try.f114.name, by decide, Try.func114.trans (congrArg some (by kernel_rfl))⟩
  f50 := ⟨Try.f115.name, by decide, Try.func115.trans (congrArg some (by kernel_rfl))⟩
  f57 := ⟨Try.f117.name, by decide, Try.func117.trans (congrArg some (by kernel_rfl))⟩
  t0 := Try.underlying0
  a0 := Try.isAgg0
  z0 := Try.sizeOf0
  v0 := Try.zeroValue0
  t3 := Try.underlying3
  a3 := Try.isAgg3
  z3 := Try.sizeOf3
  v3 := Try.zeroValue3
  t4 := Try.underlying4
  a4 := Try.isAgg4
  z4 := Try.sizeOf4
  v4 := Try.zeroValue4
  t5 := Try.underlying5
  a5 := Try.isAgg5
  z5 := Try.sizeOf5
  v5 := Try.zeroValue5
  t9 := Try.underlying9
  a9 := Try.isAgg9
  z9 := Try.sizeOf9
  v9 := Try.zeroValue9
  t22 := Try.underlying114
  a22 := Try.isAgg114
  z22 := Try.sizeOf114
  v22 := Try.zeroValue114
  t25 := Try.underlying135
  a25 := Try.isAgg135
  z25 := Try.sizeOf135
  v25 := Try.zeroValue135
  t39 := Try.underlying150
  a39 := Try.isAgg150
  z39 := Try.sizeOf150
  v39 := Try.zeroValue150
  t45 := Try.underlying158
  a45 := Try.isAgg158
  z45 := Try.sizeOf158
  v45 := Try.zeroValue158
  t46 := Try.underlying159
  a46 := Try.isAgg159
  z46 := Try.sizeOf159
  v46 := Try.zeroValue159
  t50 := Try.underlying122
  a50 := Try.isAgg122
  z50 := Try.sizeOf122
  v50 := Try.zeroValue122
  t53 := Try.underlying165
  a53 := Try.isAgg165
  z53 := Try.sizeOf165
  v53 := Try.zeroValue165
  t55 := Try.underlying167
  a55 := Try.isAgg167
  z55 := Try.sizeOf167
  v55 := Try.zeroValue167
  t66 := Try.underlying168
  a66 := Try.isAgg168
  z66 := Try.sizeOf168
  v66 := Try.zeroValue168
  t70 := Try.underlying172
  a70 := Try.isAgg172
  z70 := Try.sizeOf172
  v70 := Try.zeroValue172
  t76 := Try.underlying174
  a76 := Try.isAgg174
  z76 := Try.sizeOf174
  v76 := Try.zeroValue174
  t77 := Try.underlying175
  a77 := Try.isAgg175
  z77 := Try.sizeOf175
  v77 := Try.zeroValue175 }
def Ytjjnfpeeipainaa.cmpW_ren : Go.Shelf.Ren := ⟨fun | 5 => 78 | 7 => 89 | n => n, fun | 22 => 2 | 3 => 3 | 4 => 4 | n => n, fun | n => n⟩
theorem Ytjjnfpeeipainaa.cmpW : Go.Proofs.SlLaysC2.n5 Try.prog Ytjjnfpeeipainaa.cmpW_ren := {
  mixed := by kernel_rfl
  f5 := ⟨Try.f78.name, by decide, Try.func78.trans (congrArg some (by kernel_rfl))⟩
  f7 := ⟨Try.f89.name, by decide, Try.func89.trans (congrArg some (by kernel_rfl))⟩
  t3 := Try.underlying3
  a3 := Try.isAgg3
  z3 := Try.sizeOf3
  v3 := Try.zeroValue3
  t4 := Try.underlying4
  a4 := Try.isAgg4
  z4 := Try.sizeOf4
  v4 := Try.zeroValue4
  t22 := Try.underlying2
  a22 := Try.isAgg2
  z22 := Try.sizeOf2
  v22 := Try.zeroValue2 }
def Ytjjnfpeeipainaa.cmpI_ren : Go.Shelf.Ren := ⟨fun | 5 => 62 | 7 => 80 | n => n, fun | 22 => 3 | 3 => 3 | 4 => 4 | n => n, fun | n => n⟩
theorem Ytjjnfpeeipainaa.cmpI : Go.Proofs.SlLaysC2.n5 Try.prog Ytjjnfpeeipainaa.cmpI_ren := {
  mixed := by kernel_rfl
  f5 := ⟨Try.f62.name, by decide, Try.func62.trans (congrArg some (by kernel_rfl))⟩
  f7 := ⟨Try.f80.name, by decide, Try.func80.trans (congrArg some (by kernel_rfl))⟩
  t3 := Try.underlying3
  a3 := Try.isAgg3
  z3 := Try.sizeOf3
  v3 := Try.zeroValue3
  t4 := Try.underlying4
  a4 := Try.isAgg4
  z4 := Try.sizeOf4
  v4 := Try.zeroValue4
  t22 := Try.underlying3
  a22 := Try.isAgg3
  z22 := Try.sizeOf3
  v22 := Try.zeroValue3 }
end Go.Proofs
namespace Go.Proofs.Ytjjnfpeeipainaa
open Go.Shelf Go.RowKit Go.Lib Go.Sort
/-! The order's comparison. -/
theorem cmpW_any (x y : Int) (w : World) : Calls Try.prog 78 #[.int .i64 x, .int .i64 y] w fun e w' => e = .returned (.int .i64 (Lib.compareInt x y)) ∧ w' = w := AnyG.cmp_Compare_int Ytjjnfpeeipainaa.cmpW x y w
theorem cmpI_any (x y : Int) (w : World) : Calls Try.prog 62 #[.int .i64 x, .int .i64 y] w fun e w' => e = .returned (.int .i64 (Lib.compareInt x y)) ∧ w' = w := AnyG.cmp_Compare_int Ytjjnfpeeipainaa.cmpI x y w
def Gr (W z : World) : Prop := ∃ q os, z = grow (W.drewN q) os
theorem Gr.alloc {W z : World} (h : Gr W z) (o : Obj) : Gr W (z.alloc o) := by
  obtain ⟨q, os, rfl⟩ := h
  exact ⟨q, os ++ #[o], by rw [alloc_eq_grow, grow_grow]⟩
theorem Gr.drewN {W z : World} (h : Gr W z) (k : Nat) : Gr W (z.drewN k) := by
  obtain ⟨q, os, rfl⟩ := h
  exact ⟨q + k, os, by simp [grow, World.drewN, Nat.add_assoc]⟩
theorem Gr.refl (W : World) : Gr W W := ⟨0, #[], by rw [grow_empty]; rfl⟩
theorem cfH_eq (x y : Int × Int) : (if Lib.compareInt y.2 x.2 = 0 then Lib.compareInt x.1 y.1 else Lib.compareInt y.2 x.2) = cfH x y := rfl
set_option maxRecDepth 20000 in
set_option maxHeartbeats 1600000 in
theorem cmp_any (x y : Int × Int) (W : World) : Calls Try.prog 76 #[.agg #[.int .i64 x.1, .int .i64 x.2], .agg #[.int .i64 y.1, .int .i64 y.2]] W fun e w' => e = .returned (.int .i64 (cfH x y)) ∧ Gr W w' := by
  have HW := hidd (fun W' => cmpW_any y.2 x.2 W')
  have HI := hidd (fun W' => cmpI_any x.1 y.1 W')
  rw [← cfH_eq]
  obtain ⟨a, b⟩ := x
  obtain ⟨c, d⟩ := y
  simp only at *
  generalize Lib.compareInt d b = r at *
  generalize Lib.compareInt a c = s at *
  have HO : Hid (∀ (w1 w2 : World), w2 = (w1.alloc (.cells #[.int .i64 r, .int .i64 s] 3)).drew → Calls Try.prog 77 #[.slice (some ⟨w1.heap.size, 0, none⟩) 2 2] w2 fun e w' => e = .returned (.int .i64 (if r = 0 then s else r)) ∧ w' = w2) := fun w1 w2 e => by
    subst e
    exact or_any (by simp) (by simp)
  generalize (if r = 0 then s else r) = t at *
  go_enter Try.func76, Try.ntmps76
  go_wp2
  have q0 : ((W.alloc (.cells #[.int .i64 a, .int .i64 b] 118)).alloc (.cells #[.int .i64 c, .int .i64 d] 118)).cell? ⟨W.heap.size, 0, none⟩ = some (.int .i64 a) := by simp
  have q1 : ((W.alloc (.cells #[.int .i64 a, .int .i64 b] 118)).alloc (.cells #[.int .i64 c, .int .i64 d] 118)).cell? ⟨W.heap.size, 1, none⟩ = some (.int .i64 b) := by simp
  have q2 : ((W.alloc (.cells #[.int .i64 a, .int .i64 b] 118)).alloc (.cells #[.int .i64 c, .int .i64 d] 118)).cell? ⟨W.heap.size + 1, 0, none⟩ = some (.int .i64 c) := by simp
  have q3 : ((W.alloc (.cells #[.int .i64 a, .int .i64 b] 118)).alloc (.cells #[.int .i64 c, .int .i64 d] 118)).cell? ⟨W.heap.size + 1, 1, none⟩ = some (.int .i64 d) := by simp
  have HG := hidd (((Gr.refl W).alloc (.cells #[.int .i64 a, .int .i64 b] 118)).alloc (.cells #[.int .i64 c, .int .i64 d] 118))
  generalize (W.alloc (.cells #[.int .i64 a, .int .i64 b] 118)).alloc (.cells #[.int .i64 c, .int .i64 d] 118) = W2 at *
  go_region_held3 (fun z => z.cell? ⟨W.heap.size, 0, none⟩ = some (.int .i64 a) ∧ z.cell? ⟨W.heap.size, 1, none⟩ = some (.int .i64 b) ∧ z.cell? ⟨W.heap.size + 1, 0, none⟩ = some (.int .i64 c) ∧ z.cell? ⟨W.heap.size + 1, 1, none⟩ = some (.int .i64 d))
    (first | (with_reducible exact ⟨q0, q1, q2, q3⟩) | go_keep)
    (first
    | (go_at_call 78; with_reducible refine (HW.out _).mono ?_; rintro e w1 ⟨rfl, h1⟩; rw [h1]; clear h1)
    | (go_at_call 62; with_reducible refine (HI.out _).mono ?_; rintro e w1 ⟨rfl, h1⟩; rw [h1]; clear h1)
    | (go_at_call 77; with_reducible refine (HO.out _ _ rfl).mono ?_; rintro e w1 ⟨rfl, h1⟩; rw [h1]; clear h1))
  all_goals
    go_wp2
    go_ret
    exact ⟨rfl, (HG.out.alloc _).drewN 1⟩
end Go.Proofs.Ytjjnfpeeipainaa
namespace Go.Proofs.Ytjjnfpeeipainaa
open Go.RowKit Go.Shelf
open Go.Sort hiding Below
/-! inOrder, Ranked. -/
def encH (x : Int × Int) : List Value := [.int .i64 x.1, .int .i64 x.2]
theorem below_sort {B : Nat} {w W : World} (h : Below B w W) {blk off m : Nat} {d : Array (Int × Int)} {os : Array Obj} (hb : B ≤ blk) (hB : B ≤ W.heap.size) : Below B w (sortWorldK encH 2 W blk off m d os) := by
  refine ⟨h.os, h.tape, h.output, Nat.le_trans h.size ?_, fun k hk => ?_⟩
  · unfold sortWorldK
    rw [Go.Sort.size_grow, size_putRowK]
    exact Nat.le_add_right _ _
  · rw [← h.block k hk]
    unfold sortWorldK
    rw [Go.Sort.heap_grow_old _ _ (by rw [size_putRowK]; show k < W.heap.size; omega)]
    unfold putRowK putRow mapBlock
    show (W.heap.modify blk _)[k]? = _
    rw [Array.getElem?_modify]
    rw [if_neg (by omega)]
theorem made2 (w : World) (n : Nat) (t : TypeId) : (w.alloc (.cells (madeCells #[.int .i64 0, .int .i64 0] (n * 2)) t)).rowIs w.heap.size t (n * 2) (fun _ => .int .i64 0) :=
  ⟨_, Go.Deep.blk_alloc_new _ _, size_madeCells _ _, fun i hi => by
    have : i % 2 = 0 ∨ i % 2 = 1 := by omega
    rcases this with e | e <;> simp [madeCells, hi, e]⟩
theorem run_make_cands (n : Nat) (hn : n ≤ 17592186043904) (w : World) : (Instr.makeSlice 114 (.int .i64 (n : Int)) (.int .i64 (n : Int))).run Try.prog w = .ok (.slice (some ⟨w.heap.size, 0, none⟩) n n) (w.alloc (.cells (madeCells #[.int .i64 0, .int .i64 0] (n * 2)) 118)) := by
  obtain ⟨i, hi, z0, z1, z2⟩ := info_parts infoC
  have hr := run_make (P := Try.prog) w 114 118 i _ Try.underlying114 hi z0 .i64 .i64 n n (by omega) (Int.le_refl _) (by rw [z2]; omega) (by omega)
  simp only [Int.toNat_natCast, z1] at hr
  exact hr
def candF (f : Nat → Int) (k : Nat) : Nat → Value := fun j => if j < k * 2 then (if j % 2 = 0 then .int .i64 ((j / 2 : Nat) : Int) else .int .i64 (f (j / 2))) else .int .i64 0
theorem candF_next (f : Nat → Int) (k j : Nat) : (if j = k * 2 + 1 then Value.int .i64 (f k) else if j = k * 2 then .int .i64 (k : Int) else candF f k j) = candF f (k + 1) j := by
  unfold candF
  by_cases h1 : j = k * 2 + 1
  · rw [if_pos h1, if_pos (by omega), if_neg (by omega), show j / 2 = k by omega]
  · rw [if_neg h1]
    by_cases h2 : j = k * 2
    · rw [if_pos h2, if_pos (by omega), if_pos (by omega), show j / 2 = k by omega]
    · rw [if_neg h2]
      by_cases h3 : j < k * 2
      · simp only [if_pos h3, if_pos (show j < (k + 1) * 2 by omega)]
      · simp only [if_neg h3, if_neg (show ¬ j < (k + 1) * 2 by omega)]
theorem holds_cand {w : World} {g n : Nat} {f : Nat → Int} (h : w.rowIs g 118 (n * 2) (candF f n)) : HoldsK encH 2 w g 0 (cand f n).toArray := by
  intro t ht
  have ht : t < n * 2 := by simpa [cand_len] using ht
  refine ⟨?_, h.frozen _⟩
  rw [Nat.zero_add, h.cell ht, get_flatK _ _ _ _ (by simpa [cand_len] using ht)]
  have e : (cand f n).toArray[t / 2]! = (((t / 2 : Nat) : Int), f (t / 2)) := by
    have hl : t / 2 < n := by omega
    simp [cand, hl]
  rw [e]
  unfold candF encH
  rw [if_pos ht]
  have : t % 2 = 0 ∨ t % 2 = 1 := by omega
  rcases this with e | e <;> simp [e]
theorem ord_sorted {W : World} {blk m n : Nat} {f : Nat → Int} {os : Array Obj} (hH : HoldsK encH 2 W blk 0 (cand f n).toArray) (hb : blk < W.heap.size) : OrdAt (sortWorldK encH 2 W blk 0 m (ordL f n).toArray os) blk (ordL f n) := by
  have h := holdsK_sortWorldK encH 2 W blk 0 m (cand f n).toArray (ordL f n).toArray os hb hH (by simp [cand_len, ordL_len])
  have e : ∀ k, k < (ordL f n).length → (ordL f n).toArray[k]! = (ordL f n).getD k (0, 0) := fun k hk => by
    rw [getElem!_pos (ordL f n).toArray k (by simpa using hk), List.getElem_toArray, List.getD_eq_getElem?_getD, List.getElem?_eq_getElem hk]; rfl
  refine ⟨fun k hk => ?_, fun k hk => ?_⟩
  · have := (HoldsK.cell h (i := k) (c := 0) (by simpa using hk) (by decide)).1
    rw [e k hk] at this
    simpa [encH] using this
  · have := (HoldsK.cell h (i := k) (c := 1) (by simpa using hk) (by decide)).1
    rw [e k hk] at this
    simpa [encH] using this
theorem cmpLays (blk off size : Nat) (w : World) : CmpLays Try.prog 76 #[] encH 2 cfH blk off size w := fun _ _ _ _ x y => cmp_any x y _
set_option maxRecDepth 20000 in
set_option maxHeartbeats 1600000 in
theorem inOrder_any {w : World} {ao : Option Addr} {n cap : Nat} {f : Nat → Int} (h : RdA w ao 1 n cap (fun i => .int .i64 (f i))) (hn : n ≤ 17592186043904) :
    Calls Try.prog 57 #[.slice ao n cap] w fun e w' => ∃ g, e = .returned (.slice (some ⟨g, 0, none⟩) n n) ∧ w.heap.size ≤ g ∧ g < w'.heap.size ∧ OrdAt w' g (ordL f n) ∧ Below w.heap.size w w' := by
  have hmk := run_make_cands n hn
  have R0 := made2 w n 118
  have f0 := fresh_alloc w (.cells (madeCells #[.int .i64 0, .int .i64 0] (n * 2)) 118)
  have eg : ∀ args w, (callFunc 76 args).run Try.prog w = .ok (.enter 76 args) w := enters_of Try.func76 (by kernel_rfl) rfl
  have HS : Hid (∀ W : World, W.rowIs w.heap.size 118 (n * 2) (candF f n) → Below w.heap.size w W → Calls Try.prog 75 #[.slice (some ⟨w.heap.size, 0, none⟩) n n, .func (.func 76) #[] #[]] W fun e w' => e = .returned (.tuple #[]) ∧ w.heap.size < w'.heap.size ∧ OrdAt w' w.heap.size (ordL f n) ∧ Below w.heap.size w w') := fun W hr hb => by
    have hH := holds_cand hr
    have hl := hr.lt
    have hcon := AnyQ.slices_SortFunc_total Ytjjnfpeeipainaa.sortC 2 Try.isAgg118 Try.sizeOf118 encH (fun _ => rfl) (fun x v hv => by simp [encH] at hv; rcases hv with rfl | rfl <;> rfl) cfH swoH 76 #[] w.heap.size 0 n (cand f n).toArray W eg (cmpLays _ _ _ _) hH hl (by simp [cand_len]; omega) totH
    have e1 : (cand f n).toArray.size = n := by simp [cand_len]
    rw [e1] at hcon
    refine Calls.mono hcon ?_
    rintro e w' ⟨rfl, m, os, rfl⟩
    exact ⟨rfl, lt_sortWorldK _ _ _ _ _ _ _ _ hl, ord_sorted hH hl, below_sort hb (Nat.le_refl _) (Nat.le_of_lt hl)⟩
  clear eg
  go_enter Try.func57, Try.ntmps57
  go_wp2
  go_loopw [11] (fun i wr => ∃ k : Nat, k ≤ n ∧ i = .int .i64 (k : Int) ∧ wr.rowIs w.heap.size 118 (n * 2) (candF f k) ∧ Below w.heap.size w wr) (fun i _ => n - (intOf i).toNat)
  case atStart => exact ⟨0, Nat.zero_le _, by simp, R0.congr (fun i _ => by unfold candF; rw [if_neg (by omega)]), f0⟩
  case round =>
    clear R0 f0 hmk
    obtain ⟨k, hk, rfl, hr, hf⟩ := hrel
    by_cases hlt : k < n
    · obtain ⟨b1, o1, rfl, h1⟩ := (h.fresh hf).one (by omega)
      have d := h1 k hlt
      have hle := h.le
      have htop := h.top
      unfold maxLen at htop
      have c0 := hr.cell (i := k * 2) (by omega)
      have c1 := hr.cell (i := k * 2 + 1) (by omega)
      have fr := hr.frozen
      have i0 : (0 : Int) ≤ (k : Int) := by omega
      have i1 : (k : Int) < (n : Int) := by omega
      have HR := hidd hr
      clear h1 hr
      go_wp2
      go_roundw
      case rel => exact ⟨k + 1, by omega, by go_num, ((HR.out.set (k * 2) (.int .i64 (k : Int))).set (k * 2 + 1) (.int .i64 (f k))).congr (fun j _ => candF_next f k j), (hf.setCell (Nat.le_refl _) _).setCell (Nat.le_refl _) _⟩
      case measure => simp [intOf]; omega
    · obtain rfl : k = n := by omega
      go_wp2_with (go_at_call 75; with_reducible refine (HS.out _ hr hf).mono ?_; rintro e w9 ⟨rfl, g1, g2, g3⟩)
      go_ret
      exact ⟨_, rfl, Nat.le_refl _, g1, g2, g3⟩
def RkP (w : World) (f : Nat → Int) (n : Nat) (e : Ending) (w' : World) : Prop := ∃ Bn g c, e = .returned (.func (.func 58) #[] #[.pointer (some ⟨Bn, 0, none⟩)]) ∧ w.heap.size ≤ Bn ∧ Bn < w'.heap.size ∧ w.heap.size ≤ g ∧ g < w'.heap.size ∧ w'.cell? ⟨Bn, 0, none⟩ = some (.slice (some ⟨g, 0, none⟩) n c) ∧ OrdAt w' g (ordL f n) ∧ Below w.heap.size w w'
theorem mkf (fn : Fn) (first cap : Array Value) (w : World) : (Instr.makeFunc fn first cap).run Try.prog w = .ok (.func fn first cap) w := by simp [Instr.makeFunc]
set_option maxRecDepth 20000 in
set_option maxHeartbeats 800000 in
theorem ranked_any {w : World} {ao : Option Addr} {n cap : Nat} {f : Nat → Int} (h : RdA w ao 1 n cap (fun i => .int .i64 (f i))) (hn : n ≤ 17592186043904) :
    Calls Try.prog 35 #[.slice ao n cap] w (RkP w f n) := by
  have hmf := mkf
  have HI := hidd (inOrder_any h hn)
  clear h
  go_enter Try.func35, Try.ntmps35
  go_wp2_with (go_at_call 57; with_reducible refine HI.out.mono ?_; rintro e w1 ⟨g, rfl, g1, g2, g3, g4⟩)
  go_ret
  have f1 := fresh_alloc w1 (.cells #[.slice (some ⟨g, 0, none⟩) n n] 114)
  exact ⟨w1.heap.size, g, n, rfl, g4.size, by simp, g1, by simp; omega, by simp, g3.below f1 g2, fresh_trans g4 f1⟩
end Go.Proofs.Ytjjnfpeeipainaa
namespace Go.Proofs.Ytjjnfpeeipainaa
open Go.RowKit Go.Shelf
open Go.Sort hiding Below
attribute [local go_sem] Oper.semAt_some
/-! Top. -/
theorem wpListIn_own1 {F : Fence} {fu : Nat} {P : Program} (w : World) {ops : Array Oper} {rest : List Oper} {o : Oper} {a : Act} {Q : Exit → Act → World → Prop}
    (hg : o.guard = none) (s x : Operand) (t : TypeId) (hop : o.op = Op.call { callee := Callee.builtin Builtin.append, args := #[s, x], argTypes := #[t, t] })
    (base : Nat) (e : TypeId) (z : Value) (bytes : Nat) (h1 : P.underlying t = some (.slice e)) (hinfo : (P.info? e).map (fun i => (i.zero, i.size, i.bytes)) = some (some z, 1, bytes)) (h6 : z.cells.size = 1)
    (v : Value) (n : Nat) (cs : Nat → Value) (hs : a.eval s = v) (hown : Own w base e 1 v n cs)
    (g c : Nat) (hx : a.eval x = .slice (some ⟨g, 0, none⟩) 1 c) (hc : w.cell? ⟨g, 0, none⟩ = some (cs n)) (h1c : (cs n).oneCell' = true)
    (b1 : n < 9223372036854775807) (b2 : (n + 1) * bytes ≤ 140737488355328) (hb : base ≤ w.heap.size)
    (hK : ∀ u c' w', Own w' base e 1 (.slice u (n + 1) c') (n + 1) cs → w.grownBy w' v.ownBlock → wpListIn F fu P ops Q rest (a.put o.dst (.slice u (n + 1) c')) w') : wpListIn F fu P ops Q (o :: rest) a w := by
  obtain ⟨i, hi, hz0, hz1, hz2⟩ := info_parts hinfo
  refine wpListIn_append_own w hg s x t hop base e i z 1 bytes h1 hi hz0 hz1 hz2 h6 (by decide) v n _ hs hown ⟨g, 0, none⟩ 1 c [cs n] hx rfl ?_ (by simpa using h1c) (by unfold maxLen; omega) b2 hb ?_
  · intro j u hj
    match j, hj with
    | 0, hj => simp at hj; subst hj; rw [add_lit0]; exact hc
  · intro v' w' h2 h3 _
    have ho : Own w' base e 1 v' (n + 1) cs := by
      unfold Own
      have e1 := news_len n 1 1 cs
      simp at e1
      simp only [Nat.mul_one] at h2 ⊢
      rw [← e1]
      simpa using h2
    obtain ⟨u, c', rfl, _⟩ := ho.rd
    exact hK u c' w' ho h3
theorem Boxed.trans' {W W' : World} {B : Nat} {t : TypeId} {v : Value} (h : Boxed W B t v) (f : Below W.heap.size W W') : Boxed W' B t v := (f.block B h.lt).trans h
theorem own_from (B base : Nat) (e : TypeId) (sz : Nat) (v : Value) (n : Nat) (cs : Nat → Value) : OwnFrom B (fun (_ : Unit) W => Own W base e sz v n cs) := fun _ X Y row hs hg hr => World.ownsRow.kept hs hg (by
  cases hv : v.ownBlock with
  | none => exact .inl rfl
  | some z =>
    refine .inr (fun e' => ?_)
    obtain ⟨_, o, ho, hc⟩ := hr z e'.symm
    rcases hs.2 with ⟨rfl, _⟩ | ⟨g, cap, cur, rfl, _, hgg, _⟩
    · simp [Value.ownBlock] at hv
    · simp only [Value.ownBlock, Option.some.injEq] at hv
      subst hv
      rw [hgg] at ho
      cases ho
      cases hc)
theorem Own.cells_ {W : World} {base : Nat} {e : TypeId} {sz : Nat} {v : Value} {n : Nat} {cs : Nat → Value} (h : Own W base e sz v n cs) {r : Nat} (hv : v.ownBlock = some r) : ∃ o, W.heap[r]? = some o ∧ o.isCells = true := by
  rcases h.2 with ⟨rfl, _⟩ | ⟨g, cap, cur, rfl, _, hgg, _⟩
  · simp [Value.ownBlock] at hv
  · simp only [Value.ownBlock, Option.some.injEq] at hv
    subst hv
    exact ⟨_, hgg, rfl⟩
theorem keeps_app {W W' : World} {row : Option Nat} (hg : W.grownBy W' row) (hr : ∀ r, row = some r → ∃ o, W.heap[r]? = some o ∧ o.isCells = true) : KeepsOthers W W' := ⟨hg.size, fun k o hk ho => by
  by_cases e : some k = row
  · obtain ⟨o', h1, h2⟩ := hr k e.symm
    rw [hk] at h1
    cases h1
    rw [ho] at h2
    cases h2
  · rw [hg.block k (Array.getElem?_eq_some_iff.1 hk).1 e]
    exact hk⟩
/-- the tokens so far -/
def ldF (pre : List (Int × Int)) : Nat → Value := fun j => .int .i64 (pre.getD j (0, 0)).1
def TI (w W0 : World) (k : Int) (pre : List (Int × Int)) (m : Nat) (W : World) : Prop :=
  ∃ v, Boxed W (w.heap.size + 1) 37 v ∧ Own W W0.heap.size 3 1 v m (ldF pre) ∧ Boxed W w.heap.size 3 (.int .i64 k) ∧ Below w.heap.size w W ∧ W0.heap.size ≤ W.heap.size
theorem TI.from {w W0 : World} (h : w.heap.size ≤ W0.heap.size) (k : Int) (pre : List (Int × Int)) (m : Nat) : OwnFrom W0.heap.size (fun (_ : Unit) W => TI w W0 k pre m W) := by
  rintro u X Y row ⟨v, h1, h2, h3, h4, h5⟩ hg hr
  exact ⟨v, boxed_own _ _ (fun (_ : Unit) => v) () X Y row h1 hg (fun r e => (hr r e).2), own_from _ _ _ _ _ _ _ () X Y row h2 hg hr, boxed_own _ _ (fun (_ : Unit) => Value.int .i64 k) () X Y row h3 hg (fun r e => (hr r e).2), ownFrom_below (β := Unit) (Nat.le_refl _) h () X Y row h4 hg hr, Nat.le_trans h5 hg.size⟩
set_option maxRecDepth 100000 in
set_option maxHeartbeats 4000000 in
theorem top_any {w : World} {ao : Option Addr} {n cap : Nat} {f : Nat → Int} (h : RdA w ao 1 n cap (fun i => .int .i64 (f i))) (hn : n ≤ 17592186043904) (k : Int) :
    Calls Try.prog 13 #[.slice ao n cap, .int .i64 k] w fun e w' => ∃ u c, e = .returned (.slice u (min k.toNat n) c) ∧ Own w' w.heap.size 3 1 (.slice u (min k.toNat n) c) (min k.toNat n) (fun j => .int .i64 (sg f n j)) ∧ Below w.heap.size w w' := by
  refine (callsIn_wide (n := 5)).1 ?_
  refine callsIn_of_wp_marks Try.func13 rfl trivial ?_ rfl
  simp only [Try.ntmps13, List.size_toArray, List.length_cons, List.length_nil, Nat.reduceAdd, Nat.reduceSub, Array.replicate_succ, Array.replicate_zero, List.push_toArray, List.append_toArray, List.nil_append, List.cons_append]
  have hB0 : Below w.heap.size w ((w.alloc (.cells #[.int .i64 k] 3)).alloc (.cells #[.slice none 0 0] 37)) := ((Below.refl _ w).alloc (Nat.le_refl _) _).alloc (by simp) _
  have bK := (Boxed.new w 3 (.int .i64 k)).alloc (.cells #[.slice none 0 0] 37)
  have bT := Boxed.new (w.alloc (.cells #[.int .i64 k] 3)) 37 (.slice none 0 0)
  simp only [World.size_alloc] at bT
  have HRK := hidd (ranked_any (h.fresh hB0) hn)
  clear h
  gi_wp2_with (refine ⟨trivial, ?_⟩; gi_at_call 35; refine (callsIn_wide.2 HRK.out).mono ?_; rintro e W0 ⟨Bn, g, c, rfl, hB1, hB2, hg1, hg2, hcl, hO, f0⟩)
  simp only [World.size_alloc] at hB1 hg1
  have f1 := hB0.trans (f0.mono (by simp; omega))
  have hs0 := f0.size
  simp only [World.size_alloc] at hs0
  have bK1 := Boxed.trans' bK f0
  have bT1 := Boxed.trans' bT f0
  have hLn : (ordL f n).length = n := ordL_len f n
  have HO := hidd hO
  have H0 : Hid (TI w W0 k [] 0 W0) := ⟨_, bT1, own_nil _ _ _ _ _, bK1, f1, Nat.le_refl _⟩
  clear bK bT bK1 bT1 hO HRK hB0
  refine wpIn_rangeFunc_ownH (α := Int × Int) rfl (by decide) (gf := 58) (lb := #[.pointer (some ⟨Bn, 0, none⟩)]) rfl trivial (enters_of Try.func58 (by kernel_rfl) rfl)
    (iter_stops Fence.wide 4 trivial rfl (by decide) Bn g c (ordL f n) (by omega) W0 hB2 hg2 (by rw [hLn]; exact hcl) HO.out) KpB.trans (fun V l o o' hl hV hc _ => ⟨by simp, World.putObj_heap_other (by omega), World.putObj_heap_other (by omega)⟩) (Below.refl _ _) (fun _ => rfl)
    (fun pre W => TI w W0 k pre pre.length W ∧ ((pre.length : Int) ≤ k ∨ pre.length = 0))
    (fun cd pre W => cd = .exit 0 ∧ ∃ m, pre.length = m + 1 ∧ k ≤ (m : Int) ∧ ((m : Int) ≤ k ∨ m = 0) ∧ TI w W0 k pre m W)
    ?hI ?hIx ?h0
    (fun z a' _ => a' = { tmps := #[.slice ao n cap, .int .i64 k, undef, .pointer (some ⟨w.heap.size, 0, none⟩), .slice none 0 0, .pointer (some ⟨w.heap.size + 1, 0, none⟩), .int .i64 z.1, .slice ao n cap, .func (.func 58) #[] #[.pointer (some ⟨Bn, 0, none⟩)], .int .i64 z.1, .int .i64 z.2, undef, undef, undef, undef, undef, undef, undef, undef, undef], defers := [] })
    ?hAx ?assign ?body ?done ?stop
  case hI =>
    rintro pre X Y row ⟨h1, h2⟩ hg hr
    exact ⟨TI.from (by omega) k pre _ () X Y row h1 hg hr, h2⟩
  case hIx =>
    rintro cd pre X Y row ⟨h1, m, h2, h3, h4, h5⟩ hg hr
    exact ⟨h1, m, h2, h3, h4, TI.from (by omega) k pre _ () X Y row h5 hg hr⟩
  case h0 => exact ⟨H0.out, .inr rfl⟩
  case hAx =>
    rintro z a' u X Y row e1 hg hr
    exact e1
  case assign =>
    rintro l pre ⟨x, y⟩ W K hi hK
    have HI := hidd hi
    clear hi
    unfold encX
    gi_wp2
    exact hK _ _ (KeepsFrom.refl _ _) (KpB.refl _ _ _) HI.out rfl
  case body =>
    rintro l pre ⟨x, y⟩ a' W hl hlr ⟨⟨v, h1, h2, h3, h4, h5⟩, h6⟩ rfl hlt
    have hO2 := h2
    obtain ⟨u, uc, rfl, hrd⟩ := h2.rd
    have c1 := h1.cell
    have c3 := h3.cell
    rw [hLn] at hlt
    by_cases hge : k ≤ (pre.length : Int)
    · have hd : decide (k ≤ (pre.length : Int)) = true := decide_eq_true hge
      gi_wp2
      exact ⟨KeepsFrom.refl _ _, rfl, pre.length, by simp, hge, h6, _, h1, hO2.congr (fun j hj => by unfold ldF; rw [List.getD_eq_getElem?_getD, List.getD_eq_getElem?_getD, List.getElem?_append_left (by omega)]), h3, h4, h5⟩
    · have hd : decide (k ≤ (pre.length : Int)) = false := decide_eq_false hge
      have HX : Hid (∀ (w0 : World) (t : TypeId), (w0.alloc (.cells #[.int .i64 x] t)).cell? ⟨w0.heap.size, 0, none⟩ = some (ldF (pre ++ [(x, y)]) pre.length)) := fun w0 t => by rw [new_cell]; unfold ldF; simp
      have HO3 : Hid (Own (W.alloc (.cells #[.int .i64 x] 3)) W0.heap.size 3 1 (.slice u pre.length uc) pre.length (ldF (pre ++ [(x, y)]))) := (hO2.kept (fresh_alloc _ _)).congr (fun j hj => by unfold ldF; rw [List.getD_eq_getElem?_getD, List.getD_eq_getElem?_getD, List.getElem?_append_left (by omega)])
      have HONE : Hid ((ldF (pre ++ [(x, y)]) pre.length).oneCell' = true) := by show _ = _; unfold ldF; rfl
      gi_wp2_with (gi_at_builtin; refine wpListIn_own1 _ rfl _ _ 37 rfl W0.heap.size 3 (.int .i64 0) 8 Try.underlying37 infoIh rfl _ pre.length (ldF (pre ++ [(x, y)])) rfl HO3.out _ 1 rfl (HX.out _ _) HONE.out (by omega) (by omega) (by simp; omega) ?_)
      intro u' c' w1 hown' hgr
      have hne : some (w.heap.size + 1) ≠ (Value.slice u pre.length uc).ownBlock := fun e => by have := (HO3.out.lt _ e.symm).1; omega
      have hne0 : some w.heap.size ≠ (Value.slice u pre.length uc).ownBlock := fun e => by have := (HO3.out.lt _ e.symm).1; omega
      have b9 := (h1.alloc (.cells #[.int .i64 x] 3)).kept hgr hne
      have b8 := (h3.alloc (.cells #[.int .i64 x] 3)).kept hgr hne0
      have c9 := b9.cell
      have f9 := b9.frozen
      have hw1 := hgr.size
      have hkb : ∀ z, z < W0.heap.size → w1.heap[z]? = W.heap[z]? := fun z hz => (hgr.block z (by simp; omega) (fun e => by have := (HO3.out.lt _ e.symm).1; omega)).trans (Below.heap_alloc _ _ _ (by omega))
      have hf1 := (h4.alloc (by omega) (.cells #[.int .i64 x] 3)).grown hgr (by simp; omega) (fun z hz => by have := (HO3.out.lt _ hz).1; omega)
      gi_wp2
      refine ⟨(((KeepsOthers.alloc W _).trans (keeps_app hgr (fun r e => HO3.out.cells_ e))).trans (KeepsOthers.setCell _ _ _)).from _, ⟨by simp at hw1 ⊢; omega, (Below.heap_setCell _ _ _ _ (by show ¬ (_ = w.heap.size + 1); omega)).trans (hkb _ (by omega)), (Below.heap_setCell _ _ _ _ (by show ¬ (_ = w.heap.size + 1); omega)).trans (hkb _ (by omega))⟩, ⟨_, b9.set _, ?_, b8.other (by omega) _, hf1.setCell (by show _ ≤ w.heap.size + 1; omega) _, by simp at hw1 ⊢; omega⟩, .inl (by simp; omega)⟩
      have := ownsRow_setCell_below hown' (a := ⟨w.heap.size + 1, 0, none⟩) (by show w.heap.size + 1 < _; omega) (.slice u' (pre.length + 1) c')
      rw [show (pre ++ [(x, y)]).length = pre.length + 1 by simp]
      exact this
  case done =>
    rintro D xs W hD rfl ⟨⟨v, h1, h2, h3, h4, h5⟩, h6⟩ hW
    have hO2 := h2
    obtain ⟨u, uc, rfl, hrd⟩ := h2.rd
    have c1 := h1.cell
    have hmin : min k.toNat n = n := by rw [hLn] at h6; omega
    gi_wp2
    refine ⟨by simp, .inl ⟨_, _, rfl, run_takeDeferred hW, ?_⟩⟩
    rw [hmin]
    have hgr := grownBy_putObj' W D (.deferred none)
    have ho9 := (own_from 0 _ _ _ _ _ _ () W _ (some D) hO2 hgr (fun r e => by cases e; exact ⟨Nat.zero_le _, _, hW, rfl⟩)).weaken (base' := w.heap.size) (by omega)
    rw [hLn] at ho9
    refine ⟨.slice u n uc, by simp [results, Try.f13, go_sem], u, uc, rfl, ho9.congr (fun j hj => ?_), h4.trans (belowK_b (w := w) (Nat.le_refl _) W D _ _ (by omega) hW rfl rfl)⟩
    unfold ldF
    rw [List.getD_eq_getElem?_getD, (ordL_get (by omega)).1]
    rfl
  case stop =>
    rintro D cd pre W hD hp ⟨rfl, m, hm, hk1, hk2, v, h1, h2, h3, h4, h5⟩ hW
    have hO2 := h2
    obtain ⟨u, uc, rfl, hrd⟩ := h2.rd
    have c1 := h1.cell
    have hpl : pre.length ≤ n := by have := hp.length_le; rw [hLn] at this; exact this
    have hmin : min k.toNat n = m := by omega
    gi_wp2
    refine ⟨by simp, .inl ⟨_, _, rfl, run_takeDeferred hW, ?_⟩⟩
    rw [hmin]
    have hgr := grownBy_putObj' W D (.deferred none)
    have ho9 := (own_from 0 _ _ _ _ _ _ () W _ (some D) hO2 hgr (fun r e => by cases e; exact ⟨Nat.zero_le _, _, hW, rfl⟩)).weaken (base' := w.heap.size) (by omega)
    refine ⟨.slice u m uc, by simp [results, Try.f13, go_sem], u, uc, rfl, ho9.congr (fun j hj => ?_), h4.trans (belowK_b (w := w) (Nat.le_refl _) W D _ _ (by omega) hW rfl rfl)⟩
    unfold ldF
    obtain ⟨r, hr⟩ := hp
    have e1 := (ordL_get (f := f) (n := n) (k := j) (by omega)).1
    rw [← hr, List.getElem?_append_left (by omega)] at e1
    rw [List.getD_eq_getElem?_getD, e1]
    rfl
end Go.Proofs.Ytjjnfpeeipainaa
