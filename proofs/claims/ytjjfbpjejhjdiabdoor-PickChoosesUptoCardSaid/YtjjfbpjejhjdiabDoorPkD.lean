import Derived.Test.YtjjfbpjejhjdiabDoorPkC
import Derived.Test.YtjjfbpjejhjdiabDoorExp
import Derived.Laws.OwnMore
namespace Go.Proofs.YtjjfbpjejhjdiabDoor
open Go.RowKit
/-! The rules, one by one. -/
theorem Own.put {w : World} {base : Nat} {e : TypeId} {sz g cap n : Nat} {cs : Nat → Value} (h : Own w base e sz (.slice (some ⟨g, 0, none⟩) n cap) n cs) (j : Nat) (x : Value) : Own (w.setCell ⟨g, j, none⟩ x) base e sz (.slice (some ⟨g, 0, none⟩) n cap) n (fun i => if i = j then x else cs i) := by
  have := (World.ownsRow.stored h j x).1
  unfold Own
  have e1 : (List.range (n * sz)).map (fun i => if i = j then x else cs i) = ((List.range (n * sz)).map cs).set j x := by
    refine List.ext_getElem? (fun i => ?_)
    rw [List.getElem?_set]
    by_cases hi : i < n * sz
    · by_cases e : j = i
      · subst e
        simp [hi]
      · rw [if_neg e]
        simp [hi]
        exact fun q => absurd q.symm e
    · simp [hi]
      omega
  rw [e1]
  exact this
theorem Own.shrink {w : World} {base : Nat} {e : TypeId} {sz m k cap : Nat} {u : Option Addr} {cs : Nat → Value} (h : Own w base e sz (.slice u m cap) m cs) (hk : k ≤ m) : Own w base e sz (.slice u k cap) k cs := by
  rcases h.2 with ⟨h1, h2⟩ | ⟨g, cap', cur, h1, hb, hg, hnc, hcm, hcs, htake⟩
  · cases h1
    obtain rfl : k = 0 := by omega
    exact h
  · cases h1
    refine ⟨by simp, .inr ⟨g, cap, cur, rfl, hb, hg, by omega, hcm, hcs, ?_⟩⟩
    have hks : k * sz ≤ m * sz := Nat.mul_le_mul_right _ hk
    have h2 := congrArg (List.take (k * sz)) htake
    rw [List.take_take, Nat.min_eq_left hks] at h2
    rw [h2, ← List.map_take, List.take_range, Nat.min_eq_left hks]
theorem Own.at_ {w : World} {base : Nat} {e : TypeId} {sz n c : Nat} {u : Option Addr} {cs : Nat → Value} (h : Own w base e sz (.slice u n c) n cs) (hn : 0 < n) : ∃ g, u = some ⟨g, 0, none⟩ ∧ base ≤ g ∧ g < w.heap.size ∧ (∀ j, j < n * sz → w.cell? ⟨g, j, none⟩ = some (cs j)) ∧ (∀ j, w.frozen? ⟨g, j, none⟩ = false) := by
  obtain ⟨ao, cap, e1, hr⟩ := h.rd
  injection e1 with e2 _ e3
  subst e2 e3
  obtain ⟨b, off, rfl, hc⟩ := hr.at_ hn
  rcases h.2 with ⟨e4, _⟩ | ⟨g, cap', cur, e4, hb, hgg, _⟩
  · cases e4
  · injection e4 with e5 _ e6
    injection e5 with e5
    injection e5 with e7 e8
    subst e7 e8
    refine ⟨_, rfl, hb, (Array.getElem?_eq_some_iff.1 hgg).1, fun j hj => by simpa using hc j hj, fun j => by simp [World.frozen?, hgg]⟩
theorem Own.les {w : World} {base : Nat} {e : TypeId} {sz n c : Nat} {u : Option Addr} {cs : Nat → Value} (h : Own w base e sz (.slice u n c) n cs) : n ≤ c ∧ c ≤ 9223372036854775807 := by
  obtain ⟨ao, cap, e1, hr⟩ := h.rd
  injection e1 with e2 _ e3
  subst e2 e3
  have := hr.top
  unfold maxLen at this
  exact ⟨hr.le, this⟩
/-- a list of candidates: token, score, weight -/
def ldW (A : List (Int × Int)) (wf : Nat → Int) : Nat → Value := fun j => if j % 3 = 0 then .int .i64 (A.getD (j / 3) (0, 0)).1 else if j % 3 = 1 then .int .i64 (A.getD (j / 3) (0, 0)).2 else .int .i64 (wf (j / 3))
theorem ldW_zero (A : List (Int × Int)) : ldC A = ldW A (fun _ => 0) := rfl
theorem mod3 (k j : Nat) (h : j < 3) : (k * 3 + j) % 3 = j ∧ (k * 3 + j) / 3 = k := by omega
theorem ldW_at (A : List (Int × Int)) (wf : Nat → Int) (k : Nat) : ldW A wf (k * 3) = .int .i64 (A.getD k (0, 0)).1 ∧ ldW A wf (k * 3 + 1) = .int .i64 (A.getD k (0, 0)).2 ∧ ldW A wf (k * 3 + 2) = .int .i64 (wf k) := by
  have e0 := mod3 k 0 (by omega)
  have e1 := mod3 k 1 (by omega)
  have e2 := mod3 k 2 (by omega)
  simp only [Nat.add_zero] at e0
  unfold ldW
  rw [e0.1, e0.2, e1.1, e1.2, e2.1, e2.2]
  simp
theorem ldW_take {A : List (Int × Int)} {wf : Nat → Int} {k j : Nat} (h : j < k * 3) : ldW A wf j = ldW (A.take k) wf j := by
  unfold ldW
  have : (A.take k).getD (j / 3) (0, 0) = A.getD (j / 3) (0, 0) := by
    rw [List.getD_eq_getElem?_getD, List.getD_eq_getElem?_getD, List.getElem?_take, if_pos (by omega)]
  rw [this]
theorem ldW_put (A : List (Int × Int)) (wf : Nat → Int) (k : Nat) (x : Int) (j : Nat) : (if j = k * 3 + 2 then Value.int .i64 x else ldW A wf j) = ldW A (fun i => if i = k then x else wf i) j := by
  unfold ldW
  by_cases h : j = k * 3 + 2
  · have e2 := mod3 k 2 (by omega)
    rw [if_pos h, h, e2.1, e2.2]
    simp
  · rw [if_neg h]
    by_cases h0 : j % 3 = 0
    · rw [if_pos h0, if_pos h0]
    · rw [if_neg h0, if_neg h0]
      by_cases h1 : j % 3 = 1
      · rw [if_pos h1, if_pos h1]
      · rw [if_neg h1, if_neg h1]
        show _ = Value.int .i64 (if j / 3 = k then x else wf (j / 3))
        rw [if_neg (by omega)]
def CL (w : World) (base : Nat) (u : Option Addr) (c : Nat) (A : List (Int × Int)) (wf : Nat → Int) : Prop := Own w base 70 3 (.slice u A.length c) A.length (ldW A wf)
theorem CL.kept {w w' : World} {base c : Nat} {u : Option Addr} {A : List (Int × Int)} {wf : Nat → Int} (h : CL w base u c A wf) (f : Below w.heap.size w w') : CL w' base u c A wf := Own.kept h f
theorem CL.congr {w : World} {base c : Nat} {u : Option Addr} {A : List (Int × Int)} {wf wf' : Nat → Int} (h : CL w base u c A wf) (e : ∀ i, i < A.length → wf i = wf' i) : CL w base u c A wf' :=
  Own.congr h fun j hj => by
    unfold ldW
    rw [e (j / 3) (by omega)]
theorem CL.take {w : World} {base c k : Nat} {u : Option Addr} {A : List (Int × Int)} {wf : Nat → Int} (h : CL w base u c A wf) (hk : k ≤ A.length) : CL w base u c (A.take k) wf := by
  unfold CL
  rw [List.length_take, Nat.min_eq_left hk]
  exact (Own.shrink h hk).congr fun j hj => ldW_take hj
theorem CL.put {w : World} {base g c : Nat} {A : List (Int × Int)} {wf : Nat → Int} (h : CL w base (some ⟨g, 0, none⟩) c A wf) (k : Nat) (x : Int) : CL (w.setCell ⟨g, k * 3 + 2, none⟩ (.int .i64 x)) base (some ⟨g, 0, none⟩) c A (fun i => if i = k then x else wf i) :=
  (Own.put h (k * 3 + 2) (.int .i64 x)).congr fun j _ => ldW_put A wf k x j
theorem CL.cells {w : World} {base c : Nat} {u : Option Addr} {A : List (Int × Int)} {wf : Nat → Int} (h : CL w base u c A wf) (hn : 0 < A.length) : ∃ g, u = some ⟨g, 0, none⟩ ∧ base ≤ g ∧ g < w.heap.size ∧ (∀ k, k < A.length → w.cell? ⟨g, k * 3, none⟩ = some (.int .i64 (A.getD k (0, 0)).1) ∧ w.cell? ⟨g, k * 3 + 1, none⟩ = some (.int .i64 (A.getD k (0, 0)).2) ∧ w.cell? ⟨g, k * 3 + 2, none⟩ = some (.int .i64 (wf k))) ∧ (∀ j, w.frozen? ⟨g, j, none⟩ = false) := by
  obtain ⟨g, rfl, h1, h2, h3, h4⟩ := Own.at_ h hn
  refine ⟨g, rfl, h1, h2, fun k hk => ?_, h4⟩
  obtain ⟨e0, e1, e2⟩ := ldW_at A wf k
  rw [← e0, ← e1, ← e2]
  exact ⟨h3 _ (by omega), h3 _ (by omega), h3 _ (by omega)⟩
/-- all blocks but the list's are as they were -/
structure Gw (w w' : World) (u : Option Addr) : Prop where
  size : w.heap.size ≤ w'.heap.size
  block : ∀ k, k < w.heap.size → (∀ g, u = some ⟨g, 0, none⟩ → k ≠ g) → w'.heap[k]? = w.heap[k]?
theorem Gw.of_fresh {w w' : World} {u : Option Addr} (f : Below w.heap.size w w') : Gw w w' u := ⟨f.size, fun k hk _ => f.block k hk⟩
theorem Gw.trans {a b c : World} {u : Option Addr} (h : Gw a b u) (k : Gw b c u) : Gw a c u := ⟨Nat.le_trans h.size k.size, fun i hi hu => (k.block i (Nat.lt_of_lt_of_le hi h.size) hu).trans (h.block i hi hu)⟩
theorem Gw.alloc {w w' : World} {u : Option Addr} (h : Gw w w' u) (o : Obj) : Gw w (w'.alloc o) u := h.trans (Gw.of_fresh (fresh_alloc _ _))
theorem Gw.drew {w w' : World} {u : Option Addr} (h : Gw w w' u) : Gw w w'.drew u := ⟨h.size, h.block⟩
theorem Gw.set {w w' : World} {g : Nat} (h : Gw w w' (some ⟨g, 0, none⟩)) (j : Nat) (v : Value) : Gw w (w'.setCell ⟨g, j, none⟩ v) (some ⟨g, 0, none⟩) :=
  ⟨by have := h.size; simpa using this, fun k hk hu => (Below.heap_setCell _ _ _ _ (fun q => hu g rfl q)).trans (h.block k hk hu)⟩
theorem Gw.cell {w w' : World} {u : Option Addr} (h : Gw w w' u) {k j : Nat} {v : Value} (hc : w.cell? ⟨k, j, none⟩ = some v) (hu : ∀ g, u = some ⟨g, 0, none⟩ → k ≠ g) : w'.cell? ⟨k, j, none⟩ = some v := by
  have := h.block k (lt_of_cell hc) hu
  unfold World.cell? at *
  rw [this]
  exact hc
set_option maxRecDepth 20000 in
set_option maxHeartbeats 800000 in
theorem greatest_any (p : Prm) {w : World} {base c : Nat} {u : Option Addr} {A : List (Int × Int)} {wf : Nat → Int} (h : CL w base u c A wf) (hb : base ≤ w.heap.size) (hn : A.length ≤ 1048576) :
    Calls Tryd.prog 58 #[.agg #[.int .i64 p.temp, .int .i64 p.topk, .int .i64 p.topp, .int .i64 p.pen, .int .u64 (p.seed : Int)], .slice u A.length c] w fun e w' => e = .returned (.slice u (A.take 1).length c) ∧ CL w' base u c (A.take 1) (fun _ => 65536) ∧ Below base w w' ∧ Gw w w' u := by
  have fr := fresh_alloc w (.cells #[.int .i64 p.temp, .int .i64 p.topk, .int .i64 p.topp, .int .i64 p.pen, .int .u64 (p.seed : Int)] 24)
  have hles := Own.les h
  by_cases h0 : A.length = 0
  · have hA : A = [] := List.length_eq_zero_iff.1 h0
    subst hA
    have H := hidd (CL.kept h fr)
    clear h
    simp only [List.length_nil, List.take_nil] at *
    go_enter Tryd.func58, Tryd.ntmps58
    go_wp2
    refine wp_loop_rounds 1 ?_
    rw [rounds_succ]
    go_wp2
    go_ret
    exact ⟨rfl, H.out.congr (fun i hi => absurd hi (by simp)), fr.mono hb, Gw.of_fresh fr⟩
  · have h1 : (A.take 1).length = 1 := by rw [List.length_take]; omega
    have h2 := (CL.kept h fr).take (k := 1) (by omega)
    obtain ⟨g, rfl, g1, g2, g3, g4⟩ := CL.cells h2 (by omega)
    have c2 := (g3 0 (by omega)).2.2
    have g4 := g4 2
    simp only [Nat.zero_mul, Nat.zero_add] at c2
    have H := hidd h2
    have hmin : min (A.length : Int) 1 = 1 := by omega
    clear h h2 g3
    rw [h1]
    go_enter Tryd.func58, Tryd.ntmps58
    go_wp2
    refine wp_loop_rounds 2 ?_
    rw [rounds_succ]
    go_wp2
    rw [rounds_succ]
    go_wp2
    go_ret
    exact ⟨rfl, (H.out.put 0 65536).congr (fun i hi => by rw [h1] at hi; rw [if_pos (by omega)]), (fr.mono hb).setCell g1 _, (Gw.of_fresh fr).set _ _⟩
set_option maxRecDepth 20000 in
set_option maxHeartbeats 800000 in
theorem firstOnes_any (p : Prm) (ok : p.Ok) (hk : p.topk ≠ 0) {w : World} {base c : Nat} {u : Option Addr} {A : List (Int × Int)} {wf : Nat → Int} (h : CL w base u c A wf) (hb : base ≤ w.heap.size) (hn : A.length ≤ 1048576) :
    Calls Tryd.prog 60 #[.agg #[.int .i64 p.temp, .int .i64 p.topk, .int .i64 p.topp, .int .i64 p.pen, .int .u64 (p.seed : Int)], .slice u A.length c] w fun e w' => e = .returned (.slice u (topL p.topk A).length c) ∧ CL w' base u c (topL p.topk A) wf ∧ Below base w w' ∧ w' = w.alloc (.cells #[.int .i64 p.temp, .int .i64 p.topk, .int .i64 p.topp, .int .i64 p.pen, .int .u64 (p.seed : Int)] 24) := by
  have fr := fresh_alloc w (.cells #[.int .i64 p.temp, .int .i64 p.topk, .int .i64 p.topp, .int .i64 p.pen, .int .u64 (p.seed : Int)] 24)
  have hles := Own.les h
  have k0 := ok.k0
  have k1 := ok.k1
  have e1 : topL p.topk A = A.take (min A.length p.topk.toNat) := by
                                                                       unfold topL
                                                                       rw [if_neg hk]
                                                                       by_cases q : p.topk.toNat ≤ A.length
                                                                       · rw [Nat.min_eq_right q]
                                                                       · rw [Nat.min_eq_left (by omega), List.take_of_length_le (by omega), List.take_length]
  have h2 := (CL.kept h fr).take (k := min A.length p.topk.toNat) (by omega)
  rw [← e1] at h2
  have e2 : (topL p.topk A).length = min A.length p.topk.toNat := by rw [e1, List.length_take]; omega
  have e3 : min (A.length : Int) p.topk = ((min A.length p.topk.toNat : Nat) : Int) := by omega
  have H := hidd h2
  have hlt : min A.length p.topk.toNat ≤ c := by omega
  rw [e2]
  generalize min A.length p.topk.toNat = m at *
  clear h h2
  go_enter Tryd.func60, Tryd.ntmps60
  go_wp2
  go_ret
  exact ⟨rfl, H.out, fr.mono hb, rfl⟩
end Go.Proofs.YtjjfbpjejhjdiabDoor
