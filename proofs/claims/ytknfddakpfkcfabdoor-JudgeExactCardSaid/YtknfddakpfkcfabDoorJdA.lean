import Derived.Test.YtknfddakpfkcfabDoorTrAj
namespace Go.Proofs.YtknfddakpfkcfabDoor
open Go.RowKit
/-! The law's marked lists and trees. -/
theorem infoI : (Tryd.prog.info? 3).map (fun i => (i.zero, i.size, i.bytes)) = some (some (.int .i64 0), 1, 8) := by kernel_rfl
set_option maxRecDepth 20000 in
set_option maxHeartbeats 1600000 in
theorem eqInts_any {w : World} {ao bo : Option Addr} {n m ca cb : Nat} {f g : Nat → Int} (ha : RdA w ao 1 n ca (fun i => .int .i64 (f i))) (hb : RdA w bo 1 m cb (fun i => .int .i64 (g i))) :
    Calls Tryd.prog 28 #[.slice ao n ca, .slice bo m cb] w fun e w' => (∃ r : Bool, e = .returned (.bool r) ∧ (r = true ↔ n = m ∧ ∀ i, i < n → f i = g i)) ∧ Below w.heap.size w w' := by
  have hn : n ≤ 9223372036854775807 := by have := ha.le; have := ha.top; unfold maxLen at this; omega
  have hm : m ≤ 9223372036854775807 := by have := hb.le; have := hb.top; unfold maxLen at this; omega
  by_cases hnm : n = m
  · subst hnm
    go_enter Tryd.func28, Tryd.ntmps28
    go_wp2
    go_loopw [5] (fun i wr => ∃ k : Nat, k ≤ n ∧ i = .int .i64 k ∧ Hid (∀ j, j < k → f j = g j) ∧ Below w.heap.size w wr) (fun i _ => n - (intOf i).toNat)
    case atStart => exact ⟨0, by omega, rfl, fun j hj => absurd hj (by omega), Below.refl _ _⟩
    case round =>
      obtain ⟨k, hk, rfl, HE, hf⟩ := hrel
      by_cases hlt : k < n
      · obtain ⟨b1, o1, rfl, h1⟩ := (ha.fresh hf).one (by omega)
        obtain ⟨b2, o2, rfl, h2⟩ := (hb.fresh hf).one (by omega)
        have c1 := h1 k hlt
        have c2 := h2 k hlt
        clear h1 h2
        by_cases e : f k = g k
        · rw [← e] at c2
          have HE3 := hidd e
          clear e
          go_wp2
          go_quiet (fail)
          go_wp2
          go_roundw
          case rel => exact ⟨k + 1, by omega, by go_num, fun j hj => (by
            by_cases q : j = k
            · rw [q]; exact HE3.out
            · exact HE.out j (by omega)), below_drewN hf _⟩
          case measure => simp [intOf]; omega
        · have x3 : decide (f k = g k) = false := decide_eq_false e
          have HE3 := hidd e
          go_wp2
          go_quiet (fail)
          go_wp2
          go_ret
          exact ⟨⟨false, rfl, ⟨fun q => (by cases q), fun q => absurd (q.2 k hlt) HE3.out⟩⟩, below_drewN hf _⟩
      · obtain rfl : n = k := by omega
        go_wp2
        go_ret
        exact ⟨⟨true, rfl, ⟨fun _ => ⟨(by first | rfl | trivial), HE.out⟩, fun _ => rfl⟩⟩, hf⟩
  · have hne : ¬ (n : Int) = (m : Int) := by omega
    go_enter Tryd.func28, Tryd.ntmps28
    go_wp2
    go_ret
    exact ⟨⟨false, rfl, ⟨fun q => (by cases q), fun q => absurd q.1 hnm⟩⟩, Below.refl _ _⟩
set_option maxRecDepth 20000 in
set_option maxHeartbeats 1600000 in
theorem copyI_any {w : World} {ao : Option Addr} {n cap : Nat} {f : Nat → Int} (h : RdA w ao 1 n cap (fun i => .int .i64 (f i))) (hn : n ≤ 17592186043904) :
    Calls Tryd.prog 11 #[.slice ao n cap] w fun e w' => ∃ u uc, e = .returned (.slice u n uc) ∧ Own w' w.heap.size 3 1 (.slice u n uc) n (fun i => .int .i64 (f i)) ∧ Below w.heap.size w w' := by
  have hn2 : n ≤ 9223372036854775807 := by omega
  go_enter Tryd.func11, Tryd.ntmps11
  go_wp2
  go_loopw [3, 4] (fun v i wr => ∃ k : Nat, k ≤ n ∧ i = .int .i64 k ∧ Own wr w.heap.size 3 1 v k (fun j => .int .i64 (f j)) ∧ Below w.heap.size w wr) (fun _ i _ => n - (intOf i).toNat)
  case atStart => exact ⟨0, by omega, rfl, own_nil _ _ _ _ _, Below.refl _ _⟩
  case round =>
    obtain ⟨k, hk, rfl, hown, hf⟩ := hrel
    have hsz := hf.size
    by_cases hlt : k < n
    · obtain ⟨b1, o1, rfl, h1⟩ := (h.fresh hf).one (by omega)
      have d := h1 k hlt
      have hle := h.le
      have HX : Hid (∀ (w0 : World) (t : TypeId), (w0.alloc (.cells #[.int .i64 (f k)] t)).cell? ⟨w0.heap.size, 0, none⟩ = some ((fun j => Value.int .i64 (f j)) k)) := fun w0 t => new_cell _ _ _
      clear h1
      generalize f k = y at d HX
      go_wp2_with (at_builtin; refine wpList_app1 _ rfl _ _ 23 rfl w.heap.size 3 (.int .i64 0) 8 Tryd.underlying23 infoI rfl _ k (fun j => .int .i64 (f j)) rfl (hown.kept (fresh_alloc _ _)) _ 1 rfl (HX.out _ _) rfl (by omega) (by omega) (by simp; omega) ?_)
      intro v' w1 hown' happ
      have hf1 := happ.below (hf.alloc hsz _) (hown.kept (fresh_alloc _ _)) (Nat.le_refl _) (by simp; omega)
      clear happ hown
      go_wp2
      go_roundw
      case rel => exact ⟨k + 1, by omega, by go_num, hown', hf1⟩
      case measure => simp [intOf]; omega
    · obtain rfl : k = n := by omega
      obtain ⟨u, uc, rfl, hu⟩ := hown.rd
      go_wp2
      go_ret
      exact ⟨u, uc, rfl, hown, hf⟩
def mkd (f : Nat → Int) (n : Nat) : Nat → Int := fun i => if i < n then f i else -123456
/-- the nodes of a marked tree -/
def mkn (n : Nat) (P T D : Nat → Int) : Nat → Value := nds (mkN n P (-123456)) (mkN n T 0) (mkN n D 0)
theorem mkn_lt (n : Nat) (P T D : Nat → Int) {j : Nat} (h : j < n * 3) : mkn n P T D j = nds P T D j := nds_congr (n := n) (fun _ hi => ⟨mkN_lt P _ hi, mkN_lt T _ hi, mkN_lt D _ hi⟩) h
theorem made3 (w : World) (n : Nat) (t : TypeId) : (w.alloc (.cells (madeCells #[.int .i64 0, .int .i64 0, .int .i64 0] (n * 3)) t)).rowIs w.heap.size t (n * 3) (fun _ => .int .i64 0) :=
  ⟨_, Go.Deep.blk_alloc_new _ _, size_madeCells _ _, fun i hi => by
    have : i % 3 = 0 ∨ i % 3 = 1 ∨ i % 3 = 2 := by omega
    rcases this with e | e | e <;> simp [madeCells, hi, e]⟩
theorem run_make_nodes (n : Nat) (hn : n * 24 ≤ 140737488352768) (w : World) : (Instr.makeSlice 27 (.int .i64 (n : Int)) (.int .i64 (n : Int))).run Tryd.prog w = .ok (.slice (some ⟨w.heap.size, 0, none⟩) n n) (w.alloc (.cells (madeCells #[.int .i64 0, .int .i64 0, .int .i64 0] (n * 3)) 42)) := by
  obtain ⟨i, hi, z0, z1, z2⟩ := info_parts infoN
  have hr := run_make (P := Tryd.prog) w 27 42 i _ Tryd.underlying27 hi z0 .i64 .i64 n n (by omega) (Int.le_refl _) (by rw [z2]; omega) (by omega)
  simp only [Int.toNat_natCast, z1] at hr
  exact hr
def ouF (P T D : Nat → Int) (k : Nat) : Nat → Value := fun j => if j < k * 3 then nds P T D j else .int .i64 0
theorem ouF_next (P T D : Nat → Int) (k j : Nat) : (if j = k * 3 + 2 then Value.int .i64 (D k) else if j = k * 3 + 1 then .int .i64 (T k) else if j = k * 3 then .int .i64 (P k) else ouF P T D k j) = ouF P T D (k + 1) j := by
  unfold ouF
  by_cases h1 : j = k * 3 + 2
  · subst h1; rw [if_pos rfl, if_pos (by omega), nds_2]
  · rw [if_neg h1]
    by_cases h2 : j = k * 3 + 1
    · subst h2; rw [if_pos rfl, if_pos (by omega), nds_1]
    · rw [if_neg h2]
      by_cases h3 : j = k * 3
      · subst h3; rw [if_pos rfl, if_pos (by omega), nds_0]
      · rw [if_neg h3]
        by_cases h4 : j < k * 3
        · rw [if_pos h4, if_pos (by omega)]
        · rw [if_neg h4, if_neg (by omega)]
theorem ouF_twice (a b c a' b' c' : Value) (x : Value) (k j : Nat) : (if j = k * 3 + 2 then c else if j = k * 3 + 1 then b else if j = k * 3 then a else if j = k * 3 + 2 then c' else if j = k * 3 + 1 then b' else if j = k * 3 then a' else x) = (if j = k * 3 + 2 then c else if j = k * 3 + 1 then b else if j = k * 3 then a else x) := by
  by_cases h1 : j = k * 3 + 2 <;> by_cases h2 : j = k * 3 + 1 <;> by_cases h3 : j = k * 3 <;> simp only [h1, h2, h3, if_true, if_false]
theorem mkN_ge {n i : Nat} (f : Nat → Int) (x : Int) (h : ¬ i < n) : mkN n f x i = x := if_neg h
theorem row_nodes {w : World} {g n c : Nat} {P T D : Nat → Int} (h : w.rowIs g 42 (c * 3) (mkn n P T D)) (hc : n ≤ c) (hm : c ≤ maxLen) : RdA w (some ⟨g, 0, none⟩) 3 n c (nds P T D) :=
  ⟨hc, hm, fun _ => ⟨g, 0, rfl, fun j hj => by
    rw [Nat.zero_add, ← mkn_lt n P T D hj]
    exact h.cell (Nat.lt_of_lt_of_le hj (Nat.mul_le_mul_right 3 hc))⟩⟩
end Go.Proofs.YtknfddakpfkcfabDoor
