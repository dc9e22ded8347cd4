import Derived.Test.YtknfddakpfkcfaaTrAj
namespace Go.Proofs.Ytknfddakpfkcfaa
open Go.RowKit
/-! The law's marked lists and trees. -/
theorem infoI : (Try.prog.info? 3).map (fun i => (i.zero, i.size, i.bytes)) = some (some (.int .i64 0), 1, 8) := by kernel_rfl
set_option maxRecDepth 20000 in
set_option maxHeartbeats 1600000 in
theorem eqInts_any {w : World} {ao bo : Option Addr} {n m ca cb : Nat} {f g : Nat → Int} (ha : RdA w ao 1 n ca (fun i => .int .i64 (f i))) (hb : RdA w bo 1 m cb (fun i => .int .i64 (g i))) :
    Calls Try.prog 19 #[.slice ao n ca, .slice bo m cb] w fun e w' => (∃ r : Bool, e = .returned (.bool r) ∧ (r = true ↔ n = m ∧ ∀ i, i < n → f i = g i)) ∧ Below w.heap.size w w' := by
  have hn : n ≤ 9223372036854775807 := by have := ha.le; have := ha.top; unfold maxLen at this; omega
  have hm : m ≤ 9223372036854775807 := by have := hb.le; have := hb.top; unfold maxLen at this; omega
  by_cases hnm : n = m
  · subst hnm
    go_enter Try.func19, Try.ntmps19
    go_wp2
    go_loopw [5] (fun i wr => ∃ k : Nat, k ≤ n ∧ i = .int .i64 k ∧ Hid (∀ j, j < k → f j = g j) ∧ Below w.heap.size w wr) (fun i _ => n - (intOf i).toNat)
    case atStart => exact ⟨0, by omega, rfl, fun j hj => absurd hj (by omega), Below.refl _ _⟩
    case round =>
      obtain ⟨k, hk, rfl, HE, hf⟩ := hrel
      by_cases hlt : k < n
      · obtain ⟨b1, o1, rfl, h1⟩ := (ha.fresh hf).one (by omega)
        obtain ⟨b2, o2, rfl, h2⟩ := (hb.fresh hf).one (by omega)
        have c1 := h1 k hlt
        have c2 := h2 k hlt
        clear h1 h2
        by_cases e : f k = g k
        · rw [← e] at c2
          have HE3 := hidd e
          clear e
          go_wp2
          go_quiet (fail)
          go_wp2
          go_roundw
          case rel => exact ⟨k + 1, by omega, by go_num, fun j hj => (by
            by_cases q : j = k
            · rw [q]; exact HE3.out
            · exact HE.out j (by omega)), below_drewN hf _⟩
          case measure => simp [intOf]; omega
        · have x3 : decide (f k = g k) = false := decide_eq_false e
          have HE3 := hidd e
          go_wp2
          go_quiet (fail)
          go_wp2
          go_ret
          exact ⟨⟨false, rfl, ⟨fun q => (by cases q), fun q => absurd (q.2 k hlt) HE3.out⟩⟩, below_drewN hf _⟩
      · obtain rfl : n = k := by omega
        go_wp2
        go_ret
        exact ⟨⟨true, rfl, ⟨fun _ => ⟨(by first | rfl | trivial), HE.out⟩, fun _ => rfl⟩⟩, hf⟩
  · have hne : ¬ (n : Int) = (m : Int) := by omega
    go_enter Try.func19, Try.ntmps19
    go_wp2
    go_ret
    exact ⟨⟨false, rfl, ⟨fun q => (by cases q), fun q => absurd q.1 hnm⟩⟩, Below.refl _ _⟩
set_option maxRecDepth 20000 in
set_option maxHeartbeats 1600000 in
theorem copyI_any {w : World} {ao : Option Addr} {n cap : Nat} {f : Nat → Int} (h : RdA w ao 1 n cap (fun i => .int .i64 (f i))) (hn : n ≤ 17592186043904) :
    Calls Try.prog 27 #[.slice ao n cap] w fun e w' => ∃ u uc, e = .returned (.slice u n uc) ∧ Own w' w.heap.size 3 1 (.slice u n uc) n (fun i => .int .i64 (f i)) ∧ Below w.heap.size w w' := by
  have hn2 : n ≤ 9223372036854775807 := by omega
  go_enter Try.func27, Try.ntmps27
  go_wp2
  go_loopw [3, 4] (fun v i wr => ∃ k : Nat, k ≤ n ∧ i = .int .i64 k ∧ Own wr w.heap.size 3 1 v k (fun j => .int .i64 (f j)) ∧ Below w.heap.size w wr) (fun _ i _ => n - (intOf i).toNat)
  case atStart => exact ⟨0, by omega, rfl, own_nil _ _ _ _ _, Below.refl _ _⟩
  case round =>
    obtain ⟨k, hk, rfl, hown, hf⟩ := hrel
    have hsz := hf.size
    by_cases hlt : k < n
    · obtain ⟨b1, o1, rfl, h1⟩ := (h.fresh hf).one (by omega)
      have d := h1 k hlt
      have hle := h.le
      have HX : Hid (∀ (w0 : World) (t : TypeId), (w0.alloc (.cells #[.int .i64 (f k)] t)).cell? ⟨w0.heap.size, 0, none⟩ = some ((fun j => Value.int .i64 (f j)) k)) := fun w0 t => new_cell _ _ _
      clear h1
      generalize f k = y at d HX
      go_wp2_with (at_builtin; refine wpList_app1 _ rfl _ _ 22 rfl w.heap.size 3 (.int .i64 0) 8 Try.underlying22 infoI rfl _ k (fun j => .int .i64 (f j)) rfl (hown.kept (fresh_alloc _ _)) _ 1 rfl (HX.out _ _) rfl (by omega) (by omega) (by simp; omega) ?_)
      intro v' w1 hown' happ
      have hf1 := happ.below (hf.alloc hsz _) (hown.kept (fresh_alloc _ _)) (Nat.le_refl _) (by simp; omega)
      clear happ hown
      go_wp2
      go_roundw
      case rel => exact ⟨k + 1, by omega, by go_num, hown', hf1⟩
      case measure => simp [intOf]; omega
    · obtain rfl : k = n := by omega
      obtain ⟨u, uc, rfl, hu⟩ := hown.rd
      go_wp2
      go_ret
      exact ⟨u, uc, rfl, hown, hf⟩
def mkd (f : Nat → Int) (n : Nat) : Nat → Int := fun i => if i < n then f i else -123456
set_option maxRecDepth 20000 in
set_option maxHeartbeats 1600000 in
theorem marked_any {w : World} {ao : Option Addr} {n cap : Nat} {f : Nat → Int} (h : RdA w ao 1 n cap (fun i => .int .i64 (f i))) (hn : n ≤ 17592186043904) :
    Calls Try.prog 11 #[.slice ao n cap] w fun e w' => e = .returned (.slice (some ⟨w.heap.size, 0, none⟩) n (n + 64)) ∧ w'.rowIs w.heap.size 3 (n + 64) (fun i => .int .i64 (mkd f n i)) ∧ Below w.heap.size w w' := by
  obtain ⟨c, hc⟩ : ∃ c, c = n + 64 := ⟨_, rfl⟩
  have e1 : (n : Int) + 64 = (c : Int) := by omega
  obtain ⟨iI, hiI, zI0, zI1, zI2⟩ := info_parts infoI
  have hmk : ∀ w, (Instr.makeSlice 22 (.int .i64 (c : Int)) (.int .i64 (c : Int))).run Try.prog w = .ok (.slice (some ⟨w.heap.size, 0, none⟩) c c) (w.alloc (.cells (madeCells #[.int .i64 0] c) 3)) := run_make_row 22 3 iI (.int .i64 0) Try.underlying22 hiI zI0 zI1 rfl .i64 .i64 c (by rw [zI2]; omega) (by omega)
  clear hiI zI0 zI1 zI2
  have R0 := hidd (World.rowIs_made w (.int .i64 0) c 3)
  have f0 := fresh_alloc w (.cells (madeCells #[.int .i64 0] c) 3)
  have HCE := hidd hc
  rw [← hc]
  clear hc
  go_enter Try.func11, Try.ntmps11
  go_wp2
  clear hmk
  go_loopw [4] (fun i wr => ∃ k : Nat, k ≤ c ∧ i = .int .i64 k ∧ Hid (wr.rowIs w.heap.size 3 c (fun j => .int .i64 (if j < k then mkd f n j else 0))) ∧ Below w.heap.size w wr) (fun i _ => c - (intOf i).toNat)
  case atStart => exact ⟨0, by omega, rfl, R0.out, f0⟩
  case round =>
    clear R0 f0
    obtain ⟨k, hk, rfl, HR, hf⟩ := hrel
    have hsz := hf.size
    by_cases hlt : k < c
    · have c0 := HR.out.cell (i := k) hlt
      have fz := HR.out.frozen
      have r1 := HR.out.set k (.int .i64 (-123456))
      have c1 := r1.cell (i := k) hlt
      rw [if_pos rfl] at c1
      have fz1 := r1.frozen
      have HR1 := hidd r1
      have hf1 : Below w.heap.size w (wr.setCell ⟨w.heap.size, k, none⟩ (.int .i64 (-123456))) := hf.setCell (Nat.le_refl _) _
      clear r1
      have k0 : (0 : Int) ≤ (k : Int) := by omega
      have k1 : (k : Int) < (c : Int) := by omega
      by_cases hkn : k < n
      · have hd : decide ((k : Int) < (n : Int)) = true := by simp; omega
        have k2 : (k : Int) < (n : Int) := by omega
        obtain ⟨b1, o1, rfl, h1⟩ := h.one (by omega)
        have d := fresh_cell hf1 (h1 k hkn)
        clear h1
        have HR2 := hidd (HR1.out.set k (.int .i64 (f k)))
        have HV : Hid (mkd f n k = f k) := if_pos hkn
        generalize f k = y at d HR2 HV
        go_wp2
        go_roundw
        case rel =>
          refine ⟨k + 1, by omega, by go_num, HR2.out.congr (fun j hj => ?_), hf1.setCell (Nat.le_refl _) _⟩
          by_cases e : j = k
          · subst e
            rw [if_pos rfl, if_pos (by omega), HV.out]
          · rw [if_neg e, if_neg e]
            by_cases e2 : j < k
            · rw [if_pos e2, if_pos (by omega)]
            · rw [if_neg e2, if_neg (by omega)]
        case measure => simp [intOf]; omega
      · have hd : decide ((k : Int) < (n : Int)) = false := by simp; omega
        have HV : Hid (mkd f n k = -123456) := if_neg hkn
        go_wp2
        go_roundw
        case rel =>
          refine ⟨k + 1, by omega, by go_num, HR1.out.congr (fun j hj => ?_), hf1⟩
          by_cases e : j = k
          · subst e
            rw [if_pos rfl, if_pos (by omega), HV.out]
          · rw [if_neg e]
            by_cases e2 : j < k
            · rw [if_pos e2, if_pos (by omega)]
            · rw [if_neg e2, if_neg (by omega)]
        case measure => simp [intOf]; omega
    · obtain rfl : c = k := by omega
      have n0 : (0 : Int) ≤ (n : Int) := by omega
      have n1 : (n : Int) ≤ (c : Int) := by omega
      go_wp2
      go_ret
      exact ⟨rfl, HR.out.congr (fun j hj => by rw [if_pos hj]), hf⟩
set_option maxRecDepth 20000 in
set_option maxHeartbeats 1600000 in
theorem still_any {w : World} {ao : Option Addr} {n cap g : Nat} {f : Nat → Int} (h : RdA w ao 1 n cap (fun i => .int .i64 (f i))) (hr : w.rowIs g 3 (n + 64) (fun i => .int .i64 (mkd f n i))) (hn : n ≤ 17592186043904) :
    Calls Try.prog 14 #[.slice (some ⟨g, 0, none⟩) n (n + 64), .slice ao n cap] w fun e w' => e = .returned (.bool true) ∧ Below w.heap.size w w' := by
  obtain ⟨c, hc⟩ : ∃ c, c = n + 64 := ⟨_, rfl⟩
  have e1 : (n : Int) + 64 = (c : Int) := by omega
  rw [← hc] at hr ⊢
  have HR := hidd hr
  have hcn : n ≤ c := by omega
  have hcb : c ≤ 17592186043968 := by omega
  have n0 : (0 : Int) ≤ (c : Int) := by omega
  clear hr hc
  go_enter Try.func14, Try.ntmps14
  go_wp2
  go_loopw [6] (fun i wr => ∃ k : Nat, k ≤ c ∧ i = .int .i64 k ∧ Below w.heap.size w wr) (fun i _ => c - (intOf i).toNat)
  case atStart => exact ⟨0, by omega, rfl, Below.refl _ _⟩
  case round =>
    obtain ⟨k, hk, rfl, hf⟩ := hrel
    by_cases hlt : k < c
    · have c0 := fresh_cell hf (HR.out.cell (i := k) hlt)
      have k0 : (0 : Int) ≤ (k : Int) := by omega
      have k1 : (k : Int) < (c : Int) := by omega
      by_cases hkn : k < n
      · have hd : decide ((k : Int) < (n : Int)) = true := by simp; omega
        have hd2 : decide (n ≤ k) = false := by simp; omega
        have k2 : (k : Int) < (n : Int) := by omega
        obtain ⟨b1, o1, rfl, h1⟩ := (h.fresh hf).one (by omega)
        have d := h1 k hkn
        clear h1
        have HV : mkd f n k = f k := if_pos hkn
        rw [HV] at c0
        clear HV
        generalize f k = y at d c0
        go_wp2
        go_quiet (fail)
        go_wp2
        go_roundw
        case rel => exact ⟨k + 1, by omega, by go_num, below_drewN hf _⟩
        case measure => simp [intOf]; omega
      · have hd : decide ((k : Int) < (n : Int)) = false := by simp; omega
        have hd2 : decide (n ≤ k) = true := by simp; omega
        have HV : mkd f n k = -123456 := if_neg hkn
        rw [HV] at c0
        clear HV
        go_wp2
        go_quiet (fail)
        go_wp2
        go_roundw
        case rel => exact ⟨k + 1, by omega, by go_num, below_drewN hf _⟩
        case measure => simp [intOf]; omega
    · obtain rfl : c = k := by omega
      go_wp2
      go_ret
      exact ⟨rfl, hf⟩
/-- the nodes of a marked tree -/
def mkn (n : Nat) (P T D : Nat → Int) : Nat → Value := nds (mkN n P (-123456)) (mkN n T 0) (mkN n D 0)
theorem mkn_lt (n : Nat) (P T D : Nat → Int) {j : Nat} (h : j < n * 3) : mkn n P T D j = nds P T D j := nds_congr (n := n) (fun _ hi => ⟨mkN_lt P _ hi, mkN_lt T _ hi, mkN_lt D _ hi⟩) h
theorem made3 (w : World) (n : Nat) (t : TypeId) : (w.alloc (.cells (madeCells #[.int .i64 0, .int .i64 0, .int .i64 0] (n * 3)) t)).rowIs w.heap.size t (n * 3) (fun _ => .int .i64 0) :=
  ⟨_, Go.Deep.blk_alloc_new _ _, size_madeCells _ _, fun i hi => by
    have : i % 3 = 0 ∨ i % 3 = 1 ∨ i % 3 = 2 := by omega
    rcases this with e | e | e <;> simp [madeCells, hi, e]⟩
theorem run_make_nodes (n : Nat) (hn : n * 24 ≤ 140737488352768) (w : World) : (Instr.makeSlice 36 (.int .i64 (n : Int)) (.int .i64 (n : Int))).run Try.prog w = .ok (.slice (some ⟨w.heap.size, 0, none⟩) n n) (w.alloc (.cells (madeCells #[.int .i64 0, .int .i64 0, .int .i64 0] (n * 3)) 44)) := by
  obtain ⟨i, hi, z0, z1, z2⟩ := info_parts infoN
  have hr := run_make (P := Try.prog) w 36 44 i _ Try.underlying36 hi z0 .i64 .i64 n n (by omega) (Int.le_refl _) (by rw [z2]; omega) (by omega)
  simp only [Int.toNat_natCast, z1] at hr
  exact hr
def ouF (P T D : Nat → Int) (k : Nat) : Nat → Value := fun j => if j < k * 3 then nds P T D j else .int .i64 0
theorem ouF_next (P T D : Nat → Int) (k j : Nat) : (if j = k * 3 + 2 then Value.int .i64 (D k) else if j = k * 3 + 1 then .int .i64 (T k) else if j = k * 3 then .int .i64 (P k) else ouF P T D k j) = ouF P T D (k + 1) j := by
  unfold ouF
  by_cases h1 : j = k * 3 + 2
  · subst h1; rw [if_pos rfl, if_pos (by omega), nds_2]
  · rw [if_neg h1]
    by_cases h2 : j = k * 3 + 1
    · subst h2; rw [if_pos rfl, if_pos (by omega), nds_1]
    · rw [if_neg h2]
      by_cases h3 : j = k * 3
      · subst h3; rw [if_pos rfl, if_pos (by omega), nds_0]
      · rw [if_neg h3]
        by_cases h4 : j < k * 3
        · rw [if_pos h4, if_pos (by omega)]
        · rw [if_neg h4, if_neg (by omega)]
theorem ouF_twice (a b c a' b' c' : Value) (x : Value) (k j : Nat) : (if j = k * 3 + 2 then c else if j = k * 3 + 1 then b else if j = k * 3 then a else if j = k * 3 + 2 then c' else if j = k * 3 + 1 then b' else if j = k * 3 then a' else x) = (if j = k * 3 + 2 then c else if j = k * 3 + 1 then b else if j = k * 3 then a else x) := by
  by_cases h1 : j = k * 3 + 2 <;> by_cases h2 : j = k * 3 + 1 <;> by_cases h3 : j = k * 3 <;> simp only [h1, h2, h3, if_true, if_false]
theorem mkN_ge {n i : Nat} (f : Nat → Int) (x : Int) (h : ¬ i < n) : mkN n f x i = x := if_neg h
set_option maxRecDepth 20000 in
set_option maxHeartbeats 1600000 in
theorem mkNodes_any {w : World} {ao : Option Addr} {n cap : Nat} {P T D : Nat → Int} (h : RdA w ao 3 n cap (nds P T D)) (hn : n * 24 ≤ 140737488351232) :
    Calls Try.prog 21 #[.slice ao n cap] w fun e w' => e = .returned (.slice (some ⟨w.heap.size, 0, none⟩) n (n + 64)) ∧ w'.rowIs w.heap.size 44 ((n + 64) * 3) (mkn n P T D) ∧ Below w.heap.size w w' := by
  obtain ⟨c, hc⟩ : ∃ c, c = n + 64 := ⟨_, rfl⟩
  have e1 : (n : Int) + 64 = (c : Int) := by omega
  have hmk := run_make_nodes c (by omega)
  have R0 := hidd (made3 w c 44)
  have f0 := fresh_alloc w (.cells (madeCells #[.int .i64 0, .int .i64 0, .int .i64 0] (c * 3)) 44)
  have HCE := hidd hc
  have hcn : n ≤ c := by omega
  have hcb : c ≤ 5864062014720 := by omega
  rw [← hc]
  clear hc
  go_enter Try.func21, Try.ntmps21
  go_wp2
  clear hmk
  go_loopw [4] (fun i wr => ∃ k : Nat, k ≤ c ∧ i = .int .i64 k ∧ Hid (wr.rowIs w.heap.size 44 (c * 3) (ouF (mkN n P (-123456)) (mkN n T 0) (mkN n D 0) k)) ∧ Below w.heap.size w wr) (fun i _ => c - (intOf i).toNat)
  case atStart => exact ⟨0, by omega, rfl, R0.out.congr (fun i _ => by unfold ouF; rw [if_neg (by omega)]), f0⟩
  case round =>
    clear R0 f0
    obtain ⟨k, hk, rfl, HR, hf⟩ := hrel
    have hsz := hf.size
    by_cases hlt : k < c
    · have c0 := HR.out.cell (i := k * 3) (by omega)
      have c1 := HR.out.cell (i := k * 3 + 1) (by omega)
      have c2 := HR.out.cell (i := k * 3 + 2) (by omega)
      have fz := HR.out.frozen
      have r1 := ((HR.out.set (k * 3) (.int .i64 (-123456))).set (k * 3 + 1) (.int .i64 0)).set (k * 3 + 2) (.int .i64 0)
      have b0 := r1.cell (i := k * 3) (by omega)
      have b1 := r1.cell (i := k * 3 + 1) (by omega)
      have b2 := r1.cell (i := k * 3 + 2) (by omega)
      have fz1 := r1.frozen
      have HR1 := hidd r1
      have hf1 : Below w.heap.size w (((wr.setCell ⟨w.heap.size, k * 3, none⟩ (.int .i64 (-123456))).setCell ⟨w.heap.size, k * 3 + 1, none⟩ (.int .i64 0)).setCell ⟨w.heap.size, k * 3 + 2, none⟩ (.int .i64 0)) := ((hf.setCell (Nat.le_refl _) _).setCell (Nat.le_refl _) _).setCell (Nat.le_refl _) _
      clear r1
      have k0 : (0 : Int) ≤ (k : Int) := by omega
      have k1 : (k : Int) < (c : Int) := by omega
      by_cases hkn : k < n
      · have hd : decide ((k : Int) < (n : Int)) = true := by simp; omega
        have k2 : (k : Int) < (n : Int) := by omega
        obtain ⟨b1', o1, rfl, h1⟩ := (h.fresh hf1).node (by omega)
        obtain ⟨d0, d1, d2⟩ := h1 k hkn
        clear h1
        have HV : Hid (mkN n P (-123456) k = P k ∧ mkN n T 0 k = T k ∧ mkN n D 0 k = D k) := ⟨mkN_lt _ _ hkn, mkN_lt _ _ hkn, mkN_lt _ _ hkn⟩
        have HR2 := hidd (((HR1.out.set (k * 3) (.int .i64 (P k))).set (k * 3 + 1) (.int .i64 (T k))).set (k * 3 + 2) (.int .i64 (D k)))
        generalize P k = y1 at d0 HR2 HV
        generalize T k = y2 at d1 HR2 HV
        generalize D k = y3 at d2 HR2 HV
        go_wp2
        go_roundw
        case rel =>
          refine ⟨k + 1, by omega, by go_num, HR2.out.congr (fun j hj => ?_), ((hf1.setCell (Nat.le_refl _) _).setCell (Nat.le_refl _) _).setCell (Nat.le_refl _) _⟩
          rw [ouF_twice, ← ouF_next, HV.out.1, HV.out.2.1, HV.out.2.2]
        case measure => simp [intOf]; omega
      · have hd : decide ((k : Int) < (n : Int)) = false := by simp; omega
        have HV : Hid (mkN n P (-123456) k = -123456 ∧ mkN n T 0 k = 0 ∧ mkN n D 0 k = 0) := ⟨mkN_ge _ _ hkn, mkN_ge _ _ hkn, mkN_ge _ _ hkn⟩
        go_wp2
        go_roundw
        case rel =>
          refine ⟨k + 1, by omega, by go_num, HR1.out.congr (fun j hj => ?_), hf1⟩
          rw [← ouF_next, HV.out.1, HV.out.2.1, HV.out.2.2]
        case measure => simp [intOf]; omega
    · obtain rfl : c = k := by omega
      have n0 : (0 : Int) ≤ (n : Int) := by omega
      have n1 : (n : Int) ≤ (c : Int) := by omega
      go_wp2
      go_ret
      exact ⟨rfl, HR.out.congr (fun j hj => by unfold ouF mkn; rw [if_pos hj]), hf⟩
theorem row_nodes {w : World} {g n c : Nat} {P T D : Nat → Int} (h : w.rowIs g 44 (c * 3) (mkn n P T D)) (hc : n ≤ c) (hm : c ≤ maxLen) : RdA w (some ⟨g, 0, none⟩) 3 n c (nds P T D) :=
  ⟨hc, hm, fun _ => ⟨g, 0, rfl, fun j hj => by
    rw [Nat.zero_add, ← mkn_lt n P T D hj]
    exact h.cell (Nat.lt_of_lt_of_le hj (Nat.mul_le_mul_right 3 hc))⟩⟩
set_option maxRecDepth 20000 in
set_option maxHeartbeats 1600000 in
theorem stNodes_any {w : World} {ao : Option Addr} {n cap g : Nat} {P T D : Nat → Int} (h : RdA w ao 3 n cap (nds P T D)) (hr : w.rowIs g 44 ((n + 64) * 3) (mkn n P T D)) (hn : n * 24 ≤ 140737488351232) :
    Calls Try.prog 23 #[.slice (some ⟨g, 0, none⟩) n (n + 64), .slice ao n cap] w fun e w' => e = .returned (.bool true) ∧ Below w.heap.size w w' := by
  obtain ⟨c, hc⟩ : ∃ c, c = n + 64 := ⟨_, rfl⟩
  have e1 : (n : Int) + 64 = (c : Int) := by omega
  rw [← hc] at hr ⊢
  have HR := hidd hr
  have HH := hidd h
  have hcn : n ≤ c := by omega
  have hcb : c ≤ 5864062014720 := by omega
  have n0 : (0 : Int) ≤ (c : Int) := by omega
  clear hr hc h
  go_enter Try.func23, Try.ntmps23
  go_wp2
  go_loopw [6] (fun i wr => ∃ k : Nat, n ≤ k ∧ k ≤ c ∧ i = .int .i64 k ∧ Below w.heap.size w wr) (fun i _ => c - (intOf i).toNat)
  case atStart => exact ⟨n, by omega, by omega, rfl, Below.refl _ _⟩
  case round =>
    obtain ⟨k, hnk, hk, rfl, hf⟩ := hrel
    by_cases hlt : k < c
    · have c0 := fresh_cell hf (HR.out.cell (i := k * 3) (by omega))
      have c1 := fresh_cell hf (HR.out.cell (i := k * 3 + 1) (by omega))
      have c2 := fresh_cell hf (HR.out.cell (i := k * 3 + 2) (by omega))
      unfold mkn at c0 c1 c2
      rw [nds_0, mkN_ge _ _ (by omega)] at c0
      rw [nds_1, mkN_ge _ _ (by omega)] at c1
      rw [nds_2, mkN_ge _ _ (by omega)] at c2
      have k0 : (0 : Int) ≤ (k : Int) := by omega
      have k1 : (k : Int) < (c : Int) := by omega
      go_wp2
      go_roundw
      case rel => exact ⟨k + 1, by omega, by omega, by go_num, hf⟩
      case measure => simp [intOf]; omega
    · obtain rfl : c = k := by omega
      have HEQ := hidd (eqNodes_same ((row_nodes HR.out hcn (by unfold maxLen; omega)).fresh hf) (HH.out.fresh hf))
      go_wp2_with (go_at_call 29; with_reducible refine HEQ.out.mono ?_; rintro e w2 ⟨rfl, hb2⟩)
      go_ret
      exact ⟨rfl, hf.trans (hb2.mono hf.size)⟩
end Go.Proofs.Ytknfddakpfkcfaa
