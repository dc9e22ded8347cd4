import Derived.Test.YtknfddakpfkcfabDoorJdF
import Derived.Laws.MakeOwn
namespace Go.Proofs.YtknfddakpfkcfabDoor
open Go.RowKit
/-! brought. -/
theorem isW.up {n l : Nat} {P T D W : Nat → Int} (ht : okT n P T D) (h : isW n P l W) : ∀ i, i < l → (i : Int) ≤ W i ∧ W i < (n : Int) := by
  intro i
  induction i with
  | zero => intro _; have := h.2.1; have := ht.1; omega
  | succ i ih =>
    intro hi
    have q := h.2.2 i hi
    have k := ih (by omega)
    have w0 : 1 ≤ (W (i + 1)).toNat := by
      rcases Nat.eq_zero_or_pos (W (i + 1)).toNat with e | e
      · have e1 := q.2.2
        rw [e, ht.2.2.1] at e1
        omega
      · exact e
    have := (ht.2.2.2.2 (W (i + 1)).toNat w0 (by omega)).2.1
    have e1 := q.2.2
    omega
theorem isW.len {n l : Nat} {P T D W : Nat → Int} (ht : okT n P T D) (h : isW n P l W) : l ≤ n := by
  have h1 := h.1
  have := h.up ht (l - 1) (by omega)
  omega
/-- the tokens of the way, and next -/
def bt (T W : Nat → Int) (next : Int) (l : Nat) : Nat → Int := fun i => if i + 1 < l then T (W (i + 1)).toNat else next
def btC (T W : Nat → Int) (next : Int) (l : Nat) : Nat → Value := fun i => .int .i64 (bt T W next l i)
set_option maxRecDepth 20000 in
set_option maxHeartbeats 1600000 in
theorem brought_any {w : World} {ao bo : Option Addr} {n l ca cb : Nat} {P T D W : Nat → Int} {next : Int} (h : RdA w ao 3 n ca (nds P T D)) (hc : RdA w bo 1 l cb (fun i => .int .i64 (W i))) (h1 : 1 ≤ n) (h2 : n ≤ 32) (hl1 : 1 ≤ l) (hl2 : l ≤ 32) (hw : ∀ i, i + 1 < l → 0 ≤ W (i + 1) ∧ W (i + 1) < (n : Int)) :
    Calls Tryd.prog 24 #[.slice ao n ca, .slice bo l cb, .int .i64 next] w fun e w' => ∃ u c, e = .returned (.slice u l c) ∧ Own w' w.heap.size 3 1 (.slice u l c) l (btC T W next l) ∧ Below w.heap.size w w' := by
  have hle := hc.le
  have hl : cb ≤ 9223372036854775807 := by have := hc.top; unfold maxLen at this; omega
  obtain ⟨b1, o1, rfl, hA⟩ := h.node (by omega)
  obtain ⟨b2, o2, rfl, hC⟩ := hc.one (by omega)
  have HA := hidd hA
  have HC := hidd hC
  have HW := hidd hw
  obtain ⟨iI, hiI, zI0, zI1, zI2⟩ := info_parts infoI
  obtain ⟨w1, hmk, hown0, hg0⟩ := run_make_own (P := Tryd.prog) (w := w) w.heap.size 23 3 iI (.int .i64 0) 1 Tryd.underlying23 hiI zI0 zI1 .i64 .i64 l (by rw [zI2]; omega) (by unfold maxLen; omega) (Nat.le_refl _)
  have HO0 : Hid (Own w1 w.heap.size 3 1 (.slice (some ⟨w.heap.size, 0, none⟩) 0 l) 0 (btC T W next l)) := hown0
  have HF0 : Hid (Below w.heap.size w w1) := (Below.refl _ _).grown hg0 (Nat.le_refl _) (by simp)
  clear hA hC h hc hw hiI zI0 zI1 zI2 hown0 hg0
  have HX : Hid (∀ (w0 : World) (t : TypeId), (w0.alloc (.cells #[.int .i64 next] t)).cell? ⟨w0.heap.size, 0, none⟩ = some (btC T W next l (l - 1))) := fun w0 t => by
    unfold btC bt
    rw [if_neg (by omega)]
    exact new_cell _ _ _
  by_cases hk1 : l = 1
  · subst hk1
    have hsz := HF0.out.size
    have hmk1 : (Instr.makeSlice 23 (.int .i64 0) (.int .i64 1)).run Tryd.prog w = .ok (.slice (some ⟨w.heap.size, 0, none⟩) 0 1) w1 := hmk
    clear hmk
    by_cases hc1 : cb = 1
    · subst hc1
      go_enter Tryd.func24, Tryd.ntmps24
      go_wp2
      go_loopw [7, 16] (fun v i wr => i = .int .i64 0 ∧ v = .slice (some ⟨w.heap.size, 0, none⟩) 0 1 ∧ wr = w1) (fun _ _ _ => 0)
      case atStart => exact ⟨rfl, rfl, rfl⟩
      case round =>
        obtain ⟨rfl, rfl, rfl⟩ := hrel
        go_wp2_with (at_builtin; refine wpList_app1 _ rfl _ _ 23 rfl w.heap.size 3 (.int .i64 0) 8 Tryd.underlying23 infoI rfl _ 0 (btC T W next 1) rfl (HO0.out.kept (fresh_alloc _ _)) _ 1 rfl (HX.out _ _) rfl (by omega) (by omega) (by simp; omega) ?_)
        intro v' w3 hown' happ
        have hf3 := happ.below (HF0.out.alloc hsz _) (HO0.out.kept (fresh_alloc _ _)) (Nat.le_refl _) (by simp; omega)
        obtain ⟨u, uc, rfl, _⟩ := hown'.rd
        clear happ
        go_wp2
        go_ret
        exact ⟨_, _, rfl, hown', hf3⟩
    · go_enter Tryd.func24, Tryd.ntmps24
      go_wp2
      go_loopw [7, 16] (fun v i wr => i = .int .i64 0 ∧ v = .slice (some ⟨w.heap.size, 0, none⟩) 0 1 ∧ wr = w1) (fun _ _ _ => 0)
      case atStart => exact ⟨rfl, rfl, rfl⟩
      case round =>
        obtain ⟨rfl, rfl, rfl⟩ := hrel
        go_wp2_with (at_builtin; refine wpList_app1 _ rfl _ _ 23 rfl w.heap.size 3 (.int .i64 0) 8 Tryd.underlying23 infoI rfl _ 0 (btC T W next 1) rfl (HO0.out.kept (fresh_alloc _ _)) _ 1 rfl (HX.out _ _) rfl (by omega) (by omega) (by simp; omega) ?_)
        intro v' w3 hown' happ
        have hf3 := happ.below (HF0.out.alloc hsz _) (HO0.out.kept (fresh_alloc _ _)) (Nat.le_refl _) (by simp; omega)
        obtain ⟨u, uc, rfl, _⟩ := hown'.rd
        clear happ
        go_wp2
        go_ret
        exact ⟨_, _, rfl, hown', hf3⟩
  · obtain ⟨k, HK⟩ : ∃ k, Hid (k = l - 1) := ⟨l - 1, rfl⟩
    have hc1 : ¬ cb = 1 := by omega
    have e2 : l - 1 = k := HK.out.symm
    have e1 : (l : Int) - 1 = (k : Int) := by omega
    have l2 : (1 : Int) ≤ (l : Int) := by omega
    have hkl : k < l := by omega
    have hkl2 : l ≤ k + 1 := by omega
    rw [← HK.out] at HX
    go_enter Tryd.func24, Tryd.ntmps24
    go_wp2
    clear e1 e2 l2 hk1 hmk
    go_loopw [7, 16] (fun v i wr => ∃ j : Nat, j ≤ k ∧ i = .int .i64 j ∧ Hid (Own wr w.heap.size 3 1 v j (btC T W next l)) ∧ Hid (Below w.heap.size w wr)) (fun _ i _ => k - (intOf i).toNat)
    case atStart => exact ⟨0, by omega, rfl, HO0, HF0⟩
    case round =>
      clear HO0 HF0
      obtain ⟨j, hj, rfl, HO, HF⟩ := hrel
      have hsz := HF.out.size
      by_cases hlt : j < k
      · have j0 : (0 : Int) ≤ (j : Int) := by omega
        have j1 : (j : Int) < (k : Int) := by omega
        have x1 := fresh_cell HF.out (HC.out (j + 1) (by omega))
        rw [show o2 + (j + 1) = o2 + 1 + j by omega] at x1
        obtain ⟨v, HV⟩ : ∃ y, Hid (y = W (j + 1)) := ⟨_, rfl⟩
        rw [← HV.out] at x1
        have hv := HW.out j (by omega)
        rw [← HV.out] at hv
        obtain ⟨x, rfl⟩ : ∃ x : Nat, v = (x : Int) := ⟨v.toNat, by omega⟩
        obtain ⟨i0, i1⟩ := hv
        have x2 := fresh_cell HF.out (HA.out x (by omega)).2.1
        obtain ⟨y, HY⟩ : ∃ y, Hid (y = T x) := ⟨_, rfl⟩
        rw [← HY.out] at x2
        have HX2 : Hid (∀ (w0 : World) (t : TypeId), (w0.alloc (.cells #[.int .i64 y] t)).cell? ⟨w0.heap.size, 0, none⟩ = some (btC T W next l j)) := fun w0 t => by
          unfold btC bt
          rw [if_pos (by omega), ← HV.out, Int.toNat_natCast, ← HY.out]
          exact new_cell _ _ _
        go_wp2_with (at_builtin; refine wpList_app1 _ rfl _ _ 23 rfl w.heap.size 3 (.int .i64 0) 8 Tryd.underlying23 infoI rfl _ j (btC T W next l) rfl (HO.out.kept (fresh_alloc _ _)) _ 1 rfl (HX2.out _ _) rfl (by omega) (by omega) (by simp; omega) ?_)
        intro v' w3 hown' happ
        have hf3 := happ.below (HF.out.alloc hsz _) (HO.out.kept (fresh_alloc _ _)) (Nat.le_refl _) (by simp; omega)
        clear happ
        go_wp2
        go_roundw
        case rel => exact ⟨j + 1, by omega, by go_num, hown', hf3⟩
        case measure => simp [intOf]; omega
      · obtain rfl : j = k := by omega
        go_wp2_with (at_builtin; refine wpList_app1 _ rfl _ _ 23 rfl w.heap.size 3 (.int .i64 0) 8 Tryd.underlying23 infoI rfl _ j (btC T W next l) rfl (HO.out.kept (fresh_alloc _ _)) _ 1 rfl (HX.out _ _) rfl (by omega) (by omega) (by simp; omega) ?_)
        intro v' w3 hown' happ
        have hf3 := happ.below (HF.out.alloc hsz _) (HO.out.kept (fresh_alloc _ _)) (Nat.le_refl _) (by simp; omega)
        obtain ⟨u, uc, rfl, _⟩ := hown'.rd
        obtain rfl : l = j + 1 := by omega
        clear happ
        go_wp2
        go_ret
        exact ⟨_, _, rfl, hown', hf3⟩
end Go.Proofs.YtknfddakpfkcfabDoor
