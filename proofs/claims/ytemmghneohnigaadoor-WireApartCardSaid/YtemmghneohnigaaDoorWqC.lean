import Derived.Test.YtemmghneohnigaaDoorWqB
import Derived.Laws.MakeOwn
namespace Go.Proofs.YtemmghneohnigaaDoor
open Go.RowKit
/-! Quote, on both sides; copies and comparisons of bytes. -/
theorem conv_str {w : World} {ao : Option Addr} {l : List Int} {cap : Nat} (h : RdA w ao 1 l.length cap (fun j => .int .u8 (l.getD j 0))) : (convert 22 9 (.slice ao l.length cap)).run Tryd.prog w = .ok (.string (strOfNums l)) w := by
  by_cases h0 : 0 < l.length
  · obtain ⟨b, off, rfl, hc⟩ := h.one h0
    exact run_convert_bytes_arg (P := Tryd.prog) w 22 5 Tryd.underlying22 Tryd.underlying5 b off l.length cap l rfl hc 9 Tryd.underlying9
  · obtain rfl : l = [] := by cases l with
      | nil => rfl
      | cons a r => simp at h0
    cases ao with
    | none => exact run_convert_bytes_nil (P := Tryd.prog) w 22 5 Tryd.underlying22 Tryd.underlying5 0 cap 9 Tryd.underlying9
    | some a =>
      rw [run_convert_bytes_string w 22 9 5 _ _ cap Tryd.underlying22 Tryd.underlying5 Tryd.underlying9, run_bytesToString w a _ cap [] (by simpa using run_loadCells_list (P := Tryd.prog) w a [] (by simp))]
      rfl
/-- the bytes of a list as cells -/
def byc (l : List Int) (j : Nat) : Value := .int .u8 (l.getD j 0)
theorem byt_get {l : List Int} (h : Byt l) {i : Nat} (hi : i < l.length) : 0 ≤ l.getD i 0 ∧ l.getD i 0 ≤ 255 := h _ (by rw [List.getD_eq_getElem?_getD, List.getElem?_eq_getElem hi]; simp)
set_option maxRecDepth 20000 in
set_option maxHeartbeats 1000000 in
theorem quote_any {w : World} {ao : Option Addr} {l : List Int} {cap : Nat} (h : RdA w ao 1 l.length cap (byc l)) (hB : Byt l) (hl : l.length ≤ 35184372088000) :
    Calls Tryd.prog 9 #[.slice ao l.length cap] w fun e w' => e = .returned (.string (strOfNums (lit l))) ∧ Below w.heap.size w w' := by
  obtain ⟨iI, hiI, zI0, zI1, zI2⟩ := info_parts infoB
  obtain ⟨w1, hmk, hown0, hg0⟩ := run_make_own (P := Tryd.prog) (w := w) w.heap.size 22 5 iI (.int .u8 0) 1 Tryd.underlying22 hiI zI0 zI1 .i64 .i64 (l.length + 2) (by rw [zI2]; omega) (by unfold maxLen; omega) (Nat.le_refl _)
  have HO0 : Hid (Own w1 w.heap.size 5 1 (.slice (some ⟨w.heap.size, 0, none⟩) 0 (l.length + 2)) 0 (byc (lit l))) := by
    show Own _ _ _ _ _ _ _
    unfold Own; simpa using hown0
  have HF0 : Hid (Below w.heap.size w w1) := (Below.refl _ _).grown hg0 (Nat.le_refl _) (by simp)
  clear hiI zI0 zI1 zI2 hown0 hg0
  have hsz := HF0.out.size
  have hpl := pies_len l
  have HLL := hidd (lit_len l)
  obtain ⟨n, en⟩ : ∃ n, n = l.length := ⟨_, rfl⟩
  have EN := hidd en
  have HR := hidd h
  have HBY := hidd hB
  rw [← en] at hl hmk HO0 hpl ⊢
  have hmk1 : (Instr.makeSlice 22 (.int .i64 0) (.int .i64 ((n : Int) + 2))).run Tryd.prog w = .ok (.slice (some ⟨w.heap.size, 0, none⟩) 0 (n + 2)) w1 := by simpa using hmk
  have HX0 : Hid (∀ (w0 : World) (t : TypeId), (w0.alloc (.cells #[.int .u8 34] t)).cell? ⟨w0.heap.size, 0, none⟩ = some (byc (lit l) 0)) := fun w0 t => new_cell _ _ _
  have HX9 : Hid (∀ (w0 : World) (t : TypeId), (w0.alloc (.cells #[.int .u8 34] t)).cell? ⟨w0.heap.size, 0, none⟩ = some (byc (lit l) (1 + (pies l).length))) := fun w0 t => by
    unfold byc
    rw [lit_last]
    exact new_cell _ _ _
  have hcp : cap ≤ 9223372036854775807 := by have := h.top; unfold maxLen at this; omega
  have hnc : n ≤ cap := by rw [en]; exact h.le
  clear h hB en hmk
  go_enter Tryd.func9, Tryd.ntmps9
  go_wp2_with (at_builtin; refine wpList_app1 _ rfl _ _ 22 rfl w.heap.size 5 (.int .u8 0) 1 Tryd.underlying22 infoB rfl _ 0 (byc (lit l)) rfl (HO0.out.kept (fresh_alloc _ _)) _ 1 rfl (HX0.out _ _) rfl (by omega) (by omega) (by simp; omega) ?_)
  intro v1 w2 hown1 happ1
  have hf1 := happ1.below (HF0.out.alloc hsz _) (HO0.out.kept (fresh_alloc _ _)) (Nat.le_refl _) (by simp; omega)
  clear happ1 HX0 hmk1 HO0
  have HF0' := HF0
  clear HF0 HF0'
  have HO1 := hidd hown1
  have HF1 := hidd hf1
  clear hown1 hf1
  go_wp2
  go_loopw [3, 5, 15] (fun v _ i wr => ∃ k : Nat, k ≤ n ∧ i = .int .i64 (k : Int) ∧ Hid (Own wr w.heap.size 5 1 v (1 + (pies (l.take k)).length) (byc (lit l))) ∧ Hid (Below w.heap.size w wr)) (fun _ _ i _ => n - (intOf i).toNat)
  case atStart => exact ⟨0, Nat.zero_le _, by simp, HO1.out, HF1.out⟩
  case round =>
    obtain ⟨k, hk, rfl, hO, hF⟩ := hrel
    by_cases hlt : k < n
    · obtain ⟨b1, o1, rfl, h1⟩ := (HR.out.fresh hF.out).one (by rw [← EN.out]; omega)
      have c1 := h1 k (by rw [← EN.out]; omega)
      clear h1
      have hb := byt_get HBY.out (i := k) (by rw [← EN.out]; omega)
      have hpk := pies_len (l.take k)
      rw [List.length_take] at hpk
      have hpn : (pies (l.take k)).length ≤ 4 * n := by omega
      have HC := hidd (fun (wq : World) (vv : Value) (hh : Own wq w.heap.size 5 1 vv (1 + (pies (l.take k)).length) (byc (lit l))) (hz : w.heap.size ≤ wq.heap.size) => apppiece_any (c := l.getD k 0) hh hb.1 hb.2 (fun j hj => by unfold byc; rw [lit_get (by rw [← EN.out]; exact hlt) hj]) hz (by omega))
      have HPS := hidd (pies_succ (l := l) (i := k) (by rw [← EN.out]; exact hlt))
      unfold byc at c1
      generalize l.getD k 0 = c at *
      have hz := hF.out.size
      go_wp2_with (go_at_call 23; with_reducible refine (HC.out _ _ hO.out hz).mono ?_; rintro e w4 ⟨v', rfl, ho4, hf4⟩)
      have HO4 : Hid (Own w4 w.heap.size 5 1 v' (1 + (pies (l.take (k + 1))).length) (byc (lit l))) := by
        show Own _ _ _ _ _ _ _
        rw [HPS.out, List.length_append, ← Nat.add_assoc]; exact ho4
      have HF4 := hidd (hF.out.trans hf4)
      clear ho4 hf4 HC HPS
      go_roundw
      case rel => exact ⟨k + 1, by omega, by go_num, HO4.out, HF4.out⟩
      case measure => simp [intOf]; omega
    · obtain rfl : k = n := by omega
      have hO' := hO.out
      rw [EN.out, List.take_length] at hO'
      have hz := hF.out.size
      clear hO
      go_wp2_with (at_builtin; refine wpList_app1 _ rfl _ _ 22 rfl w.heap.size 5 (.int .u8 0) 1 Tryd.underlying22 infoB rfl _ (1 + (pies l).length) (byc (lit l)) rfl (hO'.kept (fresh_alloc _ _)) _ 1 rfl (HX9.out _ _) rfl (by omega) (by omega) (by simp; omega) ?_)
      intro v9 w9 hown9 happ9
      have hf9 := happ9.below (hF.out.alloc hz _) (hO'.kept (fresh_alloc _ _)) (Nat.le_refl _) (by simp; omega)
      clear happ9 hO'
      obtain ⟨ao9, cap9, rfl, hr9⟩ := hown9.rd
      have hcv := conv_str (w := w9) (ao := ao9) (l := lit l) (cap := cap9) (by rw [HLL.out, show (pies l).length + 2 = 1 + (pies l).length + 1 by omega]; exact hr9)
      rw [HLL.out, show (pies l).length + 2 = 1 + (pies l).length + 1 by omega] at hcv
      go_wp2
      go_ret
      exact ⟨rfl, hf9⟩
end Go.Proofs.YtemmghneohnigaaDoor
