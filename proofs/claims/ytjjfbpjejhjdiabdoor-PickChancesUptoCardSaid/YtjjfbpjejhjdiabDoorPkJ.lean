import Derived.Laws.EntriesVeiled
import Derived.Test.YtjjfbpjejhjdiabDoorPkH
namespace Go.Proofs.YtjjfbpjejhjdiabDoor
open Go.RowKit
/-! thinned, where Temp is not 0. -/
theorem below9 (w : World) (a b c d e f g h i : Obj) : Below w.heap.size w (((((((((w.alloc a).alloc b).alloc c).alloc d).alloc e).alloc f).alloc g).alloc h).alloc i) := fresh_trans (below8 _ _ _ _ _ _ _ _ _) (fresh_alloc _ _)
set_option maxRecDepth 20000 in
set_option maxHeartbeats 1600000 in
theorem thin_top (p : Prm) (ok : p.Ok) (ht : p.temp ≠ 0) (hk : p.topk ≠ 0) {w : World} {base c : Nat} {u : Option Addr} {A B : List (Int × Int)} {wf : Nat → Int} (hB : B = topL p.topk A) (h : CL w base u c A wf) (hb : base ≤ w.heap.size) (hH : Holds w) (hG : 1 < base) (hn : A.length ≤ 1048576)
    (hbd : ∀ i, i < B.length → -67108864 ≤ (B.getD i (0, 0)).2 ∧ (B.getD i (0, 0)).2 ≤ 67108864) :
    Calls Tryd.prog 27 #[.agg #[.int .i64 p.temp, .int .i64 p.topk, .int .i64 p.topp, .int .i64 p.pen, .int .u64 (p.seed : Int)], .slice u A.length c] w fun e w' => ∃ A' wf', e = .returned (.slice u (List.length A') c) ∧ CL w' base u c A' wf' ∧ Hid (lst A' wf' = (weL p.temp B).take (cutN (goalOf p.topp (weL p.temp B)) (weL p.temp B))) ∧ Hid (A'.length ≤ A.length) ∧ Below base w w' := by
  have hle : B.length ≤ A.length := by
    rw [hB]
    unfold topL
    split
    · exact Nat.le_refl _
    · first | exact Nat.le_refl _ | (rw [List.length_take]; omega)
  have hC : CL w base u c B wf := by
    have h9 := h.take (k := B.length) hle
    have : A.take B.length = B := by
      rw [hB]
      unfold topL
      by_cases q0 : p.topk = 0
      · rw [if_pos q0, List.take_length]
      · rw [if_neg q0, List.length_take]
        by_cases q : p.topk.toNat ≤ A.length
        · rw [Nat.min_eq_left q]
        · rw [Nat.min_eq_right (by omega), List.take_length, List.take_of_length_le (by omega)]
    rw [this] at h9
    exact h9
  have HR := hidd rules_any
  have HB := hidd (fun w1 => ruleB_any p w1 false (by simpa using ht))
  have HC := hidd (fun w1 => ruleC_any p w1 true (by simpa using hk))
  have HA := hidd (fun w1 => ruleA_any p w1)
  have HF : Hid (∀ w1, Below w.heap.size w w1 → Calls Tryd.prog 60 #[.agg #[.int .i64 p.temp, .int .i64 p.topk, .int .i64 p.topp, .int .i64 p.pen, .int .u64 (p.seed : Int)], .slice u A.length c] w1 fun e w' => e = .returned (.slice u B.length c) ∧ CL w' base u c B wf ∧ Below base w1 w' ∧ w' = w1.alloc (.cells #[.int .i64 p.temp, .int .i64 p.topk, .int .i64 p.topp, .int .i64 p.pen, .int .u64 (p.seed : Int)] 24)) := fun w1 f => by
    have h9 := firstOnes_any p ok hk (h.kept f) (Nat.le_trans hb f.size) hn
    rw [← hB] at h9
    exact h9
  have HW : Hid (∀ w1, Below w.heap.size w w1 → Calls Tryd.prog 61 #[.agg #[.int .i64 p.temp, .int .i64 p.topk, .int .i64 p.topp, .int .i64 p.pen, .int .u64 (p.seed : Int)], .slice u B.length c] w1 fun e w' => e = .returned (.slice u B.length c) ∧ CL w' base u c B (wfT p.temp B) ∧ Below base w1 w' ∧ Gw w1 w' u) := fun w1 f => weighted_any p ok (by have := ok.t0; omega) (hC.kept f) (Nat.le_trans hb f.size) (hH.fresh f) hG (by omega) hbd
  have HK : Hid (∀ w2 w4, base ≤ w2.heap.size → CL w2 base u c B (wfT p.temp B) → Below w2.heap.size w2 w4 → Calls Tryd.prog 62 #[.agg #[.int .i64 p.temp, .int .i64 p.topk, .int .i64 p.topp, .int .i64 p.pen, .int .u64 (p.seed : Int)], .slice u B.length c] w4 fun e w' => ∃ m, Hid (m = cutN (goalOf p.topp (lst B (wfT p.temp B))) (lst B (wfT p.temp B))) ∧ e = .returned (.slice u (B.take m).length c) ∧ CL w' base u c (B.take m) (wfT p.temp B) ∧ Below base w4 w' ∧ Gw w4 w' u) := fun w2 w4 h1 h2 f => likeliest_any p ok (h2.kept f) (Nat.le_trans h1 f.size) (by omega) (fun i _ => wt_bd _ _ _)
  have hgl : ∀ g, u = some ⟨g, 0, none⟩ → g < w.heap.size := fun g e => by subst e; exact (Own.lt h g rfl).2
  have HGL := hidd hgl
  have HLE := hidd hle
  clear h hgl hC hB hbd hH hle hk ht
  go_enter Tryd.func27, Tryd.ntmps27
  go_wp2_with (go_at_call 44; with_reducible refine (HR.out _).mono ?_; rintro e w1 ⟨rfl, h1⟩; rw [h1]; clear h1)
  refine wp_loop_rounds 5 ?_
  rw [rounds_succ]
  go_wp2_with (go_at_call 57; with_reducible refine (HB.out _).mono ?_; rintro e w1 ⟨rfl, h1⟩; rw [h1]; clear h1)
  rw [rounds_succ]
  go_wp2_with (go_at_call 59; with_reducible refine (HC.out _).mono ?_; rintro e w1 ⟨rfl, h1⟩; rw [h1]; clear h1)
  refine (HF.out _ ?_).mono ?_
  · exact below6 _ _ _ _ _ _ _
  rintro e w3 ⟨rfl, _, _, h3⟩
  rw [h3]
  clear h3
  go_wp2
  rw [rounds_succ]
  go_wp2_with (go_at_call 56; with_reducible refine (HA.out _).mono ?_; rintro e w1 ⟨rfl, h1⟩; rw [h1]; clear h1)
  refine (HW.out _ ?_).mono ?_
  · exact below9 _ _ _ _ _ _ _ _ _ _
  rintro e w2 ⟨rfl, hcl, hbl, hgw⟩
  have hs2 := hgw.size
  simp only [World.size_alloc] at hs2
  have hne : ∀ k, w.heap.size ≤ k → ∀ g, u = some ⟨g, 0, none⟩ → k ≠ g := fun k hk g e q => by have := HGL.out g e; omega
  have x0 := hgw.cell (k := w.heap.size) (j := 0) (v := .int .i64 p.temp) (by simp [go_sem]) (hne _ (by omega))
  have x1 := hgw.cell (k := w.heap.size) (j := 1) (v := .int .i64 p.topk) (by simp [go_sem]) (hne _ (by omega))
  have x2 := hgw.cell (k := w.heap.size) (j := 2) (v := .int .i64 p.topp) (by simp [go_sem]) (hne _ (by omega))
  have x3 := hgw.cell (k := w.heap.size) (j := 3) (v := .int .i64 p.pen) (by simp [go_sem]) (hne _ (by omega))
  have x4 := hgw.cell (k := w.heap.size) (j := 4) (v := .int .u64 (p.seed : Int)) (by simp [go_sem]) (hne _ (by omega))
  have y0 := hgw.cell (k := w.heap.size + 1) (j := 9) (v := .func (.func 56) #[] #[]) (by simp [go_sem]) (hne _ (by omega))
  have y1 := hgw.cell (k := w.heap.size + 1) (j := 10) (v := .func (.func 62) #[] #[]) (by simp [go_sem]) (hne _ (by omega))
  have y2 := hgw.cell (k := w.heap.size + 1) (j := 11) (v := .bool false) (by simp [go_sem]) (hne _ (by omega))
  have z2 := hgw.cell (k := w.heap.size + 1 + 1 + 1 + 1 + 1 + 1 + 1) (j := 2) (v := .bool false) (by simp [go_sem]) (hne _ (by omega))
  have HB2 := hidd (((below9 w _ _ _ _ _ _ _ _ _).mono hb).trans hbl)
  have HCL := hidd hcl
  clear hcl hbl hgw hne
  have n0 : w.heap.size < w2.heap.size := by omega
  have n1 : w.heap.size + 1 < w2.heap.size := by omega
  go_wp2
  rw [rounds_succ]
  go_wp2_with (go_at_call 56; with_reducible refine (HA.out _).mono ?_; rintro e w1 ⟨rfl, h1⟩; rw [h1]; clear h1)
  refine (HK.out w2 _ (by omega) HCL.out ?_).mono ?_
  · exact fresh_trans (fresh_alloc _ _) (fresh_alloc _ _)
  rintro e w6 ⟨m, hm, rfl, hcl6, hbl6, hgw6⟩
  have z6 := hgw6.cell (k := w2.heap.size) (j := 2) (v := .bool false) (by simp [go_sem]) (fun g e q => by have := HGL.out g e; omega)
  have HB6 := hidd ((HB2.out.trans ((fresh_trans (fresh_alloc w2 _) (fresh_alloc _ _)).mono (by omega))).trans hbl6)
  have HCL6 := hidd hcl6
  clear hcl6 hbl6 hgw6
  go_wp2
  rw [rounds_succ]
  go_wp2
  go_ret
  refine ⟨B.take m, _, (by show Ending.returned (.slice u (min m B.length) c) = _; rw [List.length_take]), HCL6.out, ?_, ?_, HB6.out⟩
  · show _ = _
    rw [lst_take, ← lst_wt, hm.out]
  · show _ ≤ _
    have := HLE.out
    rw [List.length_take]
    omega
set_option maxRecDepth 20000 in
set_option maxHeartbeats 1600000 in
theorem thin_all (p : Prm) (ok : p.Ok) (ht : p.temp ≠ 0) (hk : p.topk = 0) {w : World} {base c : Nat} {u : Option Addr} {A B : List (Int × Int)} {wf : Nat → Int} (hB : B = topL p.topk A) (h : CL w base u c A wf) (hb : base ≤ w.heap.size) (hH : Holds w) (hG : 1 < base) (hn : A.length ≤ 1048576)
    (hbd : ∀ i, i < B.length → -67108864 ≤ (B.getD i (0, 0)).2 ∧ (B.getD i (0, 0)).2 ≤ 67108864) :
    Calls Tryd.prog 27 #[.agg #[.int .i64 p.temp, .int .i64 p.topk, .int .i64 p.topp, .int .i64 p.pen, .int .u64 (p.seed : Int)], .slice u A.length c] w fun e w' => ∃ A' wf', e = .returned (.slice u (List.length A') c) ∧ CL w' base u c A' wf' ∧ Hid (lst A' wf' = (weL p.temp B).take (cutN (goalOf p.topp (weL p.temp B)) (weL p.temp B))) ∧ Hid (A'.length ≤ A.length) ∧ Below base w w' := by
  have hle : B.length ≤ A.length := by
    rw [hB]
    unfold topL
    split
    · exact Nat.le_refl _
    · first | exact Nat.le_refl _ | (rw [List.length_take]; omega)
  have hC : CL w base u c B wf := by
    have h9 := h.take (k := B.length) hle
    have : A.take B.length = B := by
      rw [hB]
      unfold topL
      by_cases q0 : p.topk = 0
      · rw [if_pos q0, List.take_length]
      · rw [if_neg q0, List.length_take]
        by_cases q : p.topk.toNat ≤ A.length
        · rw [Nat.min_eq_left q]
        · rw [Nat.min_eq_right (by omega), List.take_length, List.take_of_length_le (by omega)]
    rw [this] at h9
    exact h9
  have HR := hidd rules_any
  have HB := hidd (fun w1 => ruleB_any p w1 false (by simpa using ht))
  have HC := hidd (fun w1 => ruleC_any p w1 false (by simpa using hk))
  have HA := hidd (fun w1 => ruleA_any p w1)
  have hBA : B = A := by rw [hB]; unfold topL; rw [if_pos hk]
  have HW : Hid (∀ w1, Below w.heap.size w w1 → Calls Tryd.prog 61 #[.agg #[.int .i64 p.temp, .int .i64 p.topk, .int .i64 p.topp, .int .i64 p.pen, .int .u64 (p.seed : Int)], .slice u B.length c] w1 fun e w' => e = .returned (.slice u B.length c) ∧ CL w' base u c B (wfT p.temp B) ∧ Below base w1 w' ∧ Gw w1 w' u) := fun w1 f => weighted_any p ok (by have := ok.t0; omega) (hC.kept f) (Nat.le_trans hb f.size) (hH.fresh f) hG (by omega) hbd
  have HK : Hid (∀ w2 w4, base ≤ w2.heap.size → CL w2 base u c B (wfT p.temp B) → Below w2.heap.size w2 w4 → Calls Tryd.prog 62 #[.agg #[.int .i64 p.temp, .int .i64 p.topk, .int .i64 p.topp, .int .i64 p.pen, .int .u64 (p.seed : Int)], .slice u B.length c] w4 fun e w' => ∃ m, Hid (m = cutN (goalOf p.topp (lst B (wfT p.temp B))) (lst B (wfT p.temp B))) ∧ e = .returned (.slice u (B.take m).length c) ∧ CL w' base u c (B.take m) (wfT p.temp B) ∧ Below base w4 w' ∧ Gw w4 w' u) := fun w2 w4 h1 h2 f => likeliest_any p ok (h2.kept f) (Nat.le_trans h1 f.size) (by omega) (fun i _ => wt_bd _ _ _)
  have hgl : ∀ g, u = some ⟨g, 0, none⟩ → g < w.heap.size := fun g e => by subst e; exact (Own.lt h g rfl).2
  have HGL := hidd hgl
  have HLE := hidd hle
  clear hB
  subst hBA
  clear h hgl hC hbd hH hle hk ht
  go_enter Tryd.func27, Tryd.ntmps27
  go_wp2_with (go_at_call 44; with_reducible refine (HR.out _).mono ?_; rintro e w1 ⟨rfl, h1⟩; rw [h1]; clear h1)
  refine wp_loop_rounds 5 ?_
  rw [rounds_succ]
  go_wp2_with (go_at_call 57; with_reducible refine (HB.out _).mono ?_; rintro e w1 ⟨rfl, h1⟩; rw [h1]; clear h1)
  rw [rounds_succ]
  go_wp2_with (go_at_call 59; with_reducible refine (HC.out _).mono ?_; rintro e w1 ⟨rfl, h1⟩; rw [h1]; clear h1)
  rw [rounds_succ]
  go_wp2_with (go_at_call 56; with_reducible refine (HA.out _).mono ?_; rintro e w1 ⟨rfl, h1⟩; rw [h1]; clear h1)
  refine (HW.out _ ?_).mono ?_
  · exact below8 _ _ _ _ _ _ _ _ _
  rintro e w2 ⟨rfl, hcl, hbl, hgw⟩
  have hs2 := hgw.size
  simp only [World.size_alloc] at hs2
  have hne : ∀ k, w.heap.size ≤ k → ∀ g, u = some ⟨g, 0, none⟩ → k ≠ g := fun k hk g e q => by have := HGL.out g e; omega
  have x0 := hgw.cell (k := w.heap.size) (j := 0) (v := .int .i64 p.temp) (by simp [go_sem]) (hne _ (by omega))
  have x1 := hgw.cell (k := w.heap.size) (j := 1) (v := .int .i64 p.topk) (by simp [go_sem]) (hne _ (by omega))
  have x2 := hgw.cell (k := w.heap.size) (j := 2) (v := .int .i64 p.topp) (by simp [go_sem]) (hne _ (by omega))
  have x3 := hgw.cell (k := w.heap.size) (j := 3) (v := .int .i64 p.pen) (by simp [go_sem]) (hne _ (by omega))
  have x4 := hgw.cell (k := w.heap.size) (j := 4) (v := .int .u64 (p.seed : Int)) (by simp [go_sem]) (hne _ (by omega))
  have y0 := hgw.cell (k := w.heap.size + 1) (j := 9) (v := .func (.func 56) #[] #[]) (by simp [go_sem]) (hne _ (by omega))
  have y1 := hgw.cell (k := w.heap.size + 1) (j := 10) (v := .func (.func 62) #[] #[]) (by simp [go_sem]) (hne _ (by omega))
  have y2 := hgw.cell (k := w.heap.size + 1) (j := 11) (v := .bool false) (by simp [go_sem]) (hne _ (by omega))
  have z2 := hgw.cell (k := w.heap.size + 1 + 1 + 1 + 1 + 1 + 1) (j := 2) (v := .bool false) (by simp [go_sem]) (hne _ (by omega))
  have HB2 := hidd (((below8 w _ _ _ _ _ _ _ _).mono hb).trans hbl)
  have HCL := hidd hcl
  clear hcl hbl hgw hne
  have n0 : w.heap.size < w2.heap.size := by omega
  have n1 : w.heap.size + 1 < w2.heap.size := by omega
  go_wp2
  rw [rounds_succ]
  go_wp2_with (go_at_call 56; with_reducible refine (HA.out _).mono ?_; rintro e w1 ⟨rfl, h1⟩; rw [h1]; clear h1)
  refine (HK.out w2 _ (by omega) HCL.out ?_).mono ?_
  · exact fresh_trans (fresh_alloc _ _) (fresh_alloc _ _)
  rintro e w6 ⟨m, hm, rfl, hcl6, hbl6, hgw6⟩
  have z6 := hgw6.cell (k := w2.heap.size) (j := 2) (v := .bool false) (by simp [go_sem]) (fun g e q => by have := HGL.out g e; omega)
  have HB6 := hidd ((HB2.out.trans ((fresh_trans (fresh_alloc w2 _) (fresh_alloc _ _)).mono (by omega))).trans hbl6)
  have HCL6 := hidd hcl6
  clear hcl6 hbl6 hgw6
  go_wp2
  rw [rounds_succ]
  go_wp2
  go_ret
  refine ⟨B.take m, _, (by show Ending.returned (.slice u (min m B.length) c) = _; rw [List.length_take]), HCL6.out, ?_, ?_, HB6.out⟩
  · show _ = _
    rw [lst_take, ← lst_wt, hm.out]
  · show _ ≤ _
    have := HLE.out
    rw [List.length_take]
    omega
end Go.Proofs.YtjjfbpjejhjdiabDoor
