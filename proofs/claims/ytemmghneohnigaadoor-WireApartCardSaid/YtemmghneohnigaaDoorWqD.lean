import Derived.Test.YtemmghneohnigaaDoorWqC
namespace Go.Proofs.YtemmghneohnigaaDoor
open Go.RowKit
/-! The reference's Quote; copies and comparisons of bytes. -/
theorem u8_quo16 {c : Int} (h0 : 0 ≤ c) (h1 : c ≤ 255) : 0 ≤ c / 16 ∧ c / 16 < 16 ∧ 0 ≤ c % 16 ∧ c % 16 < 16 := by omega
theorem app1_step {w w2 : World} {base n : Nat} {v : Value} {cs : Nat → Value} {x : Value} (hO : Own w2 base 5 1 v n cs) (hF : Below base w w2) (hz : base ≤ w2.heap.size) (hx : cs n = x) : Own (w2.alloc (.cells #[x] 5)) base 5 1 v n cs ∧ Below base w (w2.alloc (.cells #[x] 5)) ∧ base ≤ (w2.alloc (.cells #[x] 5)).heap.size ∧ (w2.alloc (.cells #[x] 5)).cell? ⟨w2.heap.size, 0, none⟩ = some (cs n) :=
  ⟨hO.kept (fresh_alloc _ _), hF.alloc hz _, by simp; omega, by rw [hx]; exact new_cell _ _ _⟩
set_option maxRecDepth 20000 in
set_option maxHeartbeats 2000000 in
theorem rquote_any {w : World} {ao : Option Addr} {l : List Int} {cap : Nat} (h : RdA w ao 1 l.length cap (byc l)) (hB : Byt l) (hl : l.length ≤ 35184372088000) :
    Calls Tryd.prog 28 #[.slice ao l.length cap] w fun e w' => e = .returned (.string (strOfNums (lit l))) ∧ Below w.heap.size w w' := by
  have hpl := pies_len l
  have HLL := hidd (lit_len l)
  obtain ⟨n, en⟩ : ∃ n, n = l.length := ⟨_, rfl⟩
  have EN := hidd en
  have HR := hidd h
  have HBY := hidd hB
  have hcp : cap ≤ 9223372036854775807 := by have := h.top; unfold maxLen at this; omega
  have hnc : n ≤ cap := by rw [en]; exact h.le
  rw [← en] at hl hpl ⊢
  have HX9 : Hid (∀ (w0 : World) (t : TypeId), (w0.alloc (.cells #[.int .u8 34] t)).cell? ⟨w0.heap.size, 0, none⟩ = some (byc (lit l) (1 + (pies l).length))) := fun w0 t => by
    unfold byc
    rw [lit_last]
    exact new_cell _ _ _
  have HS : Hid (Own (w.alloc (.cells #[.int .u8 34] 5)) w.heap.size 5 1 (.slice (some ⟨w.heap.size, 0, none⟩) 1 1) 1 (byc (lit l))) := by
    show Own _ _ _ _ _ _ _
    unfold Own
    refine ⟨by simp, .inr ⟨w.heap.size, 1, #[.int .u8 34], rfl, Nat.le_refl _, (by show (w.heap.push _)[w.heap.size]? = _; simp), Nat.le_refl _, by unfold maxLen; omega, by simp, ?_⟩⟩
    simp [byc, lit]
  have HF : Hid (Below w.heap.size w (w.alloc (.cells #[.int .u8 34] 5))) := fresh_alloc _ _
  clear h hB en
  go_enter Tryd.func28, Tryd.ntmps28
  go_wp2
  generalize w.alloc (.cells #[.int .u8 34] 5) = w1 at *
  go_loopw [3, 4, 5] (fun v i _ wr => ∃ k : Nat, k ≤ n ∧ i = .int .i64 (k : Int) ∧ Hid (Own wr w.heap.size 5 1 v (1 + (pies (l.take k)).length) (byc (lit l))) ∧ Hid (Below w.heap.size w wr)) (fun _ i _ _ => n - (intOf i).toNat)
  case atStart => exact ⟨0, Nat.zero_le _, by simp, HS.out, HF.out⟩
  case round =>
    clear HS HF
    obtain ⟨k, hk, rfl, hO, hF⟩ := hrel
    by_cases hlt : k < n
    · obtain ⟨b1, o1, rfl, h1⟩ := (HR.out.fresh hF.out).one (by rw [← EN.out]; omega)
      have c1 := h1 k (by rw [← EN.out]; omega)
      clear h1
      have hb := byt_get HBY.out (i := k) (by rw [← EN.out]; omega)
      have hpk := pies_len (l.take k)
      rw [List.length_take] at hpk
      have hpn : (pies (l.take k)).length ≤ 4 * n := by omega
      have HPS := hidd (pies_succ (l := l) (i := k) (by rw [← EN.out]; exact hlt))
      have HG : Hid (∀ j, j < (pie (l.getD k 0)).length → byc (lit l) (1 + (pies (l.take k)).length + j) = .int .u8 ((pie (l.getD k 0)).getD j 0)) := fun j hj => by unfold byc; rw [lit_get (by rw [← EN.out]; exact hlt) hj]
      unfold byc at c1
      have c1' : wr.cell? ⟨b1, o1 + k, none⟩ = some (.int .u8 (l.getD k 0)) := c1
      clear c1
      generalize l.getD k 0 = c at *
      obtain ⟨m, em⟩ : ∃ m, m = 1 + (pies (l.take k)).length := ⟨_, rfl⟩
      have hm : m + 4 ≤ 140737488355328 := by omega
      rw [← em] at hO HG
      have EM := hidd em
      clear em
      have hz := hF.out.size
      have HEND : Hid (∀ (w4 : World) (v' : Value), Own w4 w.heap.size 5 1 v' (m + (pie c).length) (byc (lit l)) → Own w4 w.heap.size 5 1 v' (1 + (pies (l.take (k + 1))).length) (byc (lit l))) := fun w4 v' hh => by
        rw [HPS.out, List.length_append, ← Nat.add_assoc, ← EM.out]; exact hh
      clear HPS EM hpk hpn
      by_cases hq : c = 34 ∨ c = 92
      · rw [pie_quo hq] at HG HEND
        have e0 : byc (lit l) m = .int .u8 92 := by simpa using HG.out 0 (by simp)
        have e1 : byc (lit l) (m + 1) = .int .u8 c := by simpa using HG.out 1 (by simp)
        have E0 := hidd e0
        have E1 := hidd e1
        clear e0 e1 HG
        have bq : (c == 34 || c == 92) = true := by simpa using hq
        rcases hq with rfl | rfl
        all_goals
          go_wp2_with (at_builtin; refine wpList_app1 _ rfl _ _ 22 rfl w.heap.size 5 (.int .u8 0) 1 Tryd.underlying22 infoB rfl _ m (byc (lit l)) rfl (hO.out.kept (fresh_alloc _ _)) _ 1 rfl (by rw [E0.out]; exact new_cell _ _ _) rfl (by omega) (by omega) (by simp; omega) ?_)
          intro v5 w5 ho5 ha5
          have hf5 := ha5.below (hF.out.alloc hz _) (hO.out.kept (fresh_alloc _ _)) (Nat.le_refl _) (by simp; omega)
          have hz5 := hf5.size
          clear ha5
          go_wp2_with (at_builtin; refine wpList_app1 _ rfl _ _ 22 rfl w.heap.size 5 (.int .u8 0) 1 Tryd.underlying22 infoB rfl _ (m + 1) (byc (lit l)) rfl (ho5.kept (fresh_alloc _ _)) _ 1 rfl (by rw [E1.out]; exact new_cell _ _ _) rfl (by omega) (by omega) (by simp; omega) ?_)
          intro v6 w6 ho6 ha6
          have hf6 := ha6.below (hf5.alloc hz5 _) (ho5.kept (fresh_alloc _ _)) (Nat.le_refl _) (by simp; omega)
          clear ha6
          have HO9 := hidd (HEND.out w6 v6 ho6)
          have HF9 := hidd hf6
          clear ho5 hf5 hz5 ho6 hf6
          go_wp2
          go_roundw
          case rel => exact ⟨k + 1, by omega, by go_num, HO9.out, HF9.out⟩
          case measure => simp [intOf]; omega
      · have hq1 : ¬ c = 34 := fun e => hq (.inl e)
        have hq2 : ¬ c = 92 := fun e => hq (.inr e)
        have bq1 : (c == 34) = false := by simp [hq1]
        have bq2 : (c == 92) = false := by simp [hq2]
        by_cases ho : 32 ≤ c ∧ c ≤ 126
        · obtain ⟨o1, o2⟩ := ho
          rw [pie_own hq ⟨o1, o2⟩] at HG HEND
          have E0 := hidd (show byc (lit l) m = .int .u8 c by simpa using HG.out 0 (by simp))
          have bo1 : decide (32 ≤ c) = true := by simp [o1]
          have bo2 : decide (c ≤ 126) = true := by simp [o2]
          clear hq HG
          go_wp2_with (at_builtin; refine wpList_app1 _ rfl _ _ 22 rfl w.heap.size 5 (.int .u8 0) 1 Tryd.underlying22 infoB rfl _ m (byc (lit l)) rfl (hO.out.kept (fresh_alloc _ _)) _ 1 rfl (by rw [E0.out]; exact new_cell _ _ _) rfl (by omega) (by omega) (by simp; omega) ?_)
          intro v6 w6 ho6 ha6
          have hf6 := ha6.below (hF.out.alloc hz _) (hO.out.kept (fresh_alloc _ _)) (Nat.le_refl _) (by simp; omega)
          clear ha6
          have HO9 := hidd (HEND.out w6 v6 ho6)
          have HF9 := hidd hf6
          clear ho6 hf6
          go_wp2
          go_roundw
          case rel => exact ⟨k + 1, by omega, by go_num, HO9.out, HF9.out⟩
          case measure => simp [intOf]; omega
        · rw [pie_hex hq ho] at HG HEND
          have E0 := hidd (show byc (lit l) m = .int .u8 92 by simpa using HG.out 0 (by simp))
          have E1 := hidd (show byc (lit l) (m + 1) = .int .u8 120 by simpa using HG.out 1 (by simp))
          have E2 := hidd (show byc (lit l) (m + 1 + 1) = .int .u8 (hxD (c / 16)) by simpa using HG.out 2 (by simp))
          have E3 := hidd (show byc (lit l) (m + 1 + 1 + 1) = .int .u8 (hxD (c % 16)) by simpa using HG.out 3 (by simp))
          have key : (decide (32 ≤ c) = true ∧ decide (c ≤ 126) = false) ∨ decide (32 ≤ c) = false := by
            simp only [decide_eq_true_eq, decide_eq_false_iff_not]
            omega
          obtain ⟨q0, q1, r0, r1⟩ := u8_quo16 hb.1 hb.2
          have HD1 := hidd (fun w => digit_any q0 q1 w)
          have HD2 := hidd (fun w => digit_any r0 r1 w)
          clear hq HG
          clear ho
          rcases key with ⟨bo1, bo2⟩ | bo1
          all_goals
            go_wp2_with (at_builtin; refine wpList_app1 _ rfl _ _ 22 rfl w.heap.size 5 (.int .u8 0) 1 Tryd.underlying22 infoB rfl _ m (byc (lit l)) rfl (hO.out.kept (fresh_alloc _ _)) _ 1 rfl (by rw [E0.out]; exact new_cell _ _ _) rfl (by omega) (by omega) (by simp; omega) ?_)
            intro v5 w5 ho5 ha5
            have hf5 := ha5.below (hF.out.alloc hz _) (hO.out.kept (fresh_alloc _ _)) (Nat.le_refl _) (by simp; omega)
            have hz5 := hf5.size
            clear ha5
            go_wp2_with (at_builtin; refine wpList_app1 _ rfl _ _ 22 rfl w.heap.size 5 (.int .u8 0) 1 Tryd.underlying22 infoB rfl _ (m + 1) (byc (lit l)) rfl (ho5.kept (fresh_alloc _ _)) _ 1 rfl (by rw [E1.out]; exact new_cell _ _ _) rfl (by omega) (by omega) (by simp; omega) ?_)
            intro v6 w6 ho6 ha6
            have hf6 := ha6.below (hf5.alloc hz5 _) (ho5.kept (fresh_alloc _ _)) (Nat.le_refl _) (by simp; omega)
            have hz6 := hf6.size
            clear ha6 ho5 hf5 hz5
            go_wp2_with (first | (go_at_call 46; with_reducible refine (HD1.out _).mono ?_; rintro e w' ⟨rfl, rfl⟩) | (at_builtin; refine wpList_app1 _ rfl _ _ 22 rfl w.heap.size 5 (.int .u8 0) 1 Tryd.underlying22 infoB rfl _ (m + 1 + 1) (byc (lit l)) rfl (ho6.kept (fresh_alloc _ _)) _ 1 rfl (by rw [E2.out]; exact new_cell _ _ _) rfl (by omega) (by omega) (by simp; omega) ?_))
            intro v7 w7 ho7 ha7
            have hf7 := ha7.below (hf6.alloc hz6 _) (ho6.kept (fresh_alloc _ _)) (Nat.le_refl _) (by simp; omega)
            have hz7 := hf7.size
            clear ha7 ho6 hf6 hz6
            go_wp2_with (first | (go_at_call 46; with_reducible refine (HD2.out _).mono ?_; rintro e w' ⟨rfl, rfl⟩) | (at_builtin; refine wpList_app1 _ rfl _ _ 22 rfl w.heap.size 5 (.int .u8 0) 1 Tryd.underlying22 infoB rfl _ (m + 1 + 1 + 1) (byc (lit l)) rfl (ho7.kept (fresh_alloc _ _)) _ 1 rfl (by rw [E3.out]; exact new_cell _ _ _) rfl (by omega) (by omega) (by simp; omega) ?_))
            intro v8 w8 ho8 ha8
            have hf8 := ha8.below (hf7.alloc hz7 _) (ho7.kept (fresh_alloc _ _)) (Nat.le_refl _) (by simp; omega)
            clear ha8 ho7 hf7 hz7
            have HO9 := hidd (HEND.out w8 v8 ho8)
            have HF9 := hidd hf8
            clear ho8 hf8
            go_wp2
            go_roundw
            case rel => exact ⟨k + 1, by omega, by go_num, HO9.out, HF9.out⟩
            case measure => simp [intOf]; omega
    · obtain rfl : k = n := by omega
      have hO' := hO.out
      rw [EN.out, List.take_length] at hO'
      have hz := hF.out.size
      clear hO
      go_wp2_with (at_builtin; refine wpList_app1 _ rfl _ _ 22 rfl w.heap.size 5 (.int .u8 0) 1 Tryd.underlying22 infoB rfl _ (1 + (pies l).length) (byc (lit l)) rfl (hO'.kept (fresh_alloc _ _)) _ 1 rfl (HX9.out _ _) rfl (by omega) (by omega) (by simp; omega) ?_)
      intro v9 w9 hown9 happ9
      have hf9 := happ9.below (hF.out.alloc hz _) (hO'.kept (fresh_alloc _ _)) (Nat.le_refl _) (by simp; omega)
      clear happ9 hO'
      obtain ⟨ao9, cap9, rfl, hr9⟩ := hown9.rd
      have hcv := conv_str (w := w9) (ao := ao9) (l := lit l) (cap := cap9) (by rw [HLL.out, show (pies l).length + 2 = 1 + (pies l).length + 1 by omega]; exact hr9)
      rw [HLL.out, show (pies l).length + 2 = 1 + (pies l).length + 1 by omega] at hcv
      go_wp2
      go_ret
      exact ⟨rfl, hf9⟩
end Go.Proofs.YtemmghneohnigaaDoor
