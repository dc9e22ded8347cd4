import Derived.Test.YtilghknalbhacaaCpE
namespace Go.Proofs.Ytilghknalbhacaa
open Go.RowKit
/-! The reference's copies: lists of narrow numbers, of turns, a matrix. -/
set_option maxRecDepth 20000 in
set_option maxHeartbeats 1600000 in
theorem copyN_any {w : World} {ao : Option Addr} {n cap : Nat} {f : Nat → Int} (h : RdA w ao 1 n cap (fun i => .int .i8 (f i))) (hn : n ≤ 1048576) :
    Calls Try.prog 48 #[.slice ao n cap] w fun e w' => ∃ u uc, e = .returned (.slice u n uc) ∧ Own w' w.heap.size 84 1 (.slice u n uc) n (fun i => .int .i8 (f i)) ∧ Below w.heap.size w w' := by
  have hn2 : n ≤ 9223372036854775807 := by omega
  go_enter Try.func48, Try.ntmps48
  go_wp2
  go_loopw [3, 4] (fun v i wr => ∃ k : Nat, k ≤ n ∧ i = .int .i64 k ∧ Own wr w.heap.size 84 1 v k (fun j => .int .i8 (f j)) ∧ Below w.heap.size w wr) (fun _ i _ => n - (intOf i).toNat)
  case atStart => exact ⟨0, by omega, rfl, own_nil _ _ _ _ _, Below.refl _ _⟩
  case round =>
    obtain ⟨k, hk, rfl, hown, hf⟩ := hrel
    have hsz := hf.size
    by_cases hlt : k < n
    · obtain ⟨b1, o1, rfl, h1⟩ := (h.fresh hf).one (by omega)
      have d := h1 k hlt
      have hle := h.le
      have HX : Hid (∀ (w0 : World) (t : TypeId), (w0.alloc (.cells #[.int .i8 (f k)] t)).cell? ⟨w0.heap.size, 0, none⟩ = some ((fun j => Value.int .i8 (f j)) k)) := fun w0 t => new_cell _ _ _
      clear h1
      generalize f k = y at d HX
      go_wp2_with (at_builtin; refine wpList_app1 _ rfl _ _ 27 rfl w.heap.size 84 (.int .i8 0) 1 Try.underlying27 infoI8 rfl _ k (fun j => .int .i8 (f j)) rfl (hown.kept (fresh_alloc _ _)) _ 1 rfl (HX.out _ _) rfl (by omega) (by omega) (by simp; omega) ?_)
      intro v' w1 hown' happ
      have hf1 := happ.below (hf.alloc hsz _) (hown.kept (fresh_alloc _ _)) (Nat.le_refl _) (by simp; omega)
      clear happ hown
      go_wp2
      go_roundw
      case rel => exact ⟨k + 1, by omega, by go_num, hown', hf1⟩
      case measure => simp [intOf]; omega
    · obtain rfl : k = n := by omega
      obtain ⟨u, uc, rfl, hu⟩ := hown.rd
      go_wp2
      go_ret
      exact ⟨u, uc, rfl, hown, hf⟩
set_option maxRecDepth 20000 in
set_option maxHeartbeats 1600000 in
theorem copyT_any {w : World} {ao : Option Addr} {n cap : Nat} {C S : Nat → Int} (h : RdA w ao 2 n cap (tcs C S)) (hn : n ≤ 1048576) :
    Calls Try.prog 46 #[.slice ao n cap] w fun e w' => ∃ u uc, e = .returned (.slice u n uc) ∧ Own w' w.heap.size 97 2 (.slice u n uc) n (tcs C S) ∧ Below w.heap.size w w' := by
  have hn2 : n ≤ 9223372036854775807 := by omega
  have HT : Hid (∀ k, tcs C S (k * 2) = .int .i64 (C k) ∧ tcs C S (k * 2 + 1) = .int .i64 (S k)) := fun k => by
    unfold tcs
    rw [if_pos (by omega), if_neg (by omega), show k * 2 / 2 = k by omega, show (k * 2 + 1) / 2 = k by omega]
    exact ⟨rfl, rfl⟩
  have HH := hidd h
  have hle := h.le
  clear h
  go_enter Try.func46, Try.ntmps46
  go_wp2
  go_loopw [3, 4] (fun v i wr => ∃ k : Nat, k ≤ n ∧ i = .int .i64 k ∧ Own wr w.heap.size 97 2 v k (tcs C S) ∧ Below w.heap.size w wr) (fun _ i _ => n - (intOf i).toNat)
  case atStart => exact ⟨0, by omega, rfl, own_nil _ _ _ _ _, Below.refl _ _⟩
  case round =>
    obtain ⟨k, hk, rfl, hown, hf⟩ := hrel
    have hsz := hf.size
    by_cases hlt : k < n
    · obtain ⟨b1, o1, rfl, h1⟩ := (HH.out.fresh hf).at_ (by omega)
      obtain ⟨e0, e1⟩ := HT.out k
      have d0 := h1 (k * 2) (by omega)
      have d1 := h1 (k * 2 + 1) (by omega)
      rw [e0] at d0
      rw [e1, ← Nat.add_assoc] at d1
      have HX : Hid (∀ (w0 : World) (t : TypeId) (i : Nat), i < 1 * 2 → (w0.alloc (.cells #[.int .i64 (C k), .int .i64 (S k)] t)).cell? ⟨w0.heap.size, i, none⟩ = some (tcs C S (k * 2 + i))) := fun w0 t i hi => by
        match i, hi with
        | 0, _ => show _ = some (tcs C S (k * 2)); rw [e0]; simp
        | 1, _ => rw [e1]; simp
      have HONE : Hid (∀ i, i < 1 * 2 → (tcs C S (k * 2 + i)).oneCell' = true) := fun i hi => by
        match i, hi with
        | 0, _ => show (tcs C S (k * 2)).oneCell' = true; rw [e0]; rfl
        | 1, _ => rw [e1]; rfl
      clear h1 e0 e1
      generalize C k = y0 at *
      generalize S k = y1 at *
      have HO := hidd hown
      obtain ⟨v2, c2, rfl, hrd⟩ := hown.rd
      clear hown hrd
      go_wp2_with (at_builtin; refine wpList_app _ rfl _ _ 30 rfl w.heap.size 97 (.agg #[.int .i64 0, .int .i64 0]) 2 16 Try.underlying30 infoTu rfl (by decide) _ k (tcs C S) rfl (HO.out.kept (fresh_alloc _ _)) _ 1 1 rfl (HX.out _ _) HONE.out (by decide) (by unfold maxLen; omega) (by omega) (by simp; omega) ?_)
      intro v' w1 hown' happ
      have hf1 := happ.below (hf.alloc hsz _) (HO.out.kept (fresh_alloc _ _)) (Nat.le_refl _) (by simp; omega)
      clear happ
      go_wp2
      go_roundw
      case rel => exact ⟨k + 1, by omega, by go_num, hown', hf1⟩
      case measure => simp [intOf]; omega
    · obtain rfl : k = n := by omega
      obtain ⟨u, uc, rfl, hu⟩ := hown.rd
      go_wp2
      go_ret
      exact ⟨u, uc, rfl, hown, hf⟩
set_option maxRecDepth 20000 in
set_option maxHeartbeats 2000000 in
theorem copyM_any {w : World} {m : MtD} (h : MtR w m) (hn : m.n ≤ 1048576) :
    Calls Try.prog 45 #[.agg #[.int .i64 m.R, .int .i64 m.C, .slice m.O m.n m.c]] w fun e w' => ∃ u c, e = .returned (.agg #[.int .i64 m.R, .int .i64 m.C, .slice u m.n c]) ∧ Own w' w.heap.size 84 1 (.slice u m.n c) m.n (fun i => .int .i8 (m.f i)) ∧ Below w.heap.size w w' := by
  have f1 := fresh_alloc w (.cells #[.int .i64 m.R, .int .i64 m.C, .slice m.O m.n m.c] 29)
  have f0 := fresh_trans f1 (fresh_alloc (w.alloc (.cells #[.int .i64 m.R, .int .i64 m.C, .slice m.O m.n m.c] 29)) (.cells #[.int .i64 0, .int .i64 0, .slice none 0 0] 29))
  have R1 := World.rowIs_alloc3 w (.int .i64 m.R) (.int .i64 m.C) (.slice m.O m.n m.c) 29
  have R2 := World.rowIs_alloc3 (w.alloc (.cells #[.int .i64 m.R, .int .i64 m.C, .slice m.O m.n m.c] 29)) (.int .i64 0) (.int .i64 0) (.slice none 0 0) 29
  have HR1 := hidd (R1.alloc (.cells #[.int .i64 0, .int .i64 0, .slice none 0 0] 29))
  have HR2 : Hid (((w.alloc (.cells #[.int .i64 m.R, .int .i64 m.C, .slice m.O m.n m.c] 29)).alloc (.cells #[.int .i64 0, .int .i64 0, .slice none 0 0] 29)).rowIs (w.heap.size + 1) 29 3 (row3 (.int .i64 0) (.int .i64 0) (.slice none 0 0))) := hidd (by simpa using R2)
  clear R1 R2
  go_enter Try.func45, Try.ntmps45
  go_upto_region 1 with fail
  generalize hwa : (w.alloc (.cells #[.int .i64 m.R, .int .i64 m.C, .slice m.O m.n m.c] 29)).alloc (.cells #[.int .i64 0, .int .i64 0, .slice none 0 0] 29) = wa at *
  have hsa : wa.heap.size = w.heap.size + 2 := by rw [← hwa]; simp
  clear hwa f1
  have HC : Hid (∀ z, Below wa.heap.size wa z → Calls Try.prog 48 #[.slice m.O m.n m.c] z fun e w' => ∃ u c, e = .returned (.slice u m.n c) ∧ Own w' wa.heap.size 84 1 (.slice u m.n c) m.n (fun i => .int .i8 (m.f i)) ∧ Below wa.heap.size wa w') := fun z hz => (copyN_any (h.rd.fresh (fresh_trans f0 hz)) hn).mono fun e w' ⟨u, c, h1, h2, h3⟩ => ⟨u, c, h1, h2.weaken hz.size, fresh_trans hz h3⟩
  have HRR : Hid (∀ z, Below wa.heap.size wa z → (z.cell? ⟨w.heap.size, 0, none⟩ = some (.int .i64 m.R) ∧ z.cell? ⟨w.heap.size, 1, none⟩ = some (.int .i64 m.C) ∧ z.cell? ⟨w.heap.size, 2, none⟩ = some (.slice m.O m.n m.c)) ∧ (z.cell? ⟨w.heap.size + 1, 0, none⟩ = some (.int .i64 0) ∧ z.cell? ⟨w.heap.size + 1, 1, none⟩ = some (.int .i64 0) ∧ z.cell? ⟨w.heap.size + 1, 2, none⟩ = some (.slice none 0 0)) ∧ ∀ j, z.frozen? ⟨w.heap.size + 1, j, none⟩ = false) := fun z hz => by
    have q1 := row_fresh HR1.out hz
    have q2 := row_fresh HR2.out hz
    exact ⟨⟨q1.cell (i := 0) (by decide), q1.cell (i := 1) (by decide), q1.cell (i := 2) (by decide)⟩, ⟨q2.cell (i := 0) (by decide), q2.cell (i := 1) (by decide), q2.cell (i := 2) (by decide)⟩, q2.frozen⟩
  have fd : Below wa.heap.size wa wa.drew := (Below.refl _ _).drew
  obtain ⟨⟨a0, a1, a2⟩, ⟨a3, a4, a5⟩, a6⟩ := HRR.out _ fd
  have HFIN : Hid (∀ (z : World) (u : Option Addr) (c : Nat), Below wa.heap.size wa z → Own z wa.heap.size 84 1 (.slice u m.n c) m.n (fun i => .int .i8 (m.f i)) → (((z.setCell ⟨w.heap.size + 1, 0, none⟩ (.int .i64 m.R)).setCell ⟨w.heap.size + 1, 1, none⟩ (.int .i64 m.C)).setCell ⟨w.heap.size + 1, 2, none⟩ (.slice u m.n c)).rangeAt (w.heap.size + 1) 0 [.int .i64 m.R, .int .i64 m.C, .slice u m.n c] ∧ Own (((z.setCell ⟨w.heap.size + 1, 0, none⟩ (.int .i64 m.R)).setCell ⟨w.heap.size + 1, 1, none⟩ (.int .i64 m.C)).setCell ⟨w.heap.size + 1, 2, none⟩ (.slice u m.n c)) w.heap.size 84 1 (.slice u m.n c) m.n (fun i => .int .i8 (m.f i)) ∧ Below w.heap.size w (((z.setCell ⟨w.heap.size + 1, 0, none⟩ (.int .i64 m.R)).setCell ⟨w.heap.size + 1, 1, none⟩ (.int .i64 m.C)).setCell ⟨w.heap.size + 1, 2, none⟩ (.slice u m.n c))) := fun z u c hz ho => by
    have q2 := row_fresh HR2.out hz
    have hq := ((q2.set 0 (.int .i64 m.R)).set 1 (.int .i64 m.C)).set 2 (.slice u m.n c)
    have hne : (Value.slice u m.n c).ownBlock ≠ some (w.heap.size + 1) := fun e => by have := (ho.lt _ e).1; omega
    refine ⟨fun j v hv => ?_, (Own.set3 ho hne).weaken (by omega), (((fresh_trans f0 hz).setCell (Nat.le_succ _) _).setCell (Nat.le_succ _) _).setCell (Nat.le_succ _) _⟩
    match j, hv with
    | 0, hv => rw [← Option.some.inj hv]; exact hq.cell (i := 0) (by decide)
    | 1, hv => rw [← Option.some.inj hv]; exact hq.cell (i := 1) (by decide)
    | 2, hv => rw [← Option.some.inj hv]; exact hq.cell (i := 2) (by decide)
    | j + 3, hv => cases hv
  go_region_with (go_at_call 48; with_reducible refine (HC.out _ fd).mono ?_; rintro e w7 ⟨u, c, rfl, o7, g7⟩; obtain ⟨⟨b0, b1, b2⟩, ⟨b3, b4, b5⟩, b6⟩ := HRR.out _ g7)
  all_goals
    go_wp2
    refine bodyPost_ret (v := .agg #[.int .i64 m.R, .int .i64 m.C, .slice u m.n c]) ?_ ?_ ?_
    · exact results_cell_mid Try.results45 _ _ (w.heap.size + 1) [.int .i64 m.R, .int .i64 m.C, .slice u m.n c] _ rfl (HFIN.out w7 u c g7 o7).1 Try.underlying29 rfl (by kernel_rfl)
    · rfl
    · exact ⟨u, c, rfl, (HFIN.out w7 u c g7 o7).2.1, (HFIN.out w7 u c g7 o7).2.2⟩
end Go.Proofs.Ytilghknalbhacaa
