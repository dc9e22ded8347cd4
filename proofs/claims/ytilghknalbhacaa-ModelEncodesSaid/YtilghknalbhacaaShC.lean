import Derived.Test.YtilghknalbhacaaJAJ
namespace Go.Proofs.Ytilghknalbhacaa
open Go.RowKit
/-! cutShifts. -/
def sh7 (s : Nat → Int) : Array Value := #[.int .i64 (s 0), .int .i64 (s 1), .int .i64 (s 2), .int .i64 (s 3), .int .i64 (s 4), .int .i64 (s 5), .int .i64 (s 6)]
theorem sh7_at0 (s : Nat → Int) (w : World) : (Instr.index 65 (.agg (sh7 s)) (.int .i64 0)).run Try.prog w = .ok (.int .i64 (s 0)) w := by kernel_rfl
theorem sh7_at1 (s : Nat → Int) (w : World) : (Instr.index 65 (.agg (sh7 s)) (.int .i64 1)).run Try.prog w = .ok (.int .i64 (s 1)) w := by kernel_rfl
theorem sh7_at2 (s : Nat → Int) (w : World) : (Instr.index 65 (.agg (sh7 s)) (.int .i64 2)).run Try.prog w = .ok (.int .i64 (s 2)) w := by kernel_rfl
theorem sh7_at3 (s : Nat → Int) (w : World) : (Instr.index 65 (.agg (sh7 s)) (.int .i64 3)).run Try.prog w = .ok (.int .i64 (s 3)) w := by kernel_rfl
theorem sh7_at4 (s : Nat → Int) (w : World) : (Instr.index 65 (.agg (sh7 s)) (.int .i64 4)).run Try.prog w = .ok (.int .i64 (s 4)) w := by kernel_rfl
theorem sh7_at5 (s : Nat → Int) (w : World) : (Instr.index 65 (.agg (sh7 s)) (.int .i64 5)).run Try.prog w = .ok (.int .i64 (s 5)) w := by kernel_rfl
theorem sh7_at6 (s : Nat → Int) (w : World) : (Instr.index 65 (.agg (sh7 s)) (.int .i64 6)).run Try.prog w = .ok (.int .i64 (s 6)) w := by kernel_rfl
theorem sh7_at (s : Nat → Int) (k : Nat) (h : k < 7) (w : World) : (Instr.index 65 (.agg (sh7 s)) (.int .i64 (k : Int))).run Try.prog w = .ok (.int .i64 (s k)) w := by
  match k, h with
  | 0, _ => exact sh7_at0 s w
  | 1, _ => exact sh7_at1 s w
  | 2, _ => exact sh7_at2 s w
  | 3, _ => exact sh7_at3 s w
  | 4, _ => exact sh7_at4 s w
  | 5, _ => exact sh7_at5 s w
  | 6, _ => exact sh7_at6 s w
theorem sh7_get (s : Nat → Int) : ∀ (i : Nat), i < 7 → (sh7 s)[i]? = some (.int .i64 (s i))
  | 0, _ => rfl
  | 1, _ => rfl
  | 2, _ => rfl
  | 3, _ => rfl
  | 4, _ => rfl
  | 5, _ => rfl
  | 6, _ => rfl
theorem size7 (s : Nat → Int) : (Try.prog.info? 65).map (·.size) = some (sh7 s).size := by
  have : (Try.prog.info? 65).map (·.size) = some 7 := by kernel_rfl
  rw [this]; rfl
theorem sh7_one (s : Nat → Int) : (sh7 s).all (·.oneCell') = true := by kernel_rfl
theorem heap_old (w : World) (o1 o2 : Obj) : ((w.alloc o1).alloc o2).heap[w.heap.size]? = some o1 := by
  rw [(fresh_alloc _ o2).block w.heap.size (by simp), heap_new]
theorem sh7_range {w : World} {g : Nat} {t : TypeId} {f : Nat → Value} (s : Nat → Int) (h : w.rowIs g t 7 f) (hf : ∀ j, j < 7 → f j = .int .i64 (s j)) : w.rangeAt g 0 (sh7 s).toList := fun j v hj => by
  rw [Array.getElem?_toList] at hj
  have hl : j < 7 := (Array.getElem?_eq_some_iff.1 hj).1
  rw [sh7_get s j hl] at hj
  simp only [Option.some.injEq] at hj
  rw [Nat.zero_add, h.cell hl, hf j hl, hj]
theorem row_there {w : World} {g : Nat} {t : TypeId} {f : Nat → Value} {n : Nat} (h : w.rowIs g t n f) : w.there g 0 n := fun j hj => by
  rw [Nat.zero_add]
  exact ⟨by rw [h.cell hj]; rfl, h.frozen _⟩
set_option maxRecDepth 20000 in
set_option maxHeartbeats 1600000 in
theorem cutShifts_any (s : Nat → Int) (w : World) : Calls Try.prog 100 #[.agg (sh7 s)] w fun e w' => e = .returned (.agg (sh7 fun j => ct (s j))) ∧ Below w.heap.size w w' := by
  go_enter Try.func100, Try.ntmps100
  go_wp2_with (refine wpList_load_row rfl 65 _ rfl w.heap.size rfl _ _ (0, 0) _ (heap_old w _ _) Try.underlying65 rfl (size7 s) ?_)
  have HB := hidd (heap_old w (.cells (sh7 s) 65) (.cells #[.int .i64 0, .int .i64 0, .int .i64 0, .int .i64 0, .int .i64 0, .int .i64 0, .int .i64 0] 65))
  have hf := fresh_trans (fresh_alloc w (.cells (sh7 s) 65)) (fresh_alloc _ (.cells #[.int .i64 0, .int .i64 0, .int .i64 0, .int .i64 0, .int .i64 0, .int .i64 0, .int .i64 0] 65))
  have r0 : ((w.alloc (.cells (sh7 s) 65)).alloc (.cells #[.int .i64 0, .int .i64 0, .int .i64 0, .int .i64 0, .int .i64 0, .int .i64 0, .int .i64 0] 65)).rowIs w.heap.size 65 7 (fun j => .int .i64 (if j < 0 then ct (s j) else s j)) := by
    refine (World.rowIs_alloc w (sh7 s) 65 (fun j => .int .i64 (s j)) (fun i hi => sh7_get s i hi)).alloc _ |>.congr (fun i _ => ?_)
    rw [if_neg (by omega)]
  have r1 : ((w.alloc (.cells (sh7 s) 65)).alloc (.cells #[.int .i64 0, .int .i64 0, .int .i64 0, .int .i64 0, .int .i64 0, .int .i64 0, .int .i64 0] 65)).rowIs (w.heap.size + 1) 65 7 (fun _ => .int .i64 0) := by
    have := World.rowIs_alloc (w.alloc (.cells (sh7 s) 65)) #[.int .i64 0, .int .i64 0, .int .i64 0, .int .i64 0, .int .i64 0, .int .i64 0, .int .i64 0] 65 (fun _ => .int .i64 0) (fun i hi => by
      match i, hi with
      | 0, _ => rfl
      | 1, _ => rfl
      | 2, _ => rfl
      | 3, _ => rfl
      | 4, _ => rfl
      | 5, _ => rfl
      | 6, _ => rfl)
    simpa using this
  have AT := hidd (sh7_at s)
  have R0 := hidd r0
  have R1 := hidd r1
  have HF := hidd hf
  clear r0 r1 hf HB
  generalize (w.alloc (.cells (sh7 s) 65)).alloc (.cells #[.int .i64 0, .int .i64 0, .int .i64 0, .int .i64 0, .int .i64 0, .int .i64 0, .int .i64 0] 65) = w1 at *
  generalize sh7 s = tb at *
  go_loopw [6] (fun i wr => ∃ k : Nat, k ≤ 7 ∧ i = .int .i64 k ∧ Hid (wr.rowIs w.heap.size 65 7 (fun j => .int .i64 (if j < k then ct (s j) else s j))) ∧ Hid (wr.rowIs (w.heap.size + 1) 65 7 (fun _ => .int .i64 0)) ∧ Hid (Below w.heap.size w wr)) (fun i _ => 7 - (intOf i).toNat)
  case atStart => exact ⟨0, by omega, rfl, R0, R1, HF⟩
  case round =>
    clear R0 R1 HF
    obtain ⟨k, hk, rfl, HR, HS, HB⟩ := hrel
    by_cases hlt : k < 7
    · have hi := AT.out k hlt
      have hc := HR.out.cell hlt
      have hz := HR.out.frozen k
      have i1 : (0 : Int) ≤ (k : Int) := Int.natCast_nonneg _
      have i2 : (k : Int) < 7 := by omega
      have key : ∀ v, v = ct (s k) → ∀ w9, w9 = wr.setCell ⟨w.heap.size, k, none⟩ (.int .i64 v) → Hid (w9.rowIs w.heap.size 65 7 (fun j => .int .i64 (if j < k + 1 then ct (s j) else s j))) ∧ Hid (w9.rowIs (w.heap.size + 1) 65 7 (fun _ => .int .i64 0)) ∧ Hid (Below w.heap.size w w9) := by
        rintro v rfl w9 rfl
        refine ⟨(HR.out.set k _).congr (fun j _ => ?_), HS.out.setOther (by simp) _, HB.out.setCell (Nat.le_refl _) _⟩
        by_cases e : j = k
        · subst e; simp
        · rw [if_neg e]
          by_cases e2 : j < k
          · rw [if_pos e2, if_pos (by omega)]
          · rw [if_neg e2, if_neg (by omega)]
      have KEY := hidd key
      clear key
      rw [if_neg (Nat.lt_irrefl k)] at hc
      have hct : ct (s k) = min (max (s k) 0) 24 := rfl
      generalize s k = x at *
      by_cases c1 : x < 0
      · go_wp2
        go_roundw
        case rel => exact ⟨k + 1, by omega, by go_num, KEY.out 0 (by rw [hct]; omega) _ rfl⟩
        case measure => simp [intOf]; omega
      · by_cases c2 : 24 < x
        · have e0 : ¬ (x ≤ 24) := by omega
          go_wp2
          go_roundw
          case rel => exact ⟨k + 1, by omega, by go_num, KEY.out 24 (by rw [hct]; omega) _ rfl⟩
          case measure => simp [intOf]; omega
        · have e0 : 0 ≤ x := by omega
          have e1 : x ≤ 24 := by omega
          go_wp2
          go_roundw
          case rel => exact ⟨k + 1, by omega, by go_num, KEY.out x (by rw [hct]; omega) _ rfl⟩
          case measure => simp [intOf]; omega
    · have e7 : k = 7 := by omega
      subst e7
      have RG' := sh7_range (fun j => ct (s j)) HR.out (fun j hj => by rw [if_pos hj])
      have HT' : wr.there (w.heap.size + 1) 0 (sh7 fun j => ct (s j)).size := row_there HS.out
      have H1' := sh7_one (fun j => ct (s j))
      have S7' := size7 (fun j => ct (s j))
      obtain ⟨tc, htc⟩ : ∃ tc, tc = sh7 (fun j => ct (s j)) := ⟨_, rfl⟩
      rw [← htc] at RG' HT' H1' S7'
      have SL' : (Try.prog.info? 65).map (·.size) = some tc.toList.length := by rw [S7', Array.length_toList]
      have TL' : wr.there (w.heap.size + 1) 0 tc.toList.length := by rw [Array.length_toList]; exact HT'
      have RG := hidd RG'
      have HT := hidd HT'
      have H1 := hidd H1'
      have S7 := hidd S7'
      have SL := hidd SL'
      have TL := hidd TL'
      have HTC := hidd htc
      clear RG' HT' H1' S7' SL' TL' htc
      go_wp2_with (refine wpList_load_mid rfl 65 _ rfl w.heap.size 0 rfl tc.toList _ RG.out Try.underlying65 rfl SL.out (wpList_store_mid rfl 65 _ _ rfl (w.heap.size + 1) 0 tc rfl rfl HT.out S7.out H1.out ?_))
      refine bodyPost_ret (v := .agg tc) ?_ ?_ ?_
      · exact results_cell_mid Try.results100 _ _ (w.heap.size + 1) tc.toList _ rfl (World.rangeAt_setCells_same wr (w.heap.size + 1) 0 tc.toList TL.out) Try.underlying65 rfl SL.out
      · rfl
      · exact ⟨by rw [HTC.out], fresh_setCells (w.heap.size + 1) (by omega) _ 0 wr HB.out⟩
end Go.Proofs.Ytilghknalbhacaa
