import Derived.Test.YteiocgciblogdabVDec
namespace Go.Proofs.Yteiocgciblogdab
open Go.RowKit
/-! join. -/
def joinL (p q t : Int) : List Int → List Int
  | [] => []
  | [x] => [x]
  | x :: y :: r => if x = p ∧ y = q then t :: joinL p q t r else x :: joinL p q t (y :: r)
theorem drop_one {l : List Int} {i : Nat} (h : i < l.length) : l.drop i = l.getD i 0 :: l.drop (i + 1) := by
  rw [List.drop_eq_getElem_cons h]
  simp [List.getD_eq_getElem?_getD, h]
theorem joinL_hit {p q t : Int} {l : List Int} {i : Nat} (h : i + 1 < l.length) (e : l.getD i 0 = p ∧ l.getD (i + 1) 0 = q) : joinL p q t (l.drop i) = t :: joinL p q t (l.drop (i + 1 + 1)) := by
  rw [drop_one (show i < l.length by omega), drop_one h, joinL, if_pos e]
theorem joinL_miss {p q t : Int} {l : List Int} {i : Nat} (h : i < l.length) (e : i + 1 < l.length → ¬ (l.getD i 0 = p ∧ l.getD (i + 1) 0 = q)) : joinL p q t (l.drop i) = l.getD i 0 :: joinL p q t (l.drop (i + 1)) := by
  by_cases h1 : i + 1 < l.length
  · rw [drop_one h, drop_one h1, joinL, if_neg (e h1)]
  · rw [drop_one h, List.drop_eq_nil_of_le (show l.length ≤ i + 1 by omega), joinL, joinL]
theorem joinL_len (p q t : Int) : ∀ (l : List Int), (joinL p q t l).length ≤ l.length
  | [] => by simp [joinL]
  | [x] => by simp [joinL]
  | x :: y :: r => by
    rw [joinL]
    split
    · have := joinL_len p q t r
      simp; omega
    · have := joinL_len p q t (y :: r)
      simp at *; omega
/-- what the loop of join has made so far -/
structure JoinR (w wr : World) (g cap : Nat) (l : List Int) (p q t : Int) (i m : Nat) (o : List Int) (F : Nat → Value) : Prop where
  row : wr.rowIs g 3 cap F
  out : ∀ j, j < m → F j = .int .i64 (o.getD j 0)
  rest : ∀ j, i ≤ j → j < l.length → F j = .int .i64 (l.getD j 0)
  len : o.length = m
  le : m ≤ i
  ile : i ≤ l.length
  eq : o ++ joinL p q t (l.drop i) = joinL p q t l
  low : Below g w wr
theorem JoinR.next {w wr wr' : World} {g cap : Nat} {l : List Int} {p q t : Int} {i m : Nat} {o : List Int} {F : Nat → Value} (h : JoinR w wr g cap l p q t i m o F) (hf : Below wr.heap.size wr wr') (x : Int) (i' : Nat) (hi : i < i') (hle : i' ≤ l.length) (he : joinL p q t (l.drop i) = x :: joinL p q t (l.drop i')) :
    JoinR w (wr'.setCell ⟨g, m, none⟩ (.int .i64 x)) g cap l p q t i' (m + 1) (o ++ [x]) (fun j => if j = m then .int .i64 x else F j) := by
  refine ⟨(h.row.of_block (hf.block _ h.row.lt)).set m _, fun j hj => ?_, fun j h1 h2 => ?_, by simp [h.len], by have := h.le; omega, hle, ?_, ((h.low.trans (hf.mono (Nat.le_of_lt h.row.lt)))).setCell (Nat.le_refl _) _⟩
  · by_cases e : j = m
    · rw [if_pos e, e, ← h.len]; simp [List.getD_eq_getElem?_getD]
    · rw [if_neg e, h.out j (by omega), getD_app_lo (by rw [h.len]; omega)]
  · rw [if_neg (by have := h.le; omega), h.rest j (by omega) h2]
  · rw [← h.eq, he]; simp
theorem row_put2 {w : World} {b n : Nat} {t : TypeId} {F : Nat → Value} (h : w.rowIs b t n F) (k : Nat) (o : Obj) : ((w.drewN k).alloc o).rowIs b t n F := (h.of_block ((fresh_drewN w k).block _ h.lt)).alloc o
theorem run_append_in {P : Program} (w : World) (t ty e : TypeId) (ht : P.underlying t = some (.slice e)) {i : TypeInfo} (hi : P.info? e = some i) (hsz : i.size = 1) (g m cap h c : Nat) (x : Value) (hx : w.cell? ⟨h, 0, none⟩ = some x) (h1 : x.oneCell' = true) {F : Nat → Value} (hrow : w.rowIs g e cap F) (hm : m + 1 ≤ cap) :
    (Builtin.append_ #[t, t] ty #[.slice (some ⟨g, 0, none⟩) m cap, .slice (some ⟨h, 0, none⟩) 1 c]).run P w = .ok (.slice (some ⟨g, 0, none⟩) (m + 1) cap) (w.setCell ⟨g, m, none⟩ x) := by
  have hF : (Builtin.firstCells 1 1 (.slice (some ⟨h, 0, none⟩) 1 c)).run P w = .ok #[x] w := by
    have := run_firstCells_some (P := P) w 1 1 ⟨h, 0, none⟩ 1 c [x] rfl (fun j v hj => by
      match j, hj with
      | 0, hj => simp at hj; subst hj; rw [add_lit0]; exact hx)
    simpa using this
  have hs : (storeCells ⟨g, m, none⟩ [x] 0).run P w = .ok () (w.setCell ⟨g, m, none⟩ x) := by
    have ha : (⟨g, m, none⟩ : Addr).add 0 = ⟨g, m, none⟩ := by unfold Addr.add; simp
    simp [storeCells, ha, run_store P w ⟨g, m, none⟩ x _ h1, hrow.cell (i := m) (by omega), hrow.frozen m]
  have ha : (⟨g, 0, none⟩ : Addr).add m = ⟨g, m, none⟩ := add_lit0 g m
  simp [Builtin.append_, run_underlying ht, sizeOf, typeInfo, hi, hsz, Builtin.lenOf, hm, hF, ha, hs]
set_option maxRecDepth 20000 in
set_option maxHeartbeats 4000000 in
theorem join_any {w : World} {g cap : Nat} {l : List Int} {F0 : Nat → Value} (p q t : Int) (hrow : w.rowIs g 3 cap F0) (hF0 : ∀ j, j < l.length → F0 j = .int .i64 (l.getD j 0)) (hlen : l.length ≤ cap) (hcap : cap ≤ 1073741824) :
    Calls Try.prog 24 #[.slice (some ⟨g, 0, none⟩) l.length cap, .agg #[.int .i64 p, .int .i64 q], .int .i64 t] w fun e w' => ∃ F, e = .returned (.slice (some ⟨g, 0, none⟩) (joinL p q t l).length cap) ∧ w'.rowIs g 3 cap F ∧ (∀ j, j < (joinL p q t l).length → F j = .int .i64 ((joinL p q t l).getD j 0)) ∧ Below g w w' := by
  have hf0 := fresh_alloc w (.cells #[.int .i64 p, .int .i64 q] 48)
  have hJ0 : JoinR w (w.alloc (.cells #[.int .i64 p, .int .i64 q] 48)) g cap l p q t 0 0 [] F0 := ⟨hrow.alloc _, fun j hj => absurd hj (by omega), fun j _ h => hF0 j h, rfl, Nat.le_refl _, Nat.zero_le _, by simp, hf0.mono (Nat.le_of_lt hrow.lt)⟩
  have k0 := row2_new w 48 (.int .i64 p) (.int .i64 q)
  have hgw : g < w.heap.size := hrow.lt
  have hB1 : (w.alloc (.cells #[.int .i64 p, .int .i64 q] 48)).heap.size = w.heap.size + 1 := by simp
  clear hrow hF0 hf0
  obtain ⟨n, en⟩ : ∃ n, n = l.length := ⟨_, rfl⟩
  have EN := hidd en
  rw [← en] at hlen
  rw [← en]
  clear en
  have i0 : (0 : Int) ≤ (cap : Int) := Int.natCast_nonneg _
  obtain ⟨i9, hi9, _, hs9, _⟩ := info_parts infoI
  have HI := hidd hi9
  have HSZ := hidd hs9
  clear hi9 hs9
  go_enter Try.func24, Try.ntmps24
  go_wp2
  generalize w.alloc (.cells #[.int .i64 p, .int .i64 q] 48) = w1 at *
  go_loopw [7, 8] (fun v iv wr => ∃ (i m : Nat) (o : List Int) (F : Nat → Value), v = .slice (some ⟨g, 0, none⟩) m cap ∧ iv = .int .i64 i ∧ JoinR w wr g cap l p q t i m o F ∧ wr.rowIs w.heap.size 48 2 (two (.int .i64 p) (.int .i64 q))) (fun _ iv _ => n - (intOf iv).toNat)
  case atStart => exact ⟨0, 0, [], F0, rfl, rfl, hJ0, k0⟩
  case round =>
    clear hJ0 k0
    obtain ⟨i, m, o, F, rfl, rfl, hJ, hk⟩ := hrel
    have HJ := hidd hJ
    have hle := hJ.le
    have hile : i ≤ n := by rw [EN.out]; exact hJ.ile
    obtain ⟨y0, y1⟩ := row2 hk
    have hJR := hJ.row
    have fa := hJ.row.frozen
    by_cases hlt : i < n
    · have ci : wr.cell? ⟨g, i, none⟩ = some (.int .i64 (l.getD i 0)) := by rw [hJ.row.cell (i := i) (by omega), hJ.rest i (Nat.le_refl _) (by rw [← EN.out]; exact hlt)]
      have j1 : (0 : Int) ≤ (i : Int) := Int.natCast_nonneg _
      have j2 : (i : Int) < (n : Int) := by omega
      by_cases hlt2 : i + 1 < n
      · have cj : wr.cell? ⟨g, i + 1, none⟩ = some (.int .i64 (l.getD (i + 1) 0)) := by rw [hJ.row.cell (i := i + 1) (by omega), hJ.rest (i + 1) (by omega) (by rw [← EN.out]; exact hlt2)]
        by_cases hit : l.getD i 0 = p ∧ l.getD (i + 1) 0 = q
        · have HE := hidd (joinL_hit (t := t) (show i + 1 < l.length by rw [← EN.out]; exact hlt2) hit)
          rw [hit.1] at ci
          rw [hit.2] at cj
          have hq := eqP_true p q
          clear hit hJ
          have hd : decide ((i : Int) + 1 < (n : Int)) = true := decide_eq_true (by omega)
          have hm1 : m + 1 ≤ cap := by omega
          go_wp2
          go_quiet (fail)
          go_wp2_with (at_builtin; refine Lib.wpList_append_run _ rfl _ _ _ _ rfl _ _ rfl rfl _ _ (run_append_in _ 28 _ 3 Try.underlying28 HI.out HSZ.out g m cap _ 1 (.int .i64 t) (new_cell _ _ _) rfl (row_put2 hJR _ _) hm1) ?_)
          go_roundw
          case rel => exact ⟨i + 1 + 1, m + 1, _, _, rfl, by go_num, HJ.out.next (fresh_trans (fresh_drewN _ _) (fresh_alloc _ _)) t (i + 1 + 1) (by omega) (by rw [← EN.out]; omega) HE.out, (row_put2 hk _ _).setOther (by dsimp only; omega) _⟩
          case measure => simp [intOf]; omega
        · have HE := hidd (joinL_miss (t := t) (show i < l.length by rw [← EN.out]; exact hlt) (fun _ => hit))
          have hq := eqP_false hit
          generalize l.getD i 0 = X at *
          generalize l.getD (i + 1) 0 = Y at *
          have hd : decide ((i : Int) + 1 < (n : Int)) = true := decide_eq_true (by omega)
          have hm1 : m + 1 ≤ cap := by omega
          clear hit hJ
          go_wp2
          go_quiet (fail)
          go_wp2_with (at_builtin; refine Lib.wpList_append_run _ rfl _ _ _ _ rfl _ _ rfl rfl _ _ (run_append_in _ 28 _ 3 Try.underlying28 HI.out HSZ.out g m cap _ 1 (.int .i64 X) (new_cell _ _ _) rfl (row_put2 hJR _ _) hm1) ?_)
          go_roundw
          case rel => exact ⟨i + 1, m + 1, _, _, rfl, by go_num, HJ.out.next (fresh_trans (fresh_drewN _ _) (fresh_alloc _ _)) X (i + 1) (by omega) (by rw [← EN.out]; omega) HE.out, (row_put2 hk _ _).setOther (by dsimp only; omega) _⟩
          case measure => simp [intOf]; omega
      · have HE := hidd (joinL_miss (p := p) (q := q) (t := t) (show i < l.length by rw [← EN.out]; exact hlt) (fun h => absurd h (by rw [← EN.out]; exact hlt2)))
        generalize l.getD i 0 = X at *
        have hd : decide ((i : Int) + 1 < (n : Int)) = false := decide_eq_false (by omega)
        have hm1 : m + 1 ≤ cap := by omega
        clear hJ
        go_wp2
        go_quiet (fail)
        go_wp2_with (at_builtin; refine Lib.wpList_append_run _ rfl _ _ _ _ rfl _ _ rfl rfl _ _ (run_append_in _ 28 _ 3 Try.underlying28 HI.out HSZ.out g m cap _ 1 (.int .i64 X) (new_cell _ _ _) rfl (row_put2 hJR _ _) hm1) ?_)
        go_roundw
        case rel => exact ⟨i + 1, m + 1, _, _, rfl, by go_num, HJ.out.next (fresh_trans (fresh_drewN _ _) (fresh_alloc _ _)) X (i + 1) (by omega) (by rw [← EN.out]; omega) HE.out, (row_put2 hk _ _).setOther (by dsimp only; omega) _⟩
        case measure => simp [intOf]; omega
    · have HE : Hid (o = joinL p q t l) := by
        have := hJ.eq
        rw [List.drop_eq_nil_of_le (by rw [← EN.out]; omega)] at this
        show _ = _
        rw [← this]; simp [joinL]
      clear hJ
      go_wp2
      go_ret
      have hJ := HJ.out
      refine ⟨F, ?_, hJ.row, ?_, hJ.low⟩
      · rw [← HE.out, hJ.len]; rfl
      · rw [← HE.out, hJ.len]; exact hJ.out
end Go.Proofs.Yteiocgciblogdab
