import Derived.Test.YtaalinlggjimcaaXD
namespace Go.Proofs.Ytaalinlggjimcaa
open Go.RowKit
/-! Len, areInUse, areNobodys. -/
theorem ownF_cases (L : List Nd) (i : Nat) : (∃ x ∈ L, x.blk = i ∧ ownF L i = x.ptr) ∨ ((∀ x ∈ L, x.blk ≠ i) ∧ ownF L i = nilP) := by
  unfold ownF
  cases h : L.find? (fun x => x.blk == i) with
  | none =>
    refine .inr ⟨fun x hx e => ?_, rfl⟩
    have := List.find?_eq_none.1 h x hx
    simp [e] at this
  | some x => exact .inl ⟨x, List.mem_of_find?_eq_some h, by simpa using List.find?_some h, rfl⟩
def below (L : List Nd) (k : Nat) : Nat := (L.filter (fun x => decide (x.blk < k))).length
theorem below_no (k : Nat) : ∀ (L : List Nd), (∀ x ∈ L, x.blk ≠ k) → below L (k + 1) = below L k
  | [], _ => rfl
  | x :: r, h => by
    have h1 := h x (by simp)
    have ih := below_no k r (fun y hy => h y (by simp [hy]))
    unfold below at *
    by_cases e : x.blk < k
    · rw [List.filter_cons_of_pos (by simp; omega), List.filter_cons_of_pos (by simp; omega)]; simp [ih]
    · rw [List.filter_cons_of_neg (by simp; omega), List.filter_cons_of_neg (by simp; omega)]; exact ih
theorem below_yes (k : Nat) : ∀ (L : List Nd), L.Nodup → (∀ x ∈ L, ∀ y ∈ L, x.blk = y.blk → x = y) → (∃ x ∈ L, x.blk = k) → below L (k + 1) = below L k + 1
  | [], _, _, h => by obtain ⟨x, hx, _⟩ := h; cases hx
  | x :: r, hn, hd, h => by
    obtain ⟨n1, n2⟩ := List.nodup_cons.1 hn
    by_cases e : x.blk = k
    · have hno : ∀ y ∈ r, y.blk ≠ k := fun y hy ey => by
        have := hd x (by simp) y (by simp [hy]) (e.trans ey.symm)
        subst this
        exact n1 hy
      have := below_no k r hno
      unfold below at *
      rw [List.filter_cons_of_pos (by simp; omega), List.filter_cons_of_neg (by simp; omega)]
      simp [this]
    · obtain ⟨y, hy, ey⟩ := h
      have hy' : y ∈ r := by
        rcases List.mem_cons.1 hy with rfl | hy
        · exact absurd ey e
        · exact hy
      have ih := below_yes k r n2 (fun a ha b hb => hd a (by simp [ha]) b (by simp [hb])) ⟨y, hy', ey⟩
      unfold below at *
      by_cases e2 : x.blk < k
      · rw [List.filter_cons_of_pos (by simp; omega), List.filter_cons_of_pos (by simp; omega)]; simp [ih]
      · rw [List.filter_cons_of_neg (by simp; omega), List.filter_cons_of_neg (by simp; omega)]; exact ih
theorem below_zero (L : List Nd) : below L 0 = 0 := by unfold below; simp
theorem below_le (L : List Nd) (k : Nat) : below L k ≤ L.length := List.length_filter_le _ _
theorem Well.all {c : Ca} {L : List Nd} {N : Nat} (h : Well c L N) : below L c.B = L.length := by
  unfold below
  rw [List.filter_eq_self.2 (fun x hx => by simpa using h.blk x hx)]
set_option maxRecDepth 20000 in
set_option maxHeartbeats 1600000 in
theorem len_any {w : World} {c : Ca} {A : Nat → Prop} {L : List Nd} {N : Nat} (h : CacheAt w c A L N) :
    Calls Try.prog 14 #[.pointer (some ⟨c.C, 0, none⟩)] w fun e w' => e = .returned (.int .i64 (L.length : Nat)) ∧ w' = w := by
  obtain ⟨_, _, _, _, _, c24, _⟩ := h.cells
  have hB := h.well.hB
  have hlen := h.well.len
  have HO := hidd (fun i hi => h.own.cell (i := i) hi)
  have HW := hidd h.well
  clear h
  obtain ⟨hB1, hB2⟩ := hB
  go_enter Try.func14, Try.ntmps14
  go_wp2
  go_loopw [3, 13] (fun v i wr => ∃ k : Nat, k ≤ c.B ∧ i = .int .i64 k ∧ v = .int .i64 (below L k : Nat) ∧ wr = w) (fun _ i _ => c.B - (intOf i).toNat)
  case atStart => exact ⟨0, by omega, rfl, by rw [below_zero]; rfl, rfl⟩
  case round =>
    obtain ⟨k, hk, rfl, rfl, rfl⟩ := hrel
    have hle := below_le L k
    by_cases hlt : k < c.B
    · have d := HO.out k hlt
      rcases ownF_cases L k with ⟨x, hx, hb, e⟩ | ⟨hno, e⟩
      · have hs := hidd (below_yes k L HW.out.nodup HW.out.dblk ⟨x, hx, hb⟩)
        rw [e] at d
        unfold Nd.ptr at d
        clear hx hb e
        go_wp2
        go_roundw
        case rel => exact ⟨k + 1, by omega, by go_num, by rw [hs.out]; go_num, trivial⟩
        case measure => simp [intOf]; omega
      · have hs := hidd (below_no k L hno)
        rw [e] at d
        unfold nilP at d
        clear hno e
        go_wp2
        go_roundw
        case rel => exact ⟨k + 1, by omega, by go_num, by rw [hs.out], trivial⟩
        case measure => simp [intOf]; omega
    · obtain rfl : k = c.B := by omega
      go_wp2
      go_ret
      exact ⟨ret_int (by rw [HW.out.all]), rfl⟩
set_option maxRecDepth 20000 in
set_option maxHeartbeats 1600000 in
theorem areInUse_any {w : World} {c : Ca} {A : Nat → Prop} {L : List Nd} {N : Nat} (h : CacheAt w c A L N) {cb nb Y W B S : Nat} {cnt : Nat → Nat} {num : Nat → Int} (hp : PoolAt w c.pg cb nb Y W B S cnt num) {bo : Option Addr} {m cap : Nat} {g : Nat → Int} (hg : RdA w bo 1 m cap (fun i => .int .i64 (g i))) :
    Calls Try.prog 39 #[.pointer (some ⟨c.C, 0, none⟩), .slice bo m cap] w fun e w' => (∃ r, e = .returned (.bool r) ∧ (r = true ↔ ∀ i, i < m → cntI cnt B (g i) ≠ 0)) ∧ w' = w := by
  obtain ⟨c0, _⟩ := h.cells
  have hm : m ≤ 9223372036854775807 := by have := hg.le; have := hg.top; unfold maxLen at this; omega
  have HC := hidd (fun k => count_any hp k)
  clear h hp
  go_enter Try.func39, Try.ntmps39
  go_wp2
  go_loopw [9] (fun i wr => ∃ k : Nat, k ≤ m ∧ i = .int .i64 k ∧ Hid (∀ j, j < k → cntI cnt B (g j) ≠ 0) ∧ wr = w) (fun i _ => m - (intOf i).toNat)
  case atStart => exact ⟨0, by omega, rfl, fun j hj => absurd hj (by omega), rfl⟩
  case round =>
    obtain ⟨k, hk, rfl, hn, rfl⟩ := hrel
    by_cases hlt : k < m
    · obtain ⟨b2, o2, rfl, h2⟩ := hg.one (by omega)
      have d := h2 k hlt
      clear h2
      by_cases h0 : cntI cnt B (g k) = 0
      · have HK := HC.out (g k)
        have H0 := hidd h0
        rw [h0] at HK
        clear h0
        go_wp2_with (go_at_call 23; refine HK.mono ?_; rintro e w9 ⟨rfl, h9⟩; rw [h9]; clear h9)
        go_ret
        exact ⟨⟨false, rfl, by simp; exact ⟨k, hlt, H0.out⟩⟩, rfl⟩
      · have HK := HC.out (g k)
        have H0 := hidd h0
        have hb : (((cntI cnt B (g k) : Nat) : Int) == 0) = false := by simp [h0]
        clear h0
        generalize hq : cntI cnt B (g k) = q at HK hb
        have HQ := hidd hq
        clear hq
        go_wp2_with (go_at_call 23; refine HK.mono ?_; rintro e w9 ⟨rfl, h9⟩; rw [h9]; clear h9)
        go_roundw
        case rel => exact ⟨k + 1, by omega, by go_num, fun j hj => (if e : j = k then e ▸ H0.out else hn.out j (by omega)), trivial⟩
        case measure => simp [intOf]; omega
    · obtain rfl : k = m := by omega
      go_wp2
      go_ret
      exact ⟨⟨true, rfl, by simpa using hn.out⟩, rfl⟩
theorem infoBo : (Try.prog.info? 4).map (fun i => (i.zero, i.size, i.bytes)) = some (some (.bool false), 1, 1) := by kernel_rfl
/-- no block of a known one, none twice -/
def Nobodys (L : List Nd) (g : Nat → Nat) (m : Nat) : Prop := (∀ i, i < m → ∀ x ∈ L, x.blk ≠ g i) ∧ ∀ i j, i < j → j < m → g i ≠ g j
set_option maxRecDepth 20000 in
set_option maxHeartbeats 1600000 in
theorem areNobodys_any {w : World} {c : Ca} {A : Nat → Prop} {L : List Nd} {N : Nat} (h : CacheAt w c A L N) {bo : Option Addr} {m cap : Nat} {g : Nat → Nat} (hg : RdA w bo 1 m cap (fun i => .int .i64 (g i))) (hr : ∀ i, i < m → g i < c.B) :
    Calls Try.prog 40 #[.pointer (some ⟨c.C, 0, none⟩), .slice bo m cap] w fun e w' => (∃ r, e = .returned (.bool r) ∧ (r = true ↔ Nobodys L g m)) ∧ Below w.heap.size w w' := by
  obtain ⟨_, _, _, _, _, c24, _⟩ := h.cells
  obtain ⟨hB1, hB2⟩ := h.well.hB
  have hm : m ≤ 9223372036854775807 := by have := hg.le; have := hg.top; unfold maxLen at this; omega
  obtain ⟨iB, hiB, zB0, zB1, zB2⟩ := info_parts infoBo
  have hmk : ∀ w, (Instr.makeSlice 108 (.int .i64 (c.B : Int)) (.int .i64 (c.B : Int))).run Try.prog w = .ok (.slice (some ⟨w.heap.size, 0, none⟩) c.B c.B) (w.alloc (.cells (madeCells #[.bool false] c.B) 4)) := run_make_row 108 4 iB (.bool false) Try.underlying108 hiB zB0 zB1 rfl .i64 .i64 c.B (by rw [zB2]; omega) (by omega)
  clear hiB zB0 zB1 zB2
  have R0 := World.rowIs_made w (.bool false) c.B 4
  have f0 := fresh_alloc w (.cells (madeCells #[.bool false] c.B) 4)
  have HO := hidd (fun i hi => h.own.cell (i := i) hi)
  have C24 := hidd c24
  have HR := hidd hr
  clear h hr
  go_enter Try.func40, Try.ntmps40
  go_wp2
  clear hmk c24
  go_loopw [16] (fun i wr => ∃ (k : Nat) (F : Nat → Bool), k ≤ m ∧ i = .int .i64 k ∧ wr.rowIs w.heap.size 4 c.B (fun i => .bool (F i)) ∧ Hid (∀ b, F b = true ↔ ∃ j, j < k ∧ g j = b) ∧ Hid (Nobodys L g k) ∧ Below w.heap.size w wr) (fun i _ => m - (intOf i).toNat)
  case atStart => exact ⟨0, fun _ => false, by omega, rfl, R0, fun b => ⟨fun e => (by cases e), fun ⟨j, hj, _⟩ => absurd hj (by omega)⟩, ⟨fun i hi => absurd hi (by omega), fun i j _ hj => absurd hj (by omega)⟩, f0⟩
  case round =>
    clear R0 f0
    obtain ⟨k, F, hk, rfl, hrow, HF, HN, hf⟩ := hrel
    have c24 := fresh_cell hf C24.out
    by_cases hlt : k < m
    · obtain ⟨b2, o2, rfl, h2⟩ := (hg.fresh hf).one (by omega)
      have d := h2 k hlt
      have hgk := HR.out k hlt
      have d2 := fresh_cell hf (HO.out (g k) hgk)
      have d3 := hrow.cell (i := g k) hgk
      have f3 := hrow.frozen
      clear h2
      rcases ownF_cases L (g k) with ⟨x, hx, hb, e⟩ | ⟨hno, e⟩
      · have HX : Hid (¬ Nobodys L g m) := fun hN => hN.1 k hlt x hx hb
        rw [e] at d2
        unfold Nd.ptr at d2
        clear hx hb e
        go_wp2
        go_ret
        exact ⟨⟨false, rfl, by simpa using HX.out⟩, hf⟩
      · rw [e] at d2
        unfold nilP at d2
        have HNO := hidd hno
        clear hno e
        cases hFk : F (g k) with
        | true =>
          have HX : Hid (¬ Nobodys L g m) := fun hN => by
            obtain ⟨j, hj, ej⟩ := (HF.out (g k)).1 hFk
            exact hN.2 j k hj hlt ej
          rw [hFk] at d3
          clear hFk
          go_wp2
          go_ret
          exact ⟨⟨false, rfl, by simpa using HX.out⟩, hf⟩
        | false =>
          have HFk := hidd hFk
          rw [hFk] at d3
          clear hFk
          go_wp2
          go_roundw
          case rel =>
            refine ⟨k + 1, fun i => if i = g k then true else F i, by omega, by go_num, (hrow.set (g k) (.bool true)).congr (fun i _ => by by_cases e : i = g k <;> simp [e]), fun b => ?_, ⟨fun i hi x hx => ?_, fun i j hij hj => ?_⟩, hf.setCell (by simp) _⟩
            · by_cases e : b = g k
              · simp only [e, if_true, true_iff]
                exact ⟨k, by omega, rfl⟩
              · simp only [e, if_false]
                rw [HF.out b]
                constructor
                · rintro ⟨j, hj, ej⟩
                  exact ⟨j, by omega, ej⟩
                · rintro ⟨j, hj, ej⟩
                  refine ⟨j, ?_, ej⟩
                  by_cases e2 : j = k
                  · subst e2; exact absurd ej.symm e
                  · omega
            · by_cases e : i = k
              · subst e; exact HNO.out x hx
              · exact HN.out.1 i (by omega) x hx
            · by_cases e : j = k
              · subst e
                intro e2
                have := (HF.out (g j)).2 ⟨i, hij, e2⟩
                rw [HFk.out] at this
                cases this
              · exact HN.out.2 i j hij (by omega)
          case measure => simp [intOf]; omega
    · obtain rfl : k = m := by omega
      go_wp2
      go_ret
      exact ⟨⟨true, rfl, by simpa using HN.out⟩, hf⟩
end Go.Proofs.Ytaalinlggjimcaa
