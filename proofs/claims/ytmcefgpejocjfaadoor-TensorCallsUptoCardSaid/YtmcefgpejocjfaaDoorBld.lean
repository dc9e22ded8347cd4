import Derived.Test.YtmcefgpejocjfaaDoorNrm
namespace Go.Proofs.YtmcefgpejocjfaaDoor
open Go.RowKit
/-! Min, blendable, Blend. -/
/-- A list of lists of narrow numbers. -/
structure Vs (w : World) (ao : Option Addr) (n cap : Nat) (A : Nat → Option Addr) (L K : Nat → Nat) (X : Nat → Nat → Int) : Prop where
  top : RdA w ao 1 n cap (fun i => .slice (A i) (L i) (K i))
  row : ∀ i, i < n → RdA w (A i) 1 (L i) (K i) (fun j => .int .i8 (X i j))
theorem Vs.fresh {w w' : World} {ao : Option Addr} {n cap : Nat} {A : Nat → Option Addr} {L K : Nat → Nat} {X : Nat → Nat → Int} (h : Vs w ao n cap A L K X) (f : Below w.heap.size w w') : Vs w' ao n cap A L K X :=
  ⟨h.top.fresh f, fun i hi => (h.row i hi).fresh f⟩
/-- the least of a list -/
def imin (f : Nat → Int) : Nat → Int
  | 0 => f 0
  | n + 1 => min (imin f n) (f (n + 1))
theorem imin_le {f : Nat → Int} : ∀ {n i : Nat}, i ≤ n → imin f n ≤ f i
  | 0, i, h => by obtain rfl : i = 0 := by omega
                  exact Int.le_refl _
  | n + 1, i, h => by
    show min (imin f n) (f (n + 1)) ≤ f i
    by_cases e : i = n + 1
    · rw [e]; exact Int.min_le_right _ _
    · exact Int.le_trans (Int.min_le_left _ _) (imin_le (by omega))
theorem imin_ex {f : Nat → Int} : ∀ n : Nat, ∃ i, i ≤ n ∧ imin f n = f i
  | 0 => ⟨0, by omega, rfl⟩
  | n + 1 => by
    obtain ⟨i, hi, e⟩ := imin_ex (f := f) n
    by_cases h : imin f n ≤ f (n + 1)
    · exact ⟨i, by omega, by show min _ _ = _; rw [Int.min_eq_left h, e]⟩
    · exact ⟨n + 1, by omega, by show min _ _ = _; rw [Int.min_eq_right (by omega)]⟩
theorem imin_step (f : Nat → Int) (k : Nat) : (if f (k + 1) < imin f k then f (k + 1) else imin f k) = imin f (k + 1) := by
  show _ = min (imin f k) (f (k + 1))
  split
  · rw [Int.min_eq_right (by omega)]
  · rw [Int.min_eq_left (by omega)]
set_option maxHeartbeats 1000000 in
theorem min_any {w : World} {ao : Option Addr} {n ca : Nat} {f : Nat → Int} (ha : RdA w ao 1 (n + 1) ca (fun i => .int .i64 (f i))) :
    Calls Tryd.prog 81 #[.slice ao (n + 1) ca] w fun e w' => e = .returned (.int .i64 (imin f n)) ∧ w' = w := by
  have hn : n + 1 ≤ 9223372036854775807 := by have := ha.le; have := ha.top; unfold maxLen at this; omega
  obtain ⟨b1, o1, rfl, h1⟩ := ha.one (by omega)
  have c0 := h1 0 (by omega)
  simp only [Nat.add_zero] at c0
  have HH := hidd h1
  clear h1
  generalize hN : n + 1 = N at *
  have hN0 : ¬ (N : Int) < 1 := by omega
  have HN := hidd hN
  clear hN
  go_enter Tryd.func81, Tryd.ntmps81
  go_wp2
  clear c0
  go_loop [3, 4] (fun m i => ∃ k : Nat, k + 1 ≤ N ∧ i = .int .i64 ((k : Int) + 1) ∧ m = .int .i64 (imin f k)) (fun _ i => N - (intOf i).toNat)
  case atStart => exact ⟨0, by omega, rfl, rfl⟩
  case round =>
    obtain ⟨k, hk, rfl, rfl⟩ := hrel
    by_cases hlt : k + 1 < N
    · have c1 := HH.out (k + 1) hlt
      go_wp2
      go_round
      case rel => exact ⟨k + 1, by omega, by go_num, by rw [imin_step]⟩
      case measure => simp [intOf]; omega
    · go_wp2
      go_ret
      exact ⟨ret_int (by have := HN.out; rw [show k = n by omega]), rfl⟩
/-- The vectors are blended: one for each weight, all as long as the first. -/
structure Fit (f : Nat → Int) (n : Nat) (L : Nat → Nat) : Prop where
  pos : 0 < n
  len : ∀ i, i < n → L i = L 0
  low : ∀ i, i < n → 0 ≤ f i
  sum : 1 ≤ tot f n
set_option maxHeartbeats 1000000 in
theorem blendable_ok {w : World} {ao vo : Option Addr} {n ca cv : Nat} {f : Nat → Int} {A : Nat → Option Addr} {L K : Nat → Nat} {X : Nat → Nat → Int} (ha : RdA w ao 1 n ca (fun i => .int .i64 (f i))) (hv : Vs w vo n cv A L K X) (h : Fit f n L) :
    Calls Tryd.prog 65 #[.slice ao n ca, .slice vo n cv] w fun e w' => e = .returned (.bool true) ∧ w' = w := by
  have hn : n ≤ 9223372036854775807 := by have := ha.le; have := ha.top; unfold maxLen at this; omega
  obtain ⟨h0, hL, hlow, hsum⟩ := h
  obtain ⟨m, rfl⟩ : ∃ m, n = m + 1 := ⟨n - 1, by omega⟩
  have hmin : Hid (0 ≤ imin f m) := by
    obtain ⟨i, hi, e⟩ := imin_ex (f := f) m
    show 0 ≤ imin f m
    rw [e]; exact hlow i (by omega)
  have qm := min_any ha
  have qt := total_any ha
  generalize hN : m + 1 = N at *
  obtain ⟨b1, o1, rfl, h1⟩ := hv.top.one (by omega)
  have k0 := h1 0 (by omega)
  simp only [Nat.add_zero] at k0
  have HH := hidd h1
  have HL := hidd hL
  have hz : ((N : Int) == 0) = false := by simp; omega
  have hne : ((N : Int) != (N : Int)) = false := by simp
  clear h1 hN hL hlow
  go_enter Tryd.func65, Tryd.ntmps65
  go_wp2
  clear hz hne
  go_loop [19] (fun i => ∃ k : Nat, k ≤ N ∧ i = .int .i64 k) (fun i => N - (intOf i).toNat)
  case atStart => exact ⟨0, by omega, rfl⟩
  case round =>
    obtain ⟨k, hk, rfl⟩ := hrel
    by_cases hlt : k < N
    · have c1 := HH.out k hlt
      have d1 := HL.out k hlt
      rw [d1] at c1
      have hne : ((L 0 : Int) != (L 0 : Int)) = false := by simp
      clear d1
      go_wp2
      go_round
      case rel => exact ⟨k + 1, by omega, by go_num⟩
      case measure => simp [intOf]; omega
    · have hm0 := hmin.out
      go_wp2_with fail
      refine qm.mono ?_
      rintro e w1 ⟨rfl, hw1⟩
      rw [hw1]
      clear hw1 qm
      go_wp2_with fail
      refine qt.mono ?_
      rintro e w2 ⟨rfl, hw2⟩
      rw [hw2]
      clear hw2 qt
      go_wp2
      go_ret
      exact ⟨ret_bool (by simp; try omega), rfl⟩
def bln (f : Nat → Int) (X : Nat → Nat → Int) (n j : Nat) : Int := Fix.cl (Fix.dv (dot f (fun i => X i j) n) (tot f n)) 127
set_option maxHeartbeats 2000000 in
theorem blend_ok {w : World} {ao vo : Option Addr} {n ca cv : Nat} {f : Nat → Int} {A : Nat → Option Addr} {L K : Nat → Nat} {X : Nat → Nat → Int} (ha : RdA w ao 1 n ca (fun i => .int .i64 (f i))) (hv : Vs w vo n cv A L K X) (h : Fit f n L)
    (bf : ∀ i, i < n → -9223372036854775808 ≤ f i ∧ f i ≤ 9223372036854775807) (bX : ∀ i j, i < n → j < L 0 → -128 ≤ X i j ∧ X i j ≤ 127) (hn : n ≤ 281474976710656) (hL0 : L 0 ≤ 281474976710656) :
    Calls Tryd.prog 26 #[.slice ao n ca, .slice vo n cv] w fun e w' => ∃ b F, e = .returned (.tuple #[.slice (some ⟨b, 0, none⟩) (L 0) (L 0), .int .i64 0]) ∧ w.heap.size ≤ b ∧ w'.rowIs b 48 (L 0) F ∧ (∀ j, j < L 0 → F j = .int .i8 (bln f X n j)) ∧ Below w.heap.size w w' := by
  have hbo := blendable_ok ha hv h
  have hto := total_any ha
  obtain ⟨h0, hL, hlow, hsum⟩ := h
  obtain ⟨b1, o1, rfl, h1⟩ := hv.top.one (by omega)
  have k0 := h1 0 (by omega)
  simp only [Nat.add_zero] at k0
  have HL := hidd hL
  clear h1 hL hlow
  have hmk1 := run_make_row' (P := Tryd.prog) 26 48 (.int .i8 0) 1 Tryd.underlying26 infoI8 rfl .i64 .i64 (L 0) (by omega) (by omega)
  have hmk2 := run_make_row' (P := Tryd.prog) 26 48 (.int .i8 0) 1 Tryd.underlying26 infoI8 rfl .i64 .i64 n (by omega) (by omega)
  have tb := tot_bd f n
  go_enter Tryd.func26, Tryd.ntmps26
  go_wp2_with fail
  refine hbo.mono ?_
  rintro e w1 ⟨rfl, hw1⟩
  rw [hw1]
  clear hw1 hbo
  go_wp2_with fail
  refine hto.mono ?_
  rintro e w2 ⟨rfl, hw2⟩
  rw [hw2]
  clear hw2 hto
  go_wp2
  clear hmk1 hmk2
  have T0 := hidd tb
  clear tb k0
  go_loopw [28] (fun i wr => ∃ (j : Nat) (F G : Nat → Value), j ≤ L 0 ∧ i = .int .i64 j ∧ wr.rowIs w.heap.size 48 (L 0) F ∧ Hid (∀ m, m < j → F m = .int .i8 (bln f X n m)) ∧ wr.rowIs (w.heap.size + 1) 48 n G ∧ Below w.heap.size w wr) (fun i _ => L 0 - (intOf i).toNat)
  case atStart =>
    have r2 := World.rowIs_made (w.alloc (.cells (madeCells #[.int .i8 0] (L 0)) 48)) (.int .i8 0) n 48
    exact ⟨0, _, _, by omega, rfl, (World.rowIs_made w (.int .i8 0) (L 0) 48).alloc _, fun j hj => absurd hj (by omega), by simpa using r2, fresh_trans (fresh_alloc _ _) (fresh_alloc _ _)⟩
  case round =>
    obtain ⟨j, F, G, hj, rfl, hrow, HF, hcol, hf⟩ := hrel
    by_cases hltj : j < L 0
    · go_wp2
      go_loopw [33] (fun i wc => ∃ (q : Nat) (G : Nat → Value), q ≤ n ∧ i = .int .i64 q ∧ wc.rowIs w.heap.size 48 (L 0) F ∧ wc.rowIs (w.heap.size + 1) 48 n G ∧ Hid (∀ m, m < q → G m = .int .i8 (X m j)) ∧ Below w.heap.size w wc) (fun i _ => n - (intOf i).toNat)
      case atStart => exact ⟨0, G, by omega, rfl, hrow, hcol, fun m hm => absurd hm (by omega), hf⟩
      case round =>
        clear hrow hcol hf
        obtain ⟨q, G, hq, rfl, hrow, hcol, HG, hf⟩ := hrel
        by_cases hltq : q < n
        · have hvf := hv.fresh hf
          obtain ⟨b2, o2, e2, h2⟩ := hvf.top.one (by omega)
          simp only [Option.some.injEq, Addr.mk.injEq, and_true] at e2
          obtain ⟨rfl, rfl⟩ := e2
          have c1 := h2 q hltq
          have hlq := HL.out q hltq
          have hrw := hvf.row q hltq
          rw [hlq] at c1 hrw
          obtain ⟨b3, o3, e3, h3⟩ := hrw.one (by omega)
          rw [e3] at c1
          have c2 := h3 j hltj
          have fa := hcol.frozen
          have cc := hcol.cell (i := q) hltq
          clear h2 h3 hlq hrw e3 hvf
          go_wp2
          go_roundw
          case rel => exact ⟨q + 1, _, hltq, by go_num, hrow.setOther (by simp) _, hcol.set q _, set_next (G := fun m => .int .i8 (X m j)) HG.out rfl, hf.setCell (by simp) _⟩
          case measure => simp [intOf]; omega
        · obtain rfl : q = n := by omega
          have hc : RdA _ (some ⟨w.heap.size + 1, 0, none⟩) 1 q q (fun i => .int .i8 (X i j)) := (rowIs_rd hcol (by unfold maxLen; omega)).congr (fun m hm => HG.out m (by omega))
          have hd := dot_bd f (fun i => X i j) q
          have hq2 := dv_bd (dot f (fun i => X i j) q) (tot f q) hd.1 hd.2
          have fa := hrow.frozen
          have cc := hrow.cell (i := j) hltj
          go_wp2_with fail
          refine (sop68_any (ha.fresh hf) hc bf (fun i hi => bX i j hi hltj)).mono ?_
          rintro e w1 ⟨rfl, hw1⟩
          rw [hw1]
          clear hw1 w1
          go_wp2_with fail
          refine (div_any (dot f (fun i => X i j) q) (tot f q) _ hd.1 hd.2 T0.out.1 T0.out.2).mono ?_
          rintro e w1 ⟨rfl, hw1⟩
          rw [hw1]
          clear hw1 w1
          go_wp2_with fail
          refine (clamp8_any _ _ hq2.1 hq2.2).mono ?_
          rintro e w1 ⟨rfl, hw1⟩
          rw [hw1]
          clear hw1 w1 hd hq2
          go_wp2
          go_roundw
          case rel => exact ⟨j + 1, _, G, hltj, by go_num, hrow.set j _, set_next (G := fun m => .int .i8 (bln f X q m)) HF.out rfl, hcol.setOther (by simp) _, hf.setCell (Nat.le_refl _) _⟩
          case measure => simp [intOf]; omega
    · obtain rfl : j = L 0 := by omega
      go_wp2
      go_ret2
      exact ⟨_, F, rfl, Nat.le_refl _, hrow, HF.out, hf⟩
end Go.Proofs.YtmcefgpejocjfaaDoor
