import Derived.Test.YtppcgfdogacmkaaQF
namespace Go.Proofs.Ytppcgfdogacmkaa
open Go.RowKit
/-! Move. -/
def readN (num : Nat → Int) (q : Nat) (F : Nat → Nat) (k : Nat) : Nat → Int := fun j => if j < k * q then num (F (j / q) * q + j % q) else 0
def movedN (num : Nat → Int) (q : Nat) (F T : Nat → Nat) : Nat → (Nat → Int)
  | 0 => num
  | k + 1 => fun j => if T k * q ≤ j ∧ j < T k * q + q then num (F k * q + (j - T k * q)) else movedN num q F T k j
theorem part_div {q k j : Nat} (h1 : k * q ≤ j) (h2 : j < k * q + q) : j / q = k ∧ j % q = j - k * q := by
  have hq : 0 < q := by omega
  obtain ⟨r, rfl⟩ : ∃ r, j = k * q + r := ⟨j - k * q, by omega⟩
  have hr : r < q := by omega
  rw [Nat.mul_comm k q, Nat.mul_add_div hq, Nat.mul_add_mod, Nat.div_eq_of_lt hr, Nat.mod_eq_of_lt hr]
  omega
theorem readN_step {num : Nat → Int} {q : Nat} {F : Nat → Nat} {k : Nat} (j : Nat) : (if k * q ≤ j ∧ j < k * q + q then num (F k * q + (j - k * q)) else readN num q F k j) = readN num q F (k + 1) j := by
  unfold readN
  rw [Nat.succ_mul]
  by_cases h : k * q ≤ j ∧ j < k * q + q
  · obtain ⟨e1, e2⟩ := part_div h.1 h.2
    rw [if_pos h, if_pos h.2, e1, e2]
  · rw [if_neg h]
    by_cases h2 : j < k * q
    · rw [if_pos h2, if_pos (by omega)]
    · rw [if_neg h2, if_neg (by omega)]
theorem readN_at {num : Nat → Int} {q : Nat} {F : Nat → Nat} {k n j : Nat} (hk : k < n) (hj : j < q) : readN num q F n (k * q + j) = num (F k * q + j) := by
  unfold readN
  obtain ⟨e1, e2⟩ := part_div (q := q) (k := k) (j := k * q + j) (by omega) (by omega)
  have := Nat.mul_le_mul_right q (show k + 1 ≤ n from hk)
  rw [Nat.succ_mul] at this
  rw [if_pos (by omega), e1, e2, show k * q + j - k * q = j by omega]
set_option maxRecDepth 20000 in
set_option maxHeartbeats 4000000 in
theorem move_ok {w : World} {g cb nb L W B S q bn TT : Nat} {cnt : Nat → Nat} {num : Nat → Int} (h : PoolAt w g cb nb L W B S cnt num) (G : Geo L W B S q bn TT) {ao : Option Addr} {n cap : Nat} {F T : Nat → Nat} (hl : RdA w ao 2 n cap (mcs F T)) (hF : ∀ i, i < n → F i < B * S ∧ cnt (F i / S) ≠ 0) (hT : ∀ i, i < n → T i < B * S ∧ cnt (T i / S) ≠ 0) (hd : ∀ i j, i < j → j < n → T i ≠ T j) (hmn : ∀ b off, ao = some ⟨b, off, none⟩ → b ≠ nb) :
    Calls Try.prog 14 #[.pointer (some ⟨g, 0, none⟩), .slice ao n cap] w fun e w' => e = .returned (.int .i64 0) ∧ PoolAt w' g cb nb L W B S cnt (movedN num q F T n) ∧ Chg w w' (fun b => b = nb) := by
  have hB := h.hB
  have hS := h.hS
  obtain ⟨R, hR⟩ : ∃ R, R = B * S := ⟨_, rfl⟩
  have hRb := mul_lt_cap hB hS hR
  have hnR : n ≤ R := by rw [hR]; exact pigeon (fun j hj => (hT j hj).1) hd
  have HMM := hidd (mayMove_ok h hl hF hT hd)
  obtain ⟨c0, c1, _, _, _⟩ := h.cells
  have HO : Hid (∀ z, Below w.heap.size w z → Calls Try.prog 40 #[.pointer (some ⟨g, 0, none⟩)] z fun e w' => e = .returned (.int .i64 (q : Int)) ∧ Below z.heap.size z w') := fun z f => by rw [G.eq]; exact ofSlot_at (fresh_cell f c0) (fresh_cell f c1) h.hL h.hW
  obtain ⟨NQ, hNQ⟩ : ∃ NQ, NQ = n * q := ⟨_, rfl⟩
  have e1 : (n : Int) * (q : Int) = (NQ : Int) := by rw [hNQ]; push_cast; rfl
  have hq1 := G.q1
  have hq2 := G.q2
  have hNQb : NQ ≤ 1048576 := by rw [hNQ]; have := Nat.mul_le_mul (Nat.le_trans hnR hRb.2) hq2; omega
  obtain ⟨i8, hi8, z80, z81, z82⟩ := info_parts infoI8
  have hmk : ∀ w, (Instr.makeSlice 32 (.int .i64 (NQ : Int)) (.int .i64 (NQ : Int))).run Try.prog w = .ok (.slice (some ⟨w.heap.size, 0, none⟩) NQ NQ) (w.alloc (.cells (madeCells #[.int .i8 0] NQ) 116)) := run_make_row 32 116 i8 (.int .i8 0) Try.underlying32 hi8 z80 z81 rfl .i64 .i64 NQ (by rw [z82]; omega) (by omega)
  have hcap : cap ≤ 9223372036854775807 := by have := hl.top; unfold maxLen at this; omega
  have hnc := hl.le
  have hnl : nb < w.heap.size := h.nums.lt
  have hTT2 := G.T2
  have H := hidd h
  have HG := hidd G
  have HF : Hid (∀ i, i < n → F i * q + q ≤ TT) := fun i hi => by
    rw [HG.out.eT]; exact part_le (hF i hi).1 rfl
  have HT : Hid (∀ i, i < n → T i * q + q ≤ TT) := fun i hi => by
    rw [HG.out.eT]; exact part_le (hT i hi).1 rfl
  have HL := hidd hl
  have HMN := hidd hmn
  have HNQ := hidd hNQ
  have HPT : Hid (∀ k, k < n → k * q + q ≤ NQ) := fun k hk => by rw [HNQ.out]; exact part_le hk rfl
  clear h G hl hF hT hd hmn hNQ hR c0 c1 hi8 z80 z81 z82
  go_enter Try.func14, Try.ntmps14
  go_upto_region 6 with (first
    | (go_at_call 39; with_reducible refine HMM.out.mono ?_; rintro e w1 ⟨rfl, f1⟩)
    | (go_at_call 40; with_reducible refine (HO.out _ f1).mono ?_; rintro e w2 ⟨rfl, f2'⟩))
  have f2 := fresh_trans f1 f2'
  clear HMM HO f1 f2'
  have R0 := hidd (World.rowIs_made w2 (.int .i8 0) NQ 116)
  have F0 := hidd (f2.alloc f2.size (.cells (madeCells #[.int .i8 0] NQ) 116))
  have hrb := f2.size
  go_upto_region 7 with fail
  generalize w2.alloc (.cells (madeCells #[.int .i8 0] NQ) 116) = w3 at *
  generalize hrbb : w2.heap.size = rb at *
  clear hmk hrbb f2
  go_wp2
  go_loopw [26] (fun i wr => ∃ (k : Nat), k ≤ n ∧ i = .int .i64 k ∧ wr.rowIs rb 116 NQ (fun j => .int .i8 (readN num q F k j)) ∧ Below w.heap.size w wr) (fun i _ => n - (intOf i).toNat)
  case atStart => exact ⟨0, by omega, rfl, R0.out.congr (fun j _ => by unfold readN; rw [if_neg (by omega)]), F0.out⟩
  case round =>
    clear R0 F0
    obtain ⟨k, hk, rfl, hrow, hb⟩ := hrel
    by_cases hlt : k < n
    · obtain ⟨b1, o1, rfl, h1⟩ := (HL.out.fresh hb).moves (by omega)
      obtain ⟨d1, d2⟩ := h1 k hlt
      have hbs := hb.size
      have hbA := hb.alloc hbs (.cells #[.int .i64 (F k : Nat), .int .i64 (T k : Nat)] 42)
      have rA := hrow.alloc (.cells #[.int .i64 (F k : Nat), .int .i64 (T k : Nat)] 42)
      obtain ⟨x1, x2⟩ := row2m wr 42 (.int .i64 (F k : Nat)) (.int .i64 (T k : Nat))
      have hFk := HF.out k hlt
      have hkq := HPT.out k hlt
      obtain ⟨kq, hkqe⟩ : ∃ kq, kq = k * q := ⟨_, rfl⟩
      obtain ⟨fo, hfo⟩ : ∃ fo, fo = F k * q := ⟨_, rfl⟩
      have e2 : (k : Int) * (q : Int) = (kq : Int) := by rw [hkqe]; push_cast; rfl
      have HVS : Hid (∀ z, Below w.heap.size w z → Calls Try.prog 41 #[.pointer (some ⟨g, 0, none⟩), .int .i64 (F k : Nat)] z fun e w' => e = .returned (.slice (some ⟨nb, fo, none⟩) q (TT - fo)) ∧ Below z.heap.size z w') := fun z f => vslot_any (H.out.fresh f) HG.out hfo (by rw [hfo]; exact hFk)
      have HST : Hid (∀ j, (if kq ≤ j ∧ j < kq + q then (Value.int .i8 (num (fo + (j - kq)))) else .int .i8 (readN num q F k j)) = .int .i8 (readN num q F (k + 1) j)) := fun j => by
        rw [← readN_step, ← hkqe, hfo]
        by_cases e : kq ≤ j ∧ j < kq + q
        · rw [if_pos e, if_pos e]
        · rw [if_neg e, if_neg e]
      rw [← hkqe] at hkq
      rw [← hfo] at hFk
      have hrlt := hrow.lt
      have HRA := hidd rA
      have HRN : Hid (∀ z, Below w.heap.size w z → z.rowIs nb 116 TT (fun i => .int .i8 (num i))) := fun z f => by
        have := (H.out.fresh f).nums
        rw [← HG.out.eq, ← HG.out.eT] at this
        exact this
      have j1 : IntKind.i64.wrap ((k : Int) * (q : Int)) = (kq : Int) := by rw [e2, IntKind.wrap_i64]; omega
      have j2 : IntKind.i64.wrap (kq : Int) = (kq : Int) := by rw [IntKind.wrap_i64]; omega
      have hmin : q = Nat.min q (NQ - kq) := (Nat.min_eq_left (by omega)).symm
      have HMIN := hidd hmin
      clear hmin
      have hne1 : ¬ NQ = kq := by omega
      have hne2 : kq ≤ NQ := by omega
      have hne3 : (kq : Int) ≤ (NQ : Int) := by omega
      have hne4 : ¬ kq = NQ := by omega
      have hne5 : kq < NQ := by omega
      have hne6 : ¬ NQ - kq = 0 := by omega
      have hne7 : ¬ NQ < kq := by omega
      have hne8 : ¬ (NQ : Int) < (kq : Int) := by omega
      clear h1 hrow rA hkqe hfo
      generalize F k = y1 at *
      generalize T k = y2 at *
      go_upto_region 10 with fail
      generalize hw4 : wr.alloc (.cells #[.int .i64 (y1 : Int), .int .i64 (y2 : Int)] 42) = w4 at *
      have hs4 : wr.heap.size < w4.heap.size := by rw [← hw4]; simp
      clear hw4 d1 d2 x2
      have f0 : Below w4.heap.size w4 w4.drew := (Below.refl _ _).drew
      have HV2 : Hid (Calls Try.prog 41 #[.pointer (some ⟨g, 0, none⟩), .int .i64 y1] w4.drew fun e w' => e = .returned (.slice (some ⟨nb, fo, none⟩) q (TT - fo)) ∧ Below w4.heap.size w4 w' ∧ w'.cell? ⟨wr.heap.size, 0, none⟩ = some (.int .i64 y1)) := (HVS.out _ hbA.drew).mono (fun e w' ⟨he, hf⟩ => ⟨he, fresh_trans f0 hf, fresh_cell (fresh_trans f0 hf) x1⟩)
      have HK2 : Hid (∀ z z' : World, Below w4.heap.size w4 z → Chg z z' (fun b => b = rb) → z'.cell? ⟨wr.heap.size, 0, none⟩ = some (.int .i64 y1)) := fun z z' f c => by
        have hx := fresh_cell f x1
        rw [World.cell?_of_block (w := z) (a := ⟨wr.heap.size, 0, none⟩) (c.block wr.heap.size (lt_of_cell hx) (by omega)), hx]
      go_region_held3 (fun w' => w'.cell? ⟨wr.heap.size, 0, none⟩ = some (.int .i64 y1))
        (first | (with_reducible exact x1) | (with_reducible exact x9) | (with_reducible exact HK2.out _ _ f9 hc9) | go_keep)
        (first
          | (go_at_call 41; with_reducible refine HV2.out.mono ?_; rintro e w9 ⟨rfl, f9, x9⟩)
          | (refine step_copyR (by rfl) _ _ 32 32 (by rfl) 116 Try.underlying32 size8 rb kq (NQ - kq) (NQ - kq) nb fo q (TT - fo) q (by rfl) (by rfl) HMIN.out 116 NQ _ (HRA.out.of_block (f9.block _ HRA.out.lt)) hkq (fun j => .int .i8 (num (fo + j))) (fun j hj => (HRN.out _ (hbA.trans (f9.mono hbA.size))).cell (by omega)) (fun _ _ => rfl) ?_; intro w10 hr10 hc9))
      all_goals
        have hb10 := hc9.below (hbA.trans (f9.mono hbA.size)) (Nat.le_trans hbA.size f9.size) (fun b e => by subst e; exact hrb)
        go_wp2
        go_roundw
        case rel => exact ⟨k + 1, by omega, by go_num, hr10.congr (fun j _ => HST.out j), hb10⟩
        case measure => simp [intOf]; omega
    · obtain rfl : k = n := by omega
      have hrbl := hrow.lt
      have RW := hidd hrow
      have HB := hidd hb
      clear hrow
      go_wp2
      go_loopw [44] (fun i wx => ∃ (m : Nat), m ≤ k ∧ i = .int .i64 m ∧ wx.rowIs rb 116 NQ (fun j => .int .i8 (readN num q F k j)) ∧ PoolAt wx g cb nb L W B S cnt (movedN num q F T m) ∧ Chg w wx (fun b => b = nb)) (fun i _ => k - (intOf i).toNat)
      case atStart => exact ⟨0, by omega, rfl, RW.out, H.out.fresh HB.out, Chg.of_below _ HB.out⟩
      case round =>
        clear RW HB hb hrbl
        obtain ⟨m, hm, rfl, hrow, hP, hC⟩ := hrel
        by_cases hlt : m < k
        · obtain ⟨b1, o1, rfl, h1⟩ := (HL.out.chg hC (fun b off e => HMN.out b off e)).moves (by omega)
          obtain ⟨d1, d2⟩ := h1 m hlt
          have fA := fresh_alloc wr (.cells #[.int .i64 (F m : Nat), .int .i64 (T m : Nat)] 42)
          have rA := hrow.alloc (.cells #[.int .i64 (F m : Nat), .int .i64 (T m : Nat)] 42)
          obtain ⟨x1, x2⟩ := row2m wr 42 (.int .i64 (F m : Nat)) (.int .i64 (T m : Nat))
          have hTk := HT.out m hlt
          have hkq := HPT.out m hlt
          obtain ⟨kq, hkqe⟩ : ∃ kq, kq = m * q := ⟨_, rfl⟩
          obtain ⟨fo, hfo⟩ : ∃ fo, fo = T m * q := ⟨_, rfl⟩
          have e2 : (m : Int) * (q : Int) = (kq : Int) := by rw [hkqe]; push_cast; rfl
          have hPA := hP.fresh fA
          have HVS : Hid (∀ z, Below (wr.alloc (.cells #[.int .i64 (F m : Nat), .int .i64 (T m : Nat)] 42)).heap.size (wr.alloc (.cells #[.int .i64 (F m : Nat), .int .i64 (T m : Nat)] 42)) z → Calls Try.prog 41 #[.pointer (some ⟨g, 0, none⟩), .int .i64 (T m : Nat)] z fun e w' => e = .returned (.slice (some ⟨nb, fo, none⟩) q (TT - fo)) ∧ Below z.heap.size z w') := fun z f => vslot_any (hPA.fresh f) HG.out hfo (by rw [hfo]; exact hTk)
          have HST : Hid (∀ j, (if fo ≤ j ∧ j < fo + q then (Value.int .i8 (readN num q F k (kq + (j - fo)))) else .int .i8 (movedN num q F T m j)) = .int .i8 (movedN num q F T (m + 1) j)) := fun j => by
            show _ = Value.int .i8 (if T m * q ≤ j ∧ j < T m * q + q then num (F m * q + (j - T m * q)) else movedN num q F T m j)
            rw [← hfo]
            by_cases e : fo ≤ j ∧ j < fo + q
            · rw [if_pos e, if_pos e, hkqe, readN_at hlt (by omega)]
            · rw [if_neg e, if_neg e]
          have HRN : Hid ((wr.alloc (.cells #[.int .i64 (F m : Nat), .int .i64 (T m : Nat)] 42)).rowIs nb 116 TT (fun i => .int .i8 (movedN num q F T m i))) := by
            have := hPA.nums
            rw [← HG.out.eq, ← HG.out.eT] at this
            exact this
          rw [← hkqe] at hkq
          rw [← hfo] at hTk
          have hrlt := hrow.lt
          have hnlt := hP.nums.lt
          have HRA := hidd rA
          have HPA := hidd hPA
          have HC := hidd (hC.post fA)
          have j1 : IntKind.i64.wrap ((m : Int) * (q : Int)) = (kq : Int) := by rw [e2, IntKind.wrap_i64]; omega
          have j2 : IntKind.i64.wrap (kq : Int) = (kq : Int) := by rw [IntKind.wrap_i64]; omega
          have hmin : q = Nat.min (NQ - kq) q := (Nat.min_eq_right (by omega)).symm
          have HMIN := hidd hmin
          have hne1 : ¬ NQ = kq := by omega
          have hne2 : kq ≤ NQ := by omega
          have hne3 : (kq : Int) ≤ (NQ : Int) := by omega
          have hne4 : ¬ kq = NQ := by omega
          have hne5 : kq < NQ := by omega
          have hne6 : ¬ NQ - kq = 0 := by omega
          have hne7 : ¬ NQ < kq := by omega
          have hne8 : ¬ (NQ : Int) < (kq : Int) := by omega
          clear h1 hrow rA hkqe hfo hP hC hPA hmin
          generalize hy1 : F m = y1 at *
          generalize hy2 : T m = y2 at *
          clear hy1 hy2
          go_upto_region 15 with fail
          generalize hw4 : wr.alloc (.cells #[.int .i64 (y1 : Int), .int .i64 (y2 : Int)] 42) = w4 at *
          have hs4 : wr.heap.size < w4.heap.size := by rw [← hw4]; simp
          clear hw4 d1 d2 x1
          have f0 : Below w4.heap.size w4 w4.drew := (Below.refl _ _).drew
          have HV2 : Hid (Calls Try.prog 41 #[.pointer (some ⟨g, 0, none⟩), .int .i64 y2] w4.drew fun e w' => e = .returned (.slice (some ⟨nb, fo, none⟩) q (TT - fo)) ∧ Below w4.heap.size w4 w' ∧ w'.cell? ⟨wr.heap.size, 1, none⟩ = some (.int .i64 y2)) := (HVS.out _ f0).mono (fun e w' ⟨he, hf⟩ => ⟨he, fresh_trans f0 hf, fresh_cell (fresh_trans f0 hf) x2⟩)
          have HK2 : Hid (∀ z z' : World, Below w4.heap.size w4 z → Chg z z' (fun b => b = nb) → z'.cell? ⟨wr.heap.size, 1, none⟩ = some (.int .i64 y2)) := fun z z' f c => by
            have hx := fresh_cell f x2
            rw [World.cell?_of_block (w := z) (a := ⟨wr.heap.size, 1, none⟩) (c.block wr.heap.size (lt_of_cell hx) (by omega)), hx]
          go_region_held3 (fun w' => w'.cell? ⟨wr.heap.size, 1, none⟩ = some (.int .i64 y2))
            (first | (with_reducible exact x2) | (with_reducible exact x9) | (with_reducible exact HK2.out _ _ f9 hc9) | go_keep)
            (first
              | (go_at_call 41; with_reducible refine HV2.out.mono ?_; rintro e w9 ⟨rfl, f9, x9⟩)
              | (refine step_copyR (by rfl) _ _ 32 32 (by rfl) 116 Try.underlying32 size8 nb fo q (TT - fo) rb kq (NQ - kq) (NQ - kq) q (by rfl) (by rfl) HMIN.out 116 TT _ (HRN.out.of_block (f9.block _ HRN.out.lt)) hTk (fun j => .int .i8 (readN num q F k (kq + j))) (fun j hj => (HRA.out.of_block (f9.block _ HRA.out.lt)).cell (by omega)) (fun _ _ => rfl) ?_; intro w10 hr10 hc9))
          all_goals
            have hC10 : Chg w w10 (fun b => b = nb) := (HC.out.post f9).trans hc9 (fun _ _ e => e)
            have hr := hc9.row (HRA.out.of_block (f9.block _ HRA.out.lt)) (by omega)
            have hP10 : PoolAt w10 g cb nb L W B S cnt (movedN num q F T (m + 1)) := (HPA.out.fresh f9).set_num hc9 (by
              rw [← HG.out.eq, ← HG.out.eT]
              exact hr10.congr (fun j _ => HST.out j))
            go_wp2
            go_roundw
            case rel => exact ⟨m + 1, by omega, by go_num, hr, hP10, hC10⟩
            case measure => simp [intOf]; omega
        · obtain rfl : m = k := by omega
          go_wp2
          go_ret
          exact ⟨rfl, hP, hC⟩
end Go.Proofs.Ytppcgfdogacmkaa
