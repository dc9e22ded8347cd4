import Derived.Test.YtaalinlggjimcaaPC
namespace Go.Proofs.Ytaalinlggjimcaa
open Go.RowKit
/-! Take, Count, Hold, Drop. -/
theorem lowest (cnt : Nat → Nat) : ∀ B, (∀ j, j < B → cnt j ≠ 0) ∨ ∃ b, b < B ∧ cnt b = 0 ∧ ∀ j, j < b → cnt j ≠ 0
  | 0 => .inl (fun j hj => absurd hj (by omega))
  | B + 1 => by
    rcases lowest cnt B with h | ⟨b, h1, h2, h3⟩
    · by_cases e : cnt B = 0
      · exact .inr ⟨B, by omega, e, h⟩
      · exact .inl (fun j hj => if k : j = B then k ▸ e else h j (by omega))
    · exact .inr ⟨b, by omega, h2, h3⟩
theorem index_hit {w : World} {cb B b : Nat} {cnt : Nat → Nat} (hc : w.rowIs cb 3 B (fun i => .int .i64 (cnt i))) (hB : B ≤ 256) (hb : b < B) (h0 : cnt b = 0) (hl : ∀ j, j < b → cnt j ≠ 0) :
    Calls Try.prog 46 #[.slice (some ⟨cb, 0, none⟩) B B, .int .i64 0] w fun e w' => e = .returned (.int .i64 b) ∧ w' = w := by
  refine (index_any hc hB).mono ?_
  rintro e w' ⟨rfl, ⟨c, h1, h2, h3, rfl⟩ | ⟨h1, rfl⟩⟩
  · have : c = b := by
      rcases Nat.lt_trichotomy c b with h | h | h
      · exact absurd h2 (hl c h)
      · exact h
      · exact absurd h0 (h3 b h)
    subst this
    exact ⟨rfl, rfl⟩
  · exact absurd h0 (h1 b hb)
theorem index_miss {w : World} {cb B : Nat} {cnt : Nat → Nat} (hc : w.rowIs cb 3 B (fun i => .int .i64 (cnt i))) (hB : B ≤ 256) (hl : ∀ j, j < B → cnt j ≠ 0) :
    Calls Try.prog 46 #[.slice (some ⟨cb, 0, none⟩) B B, .int .i64 0] w fun e w' => e = .returned (.int .i64 (-1)) ∧ w' = w := by
  refine (index_any hc hB).mono ?_
  rintro e w' ⟨rfl, ⟨c, h1, h2, h3, rfl⟩ | ⟨h1, rfl⟩⟩
  · exact absurd h2 (hl c h1)
  · exact ⟨rfl, rfl⟩
/-- the numbers with the piece from off on set to 0 -/
def zeroed (num : Nat → Int) (off k : Nat) : Nat → Int := fun j => if off ≤ j ∧ j < off + k then 0 else num j
theorem zero8 : ∀ w, (zeroValue 118).run Try.prog w = .ok (.int .i8 0) w := fun w => by
  obtain ⟨i8, hi8, z80, z81, z82⟩ := info_parts infoI8
  simp [zeroValue, typeInfo, hi8, z80]
theorem PoolAt.set_cnt {w : World} {g cb nb L W B S : Nat} {cnt : Nat → Nat} {num : Nat → Int} (h : PoolAt w g cb nb L W B S cnt num) (b x : Nat) : PoolAt (w.setCell ⟨cb, b, none⟩ (.int .i64 x)) g cb nb L W B S (updN cnt b x) num :=
  ⟨h.row.setOther (by exact h.gc) _, (h.cnts.set b _).congr (fun i _ => by
      unfold updN
      by_cases e : i = b
      · rw [if_pos e, if_pos e]
      · rw [if_neg e, if_neg e]), h.nums.setOther (by exact h.cn.symm) _, h.gc, h.gn, h.cn, h.hL, h.hW, h.hB, h.hS⟩
set_option maxRecDepth 20000 in
set_option maxHeartbeats 1600000 in
theorem take_hit {w : World} {g cb nb L W B S q n T b : Nat} {cnt : Nat → Nat} {num : Nat → Int} (h : PoolAt w g cb nb L W B S cnt num) (G : Geo L W B S q n T) (hb : b < B) (h0 : cnt b = 0) (hl : ∀ j, j < b → cnt j ≠ 0) :
    Calls Try.prog 17 #[.pointer (some ⟨g, 0, none⟩)] w fun e w' => e = .returned (.tuple #[.int .i64 b, .int .i64 0]) ∧ PoolAt w' g cb nb L W B S (updN cnt b 1) (zeroed num (b * n) n) ∧ Chg w w' (fun x => x = cb ∨ x = nb) := by
  have HI := hidd (index_hit h.cnts h.hB.2 hb h0 hl)
  obtain ⟨_, _, _, c3, _⟩ := h.cells
  have d := h.cnts.cell (i := b) hb
  have f := h.cnts.frozen
  have H1 := hidd (h.set_cnt b 1)
  have HK := hidd (block_any (h.set_cnt b 1) G hb)
  have hp := part_le hb G.tot
  have hB := h.hB
  have hn1 := G.n1
  have G' := hidd G
  clear h hl h0 G
  go_enter Try.func17, Try.ntmps17
  go_wp2_with (first
    | (go_at_call 46; refine HI.out.mono ?_; rintro e w9 ⟨rfl, h9⟩; rw [h9]; clear h9)
    | (go_at_call 47; refine HK.out.mono ?_; rintro e w9 ⟨rfl, hf9⟩; have H9 := hidd (H1.out.fresh hf9); have hcl := fun ty => Lib.run_clear_slice (P := Try.prog) w9 90 118 ty (.int .i8 0) Try.underlying90 zero8 rfl rfl nb (b * n) n (T - b * n) (by omega) (fun j hj => by rw [H9.out.nums.cell (by rw [← G'.out.eq, ← G'.out.eT]; omega)]; rfl) (fun j _ => H9.out.nums.frozen _)))
  go_ret2
  refine ⟨rfl, ?_, ?_⟩
  · have h9 := H9.out
    refine ⟨rowIs_setCells_other h9.gn _ _ _ h9.row, rowIs_setCells_other h9.cn _ _ _ h9.cnts, ?_, h9.gc, h9.gn, h9.cn, h9.hL, h9.hW, h9.hB, h9.hS⟩
    refine (rowIs_setCells _ _ _ _ h9.nums).congr (fun j _ => ?_)
    unfold zeroed
    by_cases hj : b * n ≤ j ∧ j < b * n + n
    · have : j - b * n < n := by omega
      simp [hj, this]
    · simp [hj]
  · exact ((((Chg.of_set w cb b (.int .i64 1)).imp (fun _ _ e => Or.inl e)).post hf9).trans (Chg.of_setCells nb _ _ _) (fun _ _ e => Or.inr e))
set_option maxRecDepth 20000 in
set_option maxHeartbeats 1600000 in
theorem take_miss {w : World} {g cb nb L W B S : Nat} {cnt : Nat → Nat} {num : Nat → Int} (h : PoolAt w g cb nb L W B S cnt num) (hl : ∀ j, j < B → cnt j ≠ 0) :
    Calls Try.prog 17 #[.pointer (some ⟨g, 0, none⟩)] w fun e w' => e = .returned (.tuple #[.int .i64 0, .int .i64 60]) ∧ w' = w := by
  have HI := hidd (index_miss h.cnts h.hB.2 hl)
  obtain ⟨_, _, _, c3, _⟩ := h.cells
  clear h hl
  go_enter Try.func17, Try.ntmps17
  go_wp2_with (go_at_call 46; refine HI.out.mono ?_; rintro e w9 ⟨rfl, h9⟩; rw [h9]; clear h9)
  go_ret2
  exact ⟨rfl, rfl⟩
theorem take_any {w : World} {g cb nb L W B S q n T : Nat} {cnt : Nat → Nat} {num : Nat → Int} (h : PoolAt w g cb nb L W B S cnt num) (G : Geo L W B S q n T) :
    Calls Try.prog 17 #[.pointer (some ⟨g, 0, none⟩)] w fun e w' => (∃ b, b < B ∧ cnt b = 0 ∧ (∀ j, j < b → cnt j ≠ 0) ∧ e = .returned (.tuple #[.int .i64 b, .int .i64 0]) ∧ PoolAt w' g cb nb L W B S (updN cnt b 1) (zeroed num (b * n) n) ∧ Chg w w' (fun x => x = cb ∨ x = nb)) ∨ ((∀ j, j < B → cnt j ≠ 0) ∧ e = .returned (.tuple #[.int .i64 0, .int .i64 60]) ∧ w' = w) := by
  rcases lowest cnt B with hl | ⟨b, h1, h2, h3⟩
  · exact (take_miss h hl).mono (fun e w' k => .inr ⟨hl, k⟩)
  · exact (take_hit h G h1 h2 h3).mono (fun e w' k => .inl ⟨b, h1, h2, h3, k⟩)
/-- the count of any number -/
def cntI (cnt : Nat → Nat) (B : Nat) (k : Int) : Nat := if 0 ≤ k ∧ k < B then cnt k.toNat else 0
theorem cntI_nat (cnt : Nat → Nat) {B b : Nat} (h : b < B) : cntI cnt B (b : Int) = cnt b := by unfold cntI; rw [if_pos (by omega)]; rfl
set_option maxRecDepth 20000 in
set_option maxHeartbeats 1600000 in
theorem count_any {w : World} {g cb nb L W B S : Nat} {cnt : Nat → Nat} {num : Nat → Int} (h : PoolAt w g cb nb L W B S cnt num) (k : Int) :
    Calls Try.prog 23 #[.pointer (some ⟨g, 0, none⟩), .int .i64 k] w fun e w' => e = .returned (.int .i64 (cntI cnt B k : Nat)) ∧ w' = w := by
  obtain ⟨_, _, _, c3, _⟩ := h.cells
  have hB := h.hB
  by_cases h0 : k < 0
  · have e0 : Hid (cntI cnt B k = 0) := by show _ = _; unfold cntI; rw [if_neg (by omega)]
    clear h
    go_enter Try.func23, Try.ntmps23
    go_wp2
    go_ret
    exact ⟨by rw [e0.out]; rfl, rfl⟩
  · by_cases h1 : (B : Int) ≤ k
    · have e0 : Hid (cntI cnt B k = 0) := by show _ = _; unfold cntI; rw [if_neg (by omega)]
      have hd : decide (k < 0) = false := by simpa using h0
      clear h
      go_enter Try.func23, Try.ntmps23
      go_wp2
      go_ret
      exact ⟨by rw [e0.out]; rfl, rfl⟩
    · obtain ⟨b, rfl⟩ : ∃ b : Nat, k = b := ⟨k.toNat, by omega⟩
      have hb : b < B := by omega
      have d := h.cnts.cell (i := b) hb
      have e0 := hidd (cntI_nat cnt hb)
      have hd : decide ((b : Int) < 0) = false := by simp
      have hd2 : decide ((B : Int) ≤ b) = false := by simp; omega
      clear h
      go_enter Try.func23, Try.ntmps23
      go_wp2
      go_ret
      exact ⟨by rw [e0.out]; rfl, rfl⟩
/-- Hold and Drop: by more -/
theorem add_chg {w : World} {cb b : Nat} {v : Value} : Chg w (w.setCell ⟨cb, b, none⟩ v) (fun x => x = cb) := Chg.of_set w cb b v
set_option maxRecDepth 20000 in
set_option maxHeartbeats 1600000 in
theorem addHolds_bad {w : World} {g cb nb L W B S : Nat} {cnt : Nat → Nat} {num : Nat → Int} (h : PoolAt w g cb nb L W B S cnt num) (k m : Int) (h0 : cntI cnt B k = 0) :
    Calls Try.prog 48 #[.pointer (some ⟨g, 0, none⟩), .int .i64 k, .int .i64 m] w fun e w' => e = .returned (.int .i64 61) ∧ w' = w := by
  have HC := hidd (count_any h k)
  rw [h0] at HC
  clear h h0
  go_enter Try.func48, Try.ntmps48
  go_wp2_with (go_at_call 23; refine HC.out.mono ?_; rintro e w9 ⟨rfl, h9⟩; rw [h9]; clear h9)
  go_ret
  exact ⟨rfl, rfl⟩
set_option maxRecDepth 20000 in
set_option maxHeartbeats 1600000 in
theorem addHolds_ok {w : World} {g cb nb L W B S b y : Nat} {cnt : Nat → Nat} {num : Nat → Int} (h : PoolAt w g cb nb L W B S cnt num) (m : Int) (hb : b < B) (h0 : cnt b ≠ 0) (hy : (cnt b : Int) + m = y) (hm : -1 ≤ m ∧ m ≤ 1) (hc : cnt b ≤ 4611686018427387904) :
    Calls Try.prog 48 #[.pointer (some ⟨g, 0, none⟩), .int .i64 b, .int .i64 m] w fun e w' => e = .returned (.int .i64 0) ∧ PoolAt w' g cb nb L W B S (updN cnt b y) num ∧ Chg w w' (fun x => x = cb) := by
  have HC := hidd (count_any h b)
  rw [cntI_nat cnt hb] at HC
  obtain ⟨_, _, _, c3, _⟩ := h.cells
  have d := h.cnts.cell (i := b) hb
  have f := h.cnts.frozen
  have H1 := hidd (h.set_cnt b y)
  have hB := h.hB
  obtain ⟨hm1, hm2⟩ := hm
  generalize cnt b = c at *
  have h0' : ((c : Int) == 0) = false := by simp [h0]
  clear h h0
  go_enter Try.func48, Try.ntmps48
  go_wp2_with (go_at_call 23; refine HC.out.mono ?_; rintro e w9 ⟨rfl, h9⟩; rw [h9]; clear h9)
  go_ret
  exact ⟨rfl, H1.out, Chg.of_set _ _ _ _⟩
set_option maxHeartbeats 400000 in
theorem drop_bad {w : World} {g cb nb L W B S : Nat} {cnt : Nat → Nat} {num : Nat → Int} (h : PoolAt w g cb nb L W B S cnt num) (k : Int) (h0 : cntI cnt B k = 0) :
    Calls Try.prog 19 #[.pointer (some ⟨g, 0, none⟩), .int .i64 k] w fun e w' => e = .returned (.int .i64 61) ∧ w' = w := by
  have HC := hidd (addHolds_bad h k (-1) h0)
  clear h h0
  go_enter Try.func19, Try.ntmps19
  go_wp2_with (go_at_call 48; refine HC.out.mono ?_; rintro e w9 ⟨rfl, h9⟩; rw [h9]; clear h9)
  go_ret
  exact ⟨rfl, rfl⟩
set_option maxHeartbeats 400000 in
theorem hold_bad {w : World} {g cb nb L W B S : Nat} {cnt : Nat → Nat} {num : Nat → Int} (h : PoolAt w g cb nb L W B S cnt num) (k : Int) (h0 : cntI cnt B k = 0) :
    Calls Try.prog 65 #[.pointer (some ⟨g, 0, none⟩), .int .i64 k] w fun e w' => e = .returned (.int .i64 61) ∧ w' = w := by
  have HC := hidd (addHolds_bad h k 1 h0)
  clear h h0
  go_enter Try.func65, Try.ntmps65
  go_wp2_with (go_at_call 48; refine HC.out.mono ?_; rintro e w9 ⟨rfl, h9⟩; rw [h9]; clear h9)
  go_ret
  exact ⟨rfl, rfl⟩
set_option maxHeartbeats 400000 in
theorem drop_ok {w : World} {g cb nb L W B S b : Nat} {cnt : Nat → Nat} {num : Nat → Int} (h : PoolAt w g cb nb L W B S cnt num) (hb : b < B) (h0 : cnt b ≠ 0) (hc : cnt b ≤ 4611686018427387904) :
    Calls Try.prog 19 #[.pointer (some ⟨g, 0, none⟩), .int .i64 b] w fun e w' => e = .returned (.int .i64 0) ∧ PoolAt w' g cb nb L W B S (updN cnt b (cnt b - 1)) num ∧ Chg w w' (fun x => x = cb) := by
  have HC := hidd (addHolds_ok h (-1) hb h0 (y := cnt b - 1) (by omega) (by omega) hc)
  clear h h0
  go_enter Try.func19, Try.ntmps19
  go_wp2_with (go_at_call 48; refine HC.out.mono ?_; rintro e w9 ⟨rfl, h9, h10⟩)
  go_ret
  exact ⟨rfl, h9, h10⟩
set_option maxHeartbeats 400000 in
theorem hold_ok {w : World} {g cb nb L W B S b : Nat} {cnt : Nat → Nat} {num : Nat → Int} (h : PoolAt w g cb nb L W B S cnt num) (hb : b < B) (h0 : cnt b ≠ 0) (hc : cnt b ≤ 4611686018427387904) :
    Calls Try.prog 65 #[.pointer (some ⟨g, 0, none⟩), .int .i64 b] w fun e w' => e = .returned (.int .i64 0) ∧ PoolAt w' g cb nb L W B S (updN cnt b (cnt b + 1)) num ∧ Chg w w' (fun x => x = cb) := by
  have HC := hidd (addHolds_ok h 1 hb h0 (y := cnt b + 1) (by omega) (by omega) hc)
  clear h h0
  go_enter Try.func65, Try.ntmps65
  go_wp2_with (go_at_call 48; refine HC.out.mono ?_; rintro e w9 ⟨rfl, h9, h10⟩)
  go_ret
  exact ⟨rfl, h9, h10⟩
end Go.Proofs.Ytaalinlggjimcaa
