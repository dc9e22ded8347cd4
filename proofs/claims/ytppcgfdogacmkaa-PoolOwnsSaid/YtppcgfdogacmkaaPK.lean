import Derived.Test.YtppcgfdogacmkaaPJ
namespace Go.Proofs.Ytppcgfdogacmkaa
open Go.RowKit
/-! Share, Own. -/
theorem RdA.chg {w w' : World} {T : Nat → Prop} (c : Chg w w' T) {ao : Option Addr} {sz n cap : Nat} {cs : Nat → Value} (h : RdA w ao sz n cap cs) (hne : ∀ b off, ao = some ⟨b, off, none⟩ → ¬ T b) : RdA w' ao sz n cap cs := by
  refine ⟨h.le, h.top, fun hn => ?_⟩
  obtain ⟨b, off, rfl, hc⟩ := h.at_ hn
  refine ⟨b, off, rfl, fun j hj => ?_⟩
  rw [World.cell?_of_block (w := w) (a := ⟨b, off + j, none⟩) (c.block b (lt_of_cell (hc j hj)) (hne b off rfl)), hc j hj]
theorem infoB : (Try.prog.info? 4).map (fun i => (i.zero, i.size, i.bytes)) = some (some (.bool false), 1, 1) := by kernel_rfl
set_option maxHeartbeats 400000 in
theorem isEmpty_yes {w : World} {t cap : Nat} {ao : Option Addr} (c1 : w.cell? ⟨t, 1, none⟩ = some (.slice ao 0 cap)) :
    Calls Try.prog 52 #[.pointer (some ⟨t, 0, none⟩)] w fun e w' => e = .returned (.bool true) ∧ w' = w := by
  go_enter Try.func52, Try.ntmps52
  go_wp2
  go_ret
  exact ⟨rfl, rfl⟩
set_option maxHeartbeats 400000 in
theorem isEmpty_no {w : World} {t m cap : Nat} {ao : Option Addr} (c1 : w.cell? ⟨t, 1, none⟩ = some (.slice ao m cap)) (hm : 0 < m) :
    Calls Try.prog 52 #[.pointer (some ⟨t, 0, none⟩)] w fun e w' => e = .returned (.bool false) ∧ w' = w := by
  have hb : ((m : Int) == 0) = false := by simp; omega
  go_enter Try.func52, Try.ntmps52
  go_wp2
  go_ret
  exact ⟨rfl, rfl⟩
set_option maxRecDepth 20000 in
set_option maxHeartbeats 1000000 in
theorem mayShare_ok {w : World} {g cb nb L W B S : Nat} {cnt : Nat → Nat} {num : Nat → Int} (h : PoolAt w g cb nb L W B S cnt num) {ao : Option Addr} {n cap : Nat} {f : Nat → Nat} (hl : RdA w ao 1 n cap (fun i => .int .i64 (f i))) (hf : ∀ i, i < n → f i < B ∧ cnt (f i) ≠ 0) (hd : ∀ i j, i < j → j < n → f i ≠ f j) :
    Calls Try.prog 53 #[.pointer (some ⟨g, 0, none⟩), .slice ao n cap] w fun e w' => e = .returned (.bool true) ∧ Below w.heap.size w w' := by
  have hn : n ≤ 9223372036854775807 := by have := hl.le; have := hl.top; unfold maxLen at this; omega
  obtain ⟨_, _, _, c3, _⟩ := h.cells
  have hB := h.hB
  obtain ⟨iB, hiB, zB0, zB1, zB2⟩ := info_parts infoB
  have hmk : ∀ w, (Instr.makeSlice 120 (.int .i64 (B : Int)) (.int .i64 (B : Int))).run Try.prog w = .ok (.slice (some ⟨w.heap.size, 0, none⟩) B B) (w.alloc (.cells (madeCells #[.bool false] B) 4)) := run_make_row 120 4 iB (.bool false) Try.underlying120 hiB zB0 zB1 rfl .i64 .i64 B (by rw [zB2]; omega) (by omega)
  clear hiB zB0 zB1 zB2
  have H := hidd h
  have HF := hidd hf
  have HD := hidd hd
  clear h hf hd
  go_enter Try.func53, Try.ntmps53
  go_wp2
  go_loopw [16] (fun i wr => ∃ (k : Nat) (mk : Nat → Bool), k ≤ n ∧ i = .int .i64 k ∧ wr.rowIs w.heap.size 4 B (fun j => .bool (mk j)) ∧ Hid (∀ i, k ≤ i → i < n → mk (f i) = false) ∧ Below w.heap.size w wr) (fun i _ => n - (intOf i).toNat)
  case atStart => exact ⟨0, fun _ => false, by omega, rfl, World.rowIs_made w (.bool false) B 4, fun _ _ _ => rfl, fresh_alloc _ _⟩
  case round =>
    clear hmk
    obtain ⟨k, mk, hk, rfl, hrow, HM, hb⟩ := hrel
    by_cases hlt : k < n
    · obtain ⟨b1, o1, rfl, h1⟩ := (hl.fresh hb).one (by omega)
      have d1 := h1 k hlt
      have hfk := (HF.out k hlt).1
      have HC := hidd (count_any (H.out.fresh hb) (f k))
      rw [cntI_nat cnt hfk] at HC
      have hck := (HF.out k hlt).2
      have e1 : ((cnt (f k) : Int) == 0) = false := by simp [hck]
      have hm := hrow.cell (i := f k) hfk
      rw [HM.out k (Nat.le_refl _) hlt] at hm
      have fz := hrow.frozen
      have HM2 : Hid (∀ i, k + 1 ≤ i → i < n → (if f i = f k then true else mk (f i)) = false) := fun i h1 h2 => by
        rw [if_neg (HD.out k i (by omega) h2).symm]; exact HM.out i (by omega) h2
      have HR := hidd hrow
      clear h1 hrow
      generalize cnt (f k) = ck at *
      generalize hy : f k = y at *
      go_wp2_with (go_at_call 28; with_reducible refine HC.out.mono ?_; rintro e w9 ⟨rfl, h9⟩; rw [h9]; clear h9)
      go_roundw
      case rel =>
        refine ⟨k + 1, fun j => if j = y then true else mk j, by omega, by go_num, (HR.out.set y _).congr (fun j _ => ?_), HM2.out, hb.setCell (Nat.le_refl _) _⟩
        by_cases e : j = y
        · simp [e]
        · simp [e]
      case measure => simp [intOf]; omega
    · go_wp2
      go_ret
      exact ⟨rfl, hb⟩
def holdsC (c : Nat → Nat) (f : Nat → Nat) : Nat → (Nat → Nat)
  | 0 => c
  | k + 1 => updN (holdsC c f k) (f k) (holdsC c f k (f k) + 1)
theorem holdsC_ge (c f : Nat → Nat) (b : Nat) : ∀ k, c b ≤ holdsC c f k b ∧ holdsC c f k b ≤ c b + k
  | 0 => ⟨Nat.le_refl _, Nat.le_refl _⟩
  | k + 1 => by
    have := holdsC_ge c f b k
    unfold holdsC updN
    split
    · rename_i e; subst e; omega
    · omega
set_option maxHeartbeats 400000 in
theorem share_not {w : World} {t m cap : Nat} {ao : Option Addr} (c1 : w.cell? ⟨t, 1, none⟩ = some (.slice ao m cap)) (hm : 0 < m) (x : Value) :
    Calls Try.prog 26 #[.pointer (some ⟨t, 0, none⟩), x] w fun e w' => e = .returned (.int .i64 1) ∧ w' = w := by
  have HE := hidd (isEmpty_no c1 hm)
  clear c1
  go_enter Try.func26, Try.ntmps26
  go_wp2_with (go_at_call 52; with_reducible refine HE.out.mono ?_; rintro e w9 ⟨rfl, h9⟩; rw [h9]; clear h9)
  go_ret
  exact ⟨rfl, rfl⟩
set_option maxRecDepth 20000 in
set_option maxHeartbeats 1600000 in
theorem share_ok {w : World} {g cb nb L W B S base t : Nat} {cnt : Nat → Nat} {num : Nat → Int} {v : Value} {bl : Nat → Nat} (hP : PoolAt w g cb nb L W B S cnt num) (hT : TblAt w base t g S v 0 bl) {ao : Option Addr} {n cap : Nat} {f : Nat → Nat} (hl : RdA w ao 1 n cap (fun i => .int .i64 (f i))) (hf : ∀ i, i < n → f i < B ∧ cnt (f i) ≠ 0) (hd : ∀ i j, i < j → j < n → f i ≠ f j) (hn : n ≤ 1000000000) (hc : ∀ b, b < B → cnt b ≤ 4611686017427387904) (h1 : g < base) (h2 : cb < base) (h3 : nb < base) (hbs : base ≤ w.heap.size) (hne : ∀ b off, ao = some ⟨b, off, none⟩ → b ≠ t ∧ b ≠ cb ∧ v.ownBlock ≠ some b ∧ b < w.heap.size) :
    Calls Try.prog 26 #[.pointer (some ⟨t, 0, none⟩), .slice ao n cap] w fun e w' => e = .returned (.int .i64 0) ∧ ∃ v', TblAt w' base t g S v' n f ∧ PoolAt w' g cb nb L W B S (holdsC cnt f n) num ∧ Chg w w' (fun b => b = t ∨ b = cb ∨ v.ownBlock = some b) ∧ (∀ k, v'.ownBlock = some k → v.ownBlock = some k ∨ w.heap.size ≤ k) := by
  obtain ⟨hg1, hg2, hg3⟩ := hT.off hP
  obtain ⟨c0, c1, c2⟩ := row3 hT.row
  obtain ⟨a0, k0, hv⟩ := hT.shape
  rw [hv] at c1
  have HE := hidd (isEmpty_yes c1)
  have HMS := hidd (mayShare_ok hP hl hf hd)
  have HP0 := hidd hP
  have HT0 := hidd (hT.congr (bl' := f) (fun i hi => absurd hi (by omega)))
  have HF := hidd hf
  have HC := hidd hc
  have HNE := hidd hne
  have HL := hidd hl
  have hcap : cap ≤ 9223372036854775807 := by have := hl.top; unfold maxLen at this; omega
  have hnc := hl.le
  clear hP hT hv hf hd hc hne c0 c1 hl
  go_enter Try.func26, Try.ntmps26
  go_wp2_with (first
    | (go_at_call 52; with_reducible refine HE.out.mono ?_; rintro e w9 ⟨rfl, h9⟩; rw [h9]; clear h9)
    | (go_at_call 53; with_reducible refine HMS.out.mono ?_; rintro e w1 ⟨rfl, f1⟩))
  clear HE HMS
  go_loopw [25] (fun i wr => ∃ (k : Nat) (v' : Value), k ≤ n ∧ i = .int .i64 k ∧ TblAt wr base t g S v' k f ∧ PoolAt wr g cb nb L W B S (holdsC cnt f k) num ∧ Chg w wr (fun b => b = t ∨ b = cb ∨ v.ownBlock = some b) ∧ (∀ k, v'.ownBlock = some k → v.ownBlock = some k ∨ w.heap.size ≤ k)) (fun i _ => n - (intOf i).toNat)
  case atStart => exact ⟨0, v, by omega, rfl, HT0.out.fresh f1, HP0.out.fresh f1, Chg.of_below _ f1, fun k hk => .inl hk⟩
  case round =>
    clear HP0 HT0 c2 f1
    obtain ⟨k, v', hk, rfl, hT, hP, hch, hvb⟩ := hrel
    obtain ⟨_, _, c2⟩ := row3 hT.row
    have hsz := hch.size
    by_cases hlt : k < n
    · have hrd := HL.out.chg hch (fun b off e => by obtain ⟨q1, q2, q3, _⟩ := HNE.out b off e; exact fun h => h.elim q1 (fun h => h.elim q2 q3))
      obtain ⟨b1, o1, rfl, hc1⟩ := hrd.one (by omega)
      have d1 := hc1 k hlt
      have HH : Hid (Calls Try.prog 51 #[.pointer (some ⟨g, 0, none⟩), .int .i64 (f k : Nat)] wr fun e w' => e = .returned (.int .i64 0) ∧ Hid (TblAt w' base t g S v' k f ∧ PoolAt w' g cb nb L W B S (holdsC cnt f (k + 1)) num ∧ Chg w w' (fun b => b = t ∨ b = cb ∨ v.ownBlock = some b))) := by
        have hfk := HF.out k hlt
        have hge := holdsC_ge cnt f (f k) k
        have hcb := HC.out (f k) hfk.1
        refine (hold_ok hP hfk.1 (by omega) (by omega)).mono ?_
        rintro e w' ⟨rfl, h5, h6⟩
        exact ⟨rfl, hT.chg h6 hg2 (fun b hb e => by have := (hT.own.lt b hb).1; omega), h5, hch.trans h6 (fun _ _ e => Or.inr (Or.inl e))⟩
      have HU : Hid (∀ w9, Hid (TblAt w9 base t g S v' k f ∧ PoolAt w9 g cb nb L W B S (holdsC cnt f (k + 1)) num ∧ Chg w w9 (fun b => b = t ∨ b = cb ∨ v.ownBlock = some b)) → Calls Try.prog 45 #[.pointer (some ⟨t, 0, none⟩), .int .i64 (f k : Nat)] w9 fun e w' => e = .returned (.tuple #[]) ∧ Hid (∃ v', TblAt w' base t g S v' (k + 1) f ∧ PoolAt w' g cb nb L W B S (holdsC cnt f (k + 1)) num ∧ Chg w w' (fun b => b = t ∨ b = cb ∨ v.ownBlock = some b) ∧ (∀ k, v'.ownBlock = some k → v.ownBlock = some k ∨ w.heap.size ≤ k))) := fun w9 ⟨hT9, hP9, hc9⟩ => by
        refine (push_any hT9 (x := f k) rfl (by omega) (by have := hc9.size; omega)).mono ?_
        rintro e w' ⟨rfl, u, h5, h6, h7⟩
        refine ⟨rfl, u, h5, ?_, ?_, ?_⟩
        · exact hP9.chg h6 (fun e => e.elim (fun e => hg1 e.symm) (fun e => by have := (hT9.own.lt _ e).1; omega)) (fun e => e.elim (fun e => hg2 e.symm) (fun e => by have := (hT9.own.lt _ e).1; omega)) (fun e => e.elim (fun e => hg3 e.symm) (fun e => by have := (hT9.own.lt _ e).1; omega))
        · exact hc9.trans h6 (fun x hx e => e.elim Or.inl (fun e => (hvb x e).elim (fun e => Or.inr (Or.inr e)) (fun e => by omega)))
        · intro x hx
          rcases h7 x hx with e | e
          · exact hvb x e
          · exact .inr (by have := hc9.size; omega)
      have C9 : Hid (∀ w9, Hid (TblAt w9 base t g S v' k f ∧ PoolAt w9 g cb nb L W B S (holdsC cnt f (k + 1)) num ∧ Chg w w9 (fun b => b = t ∨ b = cb ∨ v.ownBlock = some b)) → w9.cell? ⟨t, 2, none⟩ = some (.pointer (some ⟨g, 0, none⟩))) := fun w9 ⟨hT9, _, _⟩ => (row3 hT9.row).2.2
      clear hT hP hch hc1 hrd hvb
      generalize f k = y at HH HU d1
      go_wp2_with (first
        | (go_at_call 51; with_reducible refine HH.out.mono ?_; rintro e w9 ⟨rfl, H9⟩; have c9 := C9.out _ H9)
        | (go_at_call 45; with_reducible refine (HU.out _ H9).mono ?_; rintro e w10 ⟨rfl, H10⟩))
      clear HH HU
      go_roundw
      case rel =>
        obtain ⟨u, hu, hPu, hcu, hvu⟩ := H10.out
        exact ⟨k + 1, u, by omega, by go_num, hu, hPu, hcu, hvu⟩
      case measure => simp [intOf]; omega
    · obtain rfl : k = n := by omega
      go_wp2
      go_ret
      exact ⟨rfl, _, hT, hP, hch, hvb⟩
end Go.Proofs.Ytppcgfdogacmkaa
