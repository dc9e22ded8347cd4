import Derived.Test.YtppcgfdogacmkaaPF
namespace Go.Proofs.Ytppcgfdogacmkaa
open Go.RowKit
/-! Trim. -/
theorem Own.shrink {w : World} {base : Nat} {e : TypeId} {gb m k cap : Nat} {cs : Nat → Value} (h : Own w base e 1 (.slice (some ⟨gb, 0, none⟩) m cap) m cs) (hk : k ≤ m) : Own w base e 1 (.slice (some ⟨gb, 0, none⟩) k cap) k cs := by
  rcases h.2 with ⟨h1, _⟩ | ⟨g, cap', cur, h1, hb, hg, hnc, hcm, hcs, htake⟩
  · cases h1
  · cases h1
    refine ⟨by simp, .inr ⟨gb, cap, cur, rfl, hb, hg, by omega, hcm, hcs, ?_⟩⟩
    have h2 := congrArg (List.take (k * 1)) htake
    rw [List.take_take] at h2
    rw [show min (k * 1) (m * 1) = k * 1 by omega] at h2
    rw [h2, ← List.map_take, List.take_range]
    rw [show min (k * 1) (m * 1) = k * 1 by omega]
set_option maxRecDepth 20000 in
set_option maxHeartbeats 800000 in
theorem pop_any {w : World} {base t g S m : Nat} {v : Value} {bl : Nat → Nat} (h : TblAt w base t g S v (m + 1) bl) (hm : m ≤ 1073741824) :
    Calls Try.prog 50 #[.pointer (some ⟨t, 0, none⟩)] w fun e w' => e = .returned (.int .i64 (bl m : Nat)) ∧ ∃ v', TblAt w' base t g S v' m bl ∧ v'.ownBlock = v.ownBlock ∧ Chg w w' (fun b => b = t) := by
  obtain ⟨c0, c1, c2⟩ := row3 h.row
  have H := hidd h
  have f0 := h.row.frozen
  obtain ⟨gb, cap, F, rfl, h1, h2, h3, hr, hF⟩ := Own.row1 h.own (by omega)
  have d1 := hr.cell (i := m) (by omega)
  rw [hF _ (by omega)] at d1
  clear h hF hr c0 c2
  go_enter Try.func50, Try.ntmps50
  go_wp2
  go_ret
  have hh := H.out
  refine ⟨rfl, .slice (some ⟨gb, 0, none⟩) m cap, ⟨?_, ?_, hh.lt⟩, rfl, Chg.of_set w t 1 _⟩
  · exact row3_set1 hh.row
  · exact Own.chg (Chg.of_set w t 1 _) (Own.shrink hh.own (by omega)) (fun b hb e => by
      have h5 : gb = b := by simpa [Value.ownBlock] using hb
      have := hh.lt
      omega)
theorem updN_self {cnt : Nat → Nat} {b x : Nat} (h : cnt b = x) : updN cnt b x = cnt := by
  funext i
  unfold updN
  by_cases e : i = b
  · rw [if_pos e, e, h]
  · rw [if_neg e]
theorem drop_any {w : World} {g cb nb L W B S b : Nat} {cnt : Nat → Nat} {num : Nat → Int} (h : PoolAt w g cb nb L W B S cnt num) (hb : b < B) (hc : cnt b ≤ 4611686018427387904) :
    Calls Try.prog 49 #[.pointer (some ⟨g, 0, none⟩), .int .i64 b] w fun e w' => ∃ x, e = .returned (.int .i64 x) ∧ PoolAt w' g cb nb L W B S (updN cnt b (cnt b - 1)) num ∧ Chg w w' (fun x => x = cb) := by
  by_cases h0 : cnt b = 0
  · refine (drop_bad h b (by rw [cntI_nat cnt hb, h0])).mono ?_
    rintro e w' ⟨rfl, rfl⟩
    exact ⟨_, rfl, by rw [updN_self (by omega)]; exact h, Chg.refl _ _⟩
  · refine (drop_ok h hb h0 hc).mono ?_
    rintro e w' ⟨rfl, h1, h2⟩
    exact ⟨_, rfl, h1, h2⟩
/-- the counts behind k pops from a list of m -/
def drops (bl : Nat → Nat) (m : Nat) : Nat → (Nat → Nat) → (Nat → Nat)
  | 0, c => c
  | k + 1, c => updN (drops bl m k c) (bl (m - 1 - k)) (drops bl m k c (bl (m - 1 - k)) - 1)
theorem drops_le (bl : Nat → Nat) (m : Nat) (c : Nat → Nat) : ∀ k b, drops bl m k c b ≤ c b
  | 0, _ => Nat.le_refl _
  | k + 1, b => by
    have := drops_le bl m c k b
    unfold drops updN
    split
    · rename_i e; subst e; omega
    · exact this
theorem drops_ne (bl : Nat → Nat) (m : Nat) (c : Nat → Nat) (b : Nat) : ∀ k, (∀ j, j < k → bl (m - 1 - j) ≠ b) → drops bl m k c b = c b
  | 0, _ => rfl
  | k + 1, h => by
    unfold drops
    rw [updN_ne _ _ (fun e => h k (by omega) e.symm), drops_ne bl m c b k (fun j hj => h j (by omega))]
theorem drops_free (bl : Nat → Nat) (m B : Nat) (c : Nat → Nat) : ∀ k, k ≤ m → (∀ i, m - k ≤ i → i < m → bl i < B ∧ c (bl i) = 1) → (∀ i j, i < j → j < m → bl i ≠ bl j) → freeN (drops bl m k c) B = freeN c B + k
  | 0, _, _, _ => rfl
  | k + 1, hk, h, hd => by
    have ih := drops_free bl m B c k (by omega) (fun i h1 h2 => h i (by omega) h2) hd
    have h1 := h (m - 1 - k) (by omega) (by omega)
    have h2 : drops bl m k c (bl (m - 1 - k)) = 1 := by
      rw [drops_ne bl m c _ k (fun j hj e => hd (m - 1 - k) (m - 1 - j) (by omega) (by omega) e.symm)]
      exact h1.2
    have h3 := freeN_upd (cnt := drops bl m k c) 0 h1.1
    rw [h2, if_neg (by decide), if_pos rfl] at h3
    show freeN (updN (drops bl m k c) (bl (m - 1 - k)) (drops bl m k c (bl (m - 1 - k)) - 1)) B = _
    rw [h2]
    show freeN (updN (drops bl m k c) (bl (m - 1 - k)) 0) B = _
    omega
/-- how long the table's list is -/
def lenAt (w : World) (t : Nat) : Nat := match w.cell? ⟨t, 1, none⟩ with | some (.slice _ n _) => n | _ => 0
theorem TblAt.lenAt {w : World} {base t g S : Nat} {v : Value} {m : Nat} {bl : Nat → Nat} (h : TblAt w base t g S v m bl) : lenAt w t = m := by
  obtain ⟨ao, cap, rfl⟩ := h.shape
  unfold Ytppcgfdogacmkaa.lenAt
  rw [(row3 h.row).2.1]
set_option maxRecDepth 20000 in
set_option maxHeartbeats 1600000 in
theorem trim_any {w : World} {g cb nb L W B S base t m n : Nat} {cnt : Nat → Nat} {num : Nat → Int} {v : Value} {bl : Nat → Nat} (hP : PoolAt w g cb nb L W B S cnt num) (hT : TblAt w base t g S v m bl) (hm : m ≤ 1073741824) (hn : n ≤ 9223372036854775807) (hbl : ∀ i, i < m → bl i < B) (hc : ∀ b, b < B → cnt b ≤ 4611686018427387904) (h1 : g < base) (h2 : cb < base) (h3 : nb < base) (h4 : t ≠ cb) :
    Calls Try.prog 22 #[.pointer (some ⟨t, 0, none⟩), .int .i64 n] w fun e w' => e = .returned (.int .i64 0) ∧ ∃ v', TblAt w' base t g S v' (min m (needs n S)) bl ∧ v'.ownBlock = v.ownBlock ∧ PoolAt w' g cb nb L W B S (drops bl m (m - needs n S) cnt) num ∧ Chg w w' (fun b => b = t ∨ b = cb) := by
  have hS := hP.hS
  have htg : t ≠ g := fun e => by
    subst e
    obtain ⟨c, hc, _, _⟩ := hP.row
    obtain ⟨d, hd, _, _⟩ := hT.row
    rw [hc] at hd
    cases hd
  have htn : t ≠ nb := fun e => by
    subst e
    obtain ⟨c, hc, _, _⟩ := hP.nums
    obtain ⟨d, hd, _, _⟩ := hT.row
    rw [hc] at hd
    cases hd
  have HP0 := hidd hP
  have HT0 := hidd hT
  have HBL := hidd hbl
  have HCB := hidd hc
  obtain ⟨N, hN⟩ : ∃ N, N = needs n S := ⟨_, rfl⟩
  rw [← hN]
  have HN := hidd hN
  have hNle : N ≤ n + 1 := hN ▸ needs_le n S
  clear hP hT hbl hc hN
  go_enter Try.func22, Try.ntmps22
  go_wp2
  go_loopw [11] (fun _ wr => ∃ (k : Nat) (v' : Value), k ≤ m - N ∧ TblAt wr base t g S v' (m - k) bl ∧ v'.ownBlock = v.ownBlock ∧ PoolAt wr g cb nb L W B S (drops bl m k cnt) num ∧ Chg w wr (fun b => b = t ∨ b = cb)) (fun _ wr => lenAt wr t)
  case atStart => exact ⟨0, v, by omega, HT0.out, rfl, HP0.out, Chg.refl _ _⟩
  case round =>
    clear HP0 HT0
    obtain ⟨k, v', hk, hT, hv, hP, hch⟩ := hrel
    obtain ⟨c0, c1, c2⟩ := row3 hT.row
    obtain ⟨ao, cap, rfl⟩ := hT.shape
    have HL := hidd (lacking_any c0 c1 hS (by omega) hn)
    rw [← HN.out] at HL
    have HT := hidd hT
    have HP := hidd hP
    clear hT hP
    by_cases hlt : k < m - N
    · have b1 : decide (((N : Int) - ((m - k : Nat) : Int)) < 0) = true := by simp; omega
      have hT1 : TblAt wr.drew base t g S (.slice ao (m - k) cap) ((m - 1 - k) + 1) bl := by
        have := HT.out
        rw [show m - k = (m - 1 - k) + 1 by omega] at this ⊢
        exact this.fresh (Below.refl _ _).drew
      have HC : Hid (Calls Try.prog 50 #[.pointer (some ⟨t, 0, none⟩)] wr.drew fun e w' => e = .returned (.int .i64 (bl (m - 1 - k) : Nat)) ∧ w'.cell? ⟨t, 2, none⟩ = some (.pointer (some ⟨g, 0, none⟩)) ∧ Hid (∃ v', TblAt w' base t g S v' (m - 1 - k) bl ∧ v'.ownBlock = v.ownBlock ∧ PoolAt w' g cb nb L W B S (drops bl m k cnt) num ∧ Chg w w' (fun b => b = t ∨ b = cb))) := by
        refine (pop_any hT1 (by omega)).mono ?_
        rintro e w' ⟨rfl, u, hu, hu2, hcu⟩
        refine ⟨rfl, (row3 hu.row).2.2, u, hu, hu2.trans hv, ?_, ?_⟩
        · exact (HP.out.fresh (Below.refl _ _).drew).chg hcu (fun e => htg e.symm) (fun e => h4 e.symm) (fun e => htn e.symm)
        · exact (hch.post (Below.refl _ _).drew).trans hcu (fun _ _ e => Or.inl e)
      have HD : Hid (∀ w9, Hid (∃ v', TblAt w9 base t g S v' (m - 1 - k) bl ∧ v'.ownBlock = v.ownBlock ∧ PoolAt w9 g cb nb L W B S (drops bl m k cnt) num ∧ Chg w w9 (fun b => b = t ∨ b = cb)) → Calls Try.prog 49 #[.pointer (some ⟨g, 0, none⟩), .int .i64 (bl (m - 1 - k) : Nat)] w9 fun e w' => ∃ x, e = .returned (.int .i64 x) ∧ w'.cell? ⟨t, 2, none⟩ = some (.pointer (some ⟨g, 0, none⟩)) ∧ Hid (∃ v', TblAt w' base t g S v' (m - (k + 1)) bl ∧ v'.ownBlock = v.ownBlock ∧ PoolAt w' g cb nb L W B S (drops bl m (k + 1) cnt) num ∧ Chg w w' (fun b => b = t ∨ b = cb))) := fun w9 ⟨u, hu, hu2, hPu, hcu⟩ => by
        have hb := HBL.out (m - 1 - k) (by omega)
        refine (drop_any hPu hb (Nat.le_trans (drops_le bl m cnt k _) (HCB.out _ hb))).mono ?_
        rintro e w' ⟨x, rfl, h5, h6⟩
        have hu' := hu.chg h6 h4 (fun b hb e => by have := (hu.own.lt b hb).1; omega)
        rw [show m - 1 - k = m - (k + 1) by omega] at hu'
        exact ⟨x, rfl, (row3 hu'.row).2.2, u, hu', hu2, h5, hcu.trans h6 (fun _ _ e => Or.inr e)⟩
      have s0 : wr.drew.cell? ⟨t, 2, none⟩ = some (.pointer (some ⟨g, 0, none⟩)) := c2
      have HLN : Hid (lenAt wr t = m - k) := HT.out.lenAt
      clear hT1 HT HP
      generalize bl (m - 1 - k) = bx at *
      go_wp2_with (go_at_call 44; refine HL.out.mono ?_; rintro e w9 ⟨rfl, h9⟩; rw [h9]; clear h9)
      go_region_held3 (fun w' => w'.cell? ⟨t, 2, none⟩ = some (.pointer (some ⟨g, 0, none⟩)))
        (first | (with_reducible exact s0) | (with_reducible exact k2) | (with_reducible exact y2) | go_keep)
        (first
          | (go_at_call 50; have hc := HC.out; with_reducible refine hc.mono ?_; clear hc; rintro e w9 ⟨rfl, k2, H9⟩)
          | (go_at_call 49; have hc := HD.out _ H9; with_reducible refine hc.mono ?_; clear hc; rintro e w10 ⟨x10, rfl, y2, H10⟩))
      all_goals
        clear HC HD HL
        go_wp2
        go_roundw
        case rel =>
          obtain ⟨u, hu, hu2, hPu, hcu⟩ := H10.out
          exact ⟨k + 1, u, by omega, hu, hu2, hPu, hcu⟩
        case measure =>
          obtain ⟨u, hu, hu2, hPu, hcu⟩ := H10.out
          rw [hu.lenAt, HLN.out]; omega
    · have b1 : decide (((N : Int) - ((m - k : Nat) : Int)) < 0) = false := by simp; omega
      go_wp2_with (go_at_call 44; refine HL.out.mono ?_; rintro e w9 ⟨rfl, h9⟩; rw [h9]; clear h9)
      go_ret
      obtain rfl : k = m - N := by omega
      have hT := HT.out
      rw [show m - (m - N) = min m N by omega] at hT hv
      exact ⟨rfl, _, hT, hv, HP.out, hch⟩
end Go.Proofs.Ytppcgfdogacmkaa
