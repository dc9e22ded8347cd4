import Derived.Test.YtppcgfdogacmkaaPG
namespace Go.Proofs.Ytppcgfdogacmkaa
open Go.RowKit
/-! Grow: block by block the lowest free one. -/
/-- the lowest free one below n; n, if there is none -/
def lowF (c : Nat → Nat) : Nat → Nat
  | 0 => 0
  | n + 1 => if lowF c n < n then lowF c n else if c n = 0 then n else n + 1
theorem lowF_spec (c : Nat → Nat) : ∀ n, (lowF c n < n → c (lowF c n) = 0) ∧ lowF c n ≤ n ∧ ∀ j, j < lowF c n → j < n → c j ≠ 0
  | 0 => ⟨fun h => absurd h (by simp [lowF]), Nat.le_refl _, fun j _ h => absurd h (by omega)⟩
  | n + 1 => by
    obtain ⟨h1, h2, h3⟩ := lowF_spec c n
    unfold lowF
    by_cases a : lowF c n < n
    · rw [if_pos a]
      exact ⟨fun _ => h1 a, by omega, fun j hj _ => h3 j hj (by omega)⟩
    · rw [if_neg a]
      have e : lowF c n = n := by omega
      rw [e] at h3
      by_cases b : c n = 0
      · rw [if_pos b]
        exact ⟨fun _ => b, by omega, fun j hj _ => h3 j hj hj⟩
      · rw [if_neg b]
        exact ⟨fun h => by omega, by omega, fun j hj hj2 => if k : j = n then k ▸ b else h3 j (by omega) (by omega)⟩
theorem lowF_lt {c : Nat → Nat} {B : Nat} (h : 0 < freeN c B) : lowF c B < B := by
  obtain ⟨b, hb, h0⟩ := freeN_pos h
  obtain ⟨h1, h2, h3⟩ := lowF_spec c B
  by_cases e : lowF c B = B
  · exact absurd h0 (h3 b (by omega) hb)
  · omega
/-- the counts behind k takings, the block that the k-th takes, the numbers -/
def takesC (B : Nat) (c : Nat → Nat) : Nat → (Nat → Nat)
  | 0 => c
  | k + 1 => updN (takesC B c k) (lowF (takesC B c k) B) 1
def tk (B : Nat) (c : Nat → Nat) (k : Nat) : Nat := lowF (takesC B c k) B
def takesN (B n : Nat) (c : Nat → Nat) (f : Nat → Int) : Nat → (Nat → Int)
  | 0 => f
  | k + 1 => zeroed (takesN B n c f k) (tk B c k * n) n
theorem takes_free {B : Nat} {c : Nat → Nat} : ∀ k, k ≤ freeN c B → freeN (takesC B c k) B + k = freeN c B
  | 0, _ => rfl
  | k + 1, h => by
    have ih := takes_free (B := B) (c := c) k (by omega)
    have hl := lowF_lt (c := takesC B c k) (B := B) (by omega)
    have := freeN_take (x := 1) hl ((lowF_spec _ _).1 hl) (by decide)
    show freeN (updN (takesC B c k) (lowF (takesC B c k) B) 1) B + (k + 1) = _
    omega
theorem tk_lt {B : Nat} {c : Nat → Nat} {k : Nat} (h : k < freeN c B) : tk B c k < B ∧ takesC B c k (tk B c k) = 0 := by
  have := takes_free (B := B) (c := c) k (by omega)
  have hl := lowF_lt (c := takesC B c k) (B := B) (by omega)
  exact ⟨hl, (lowF_spec _ _).1 hl⟩
theorem takes_kept {B : Nat} {c : Nat → Nat} {b : Nat} : ∀ k, (∀ i, i < k → tk B c i ≠ b) → takesC B c k b = c b
  | 0, _ => rfl
  | k + 1, h => by
    show updN (takesC B c k) (tk B c k) 1 b = _
    rw [updN_ne _ _ (fun e => h k (by omega) e.symm), takes_kept k (fun i hi => h i (by omega))]
theorem takes_pos {B : Nat} {c : Nat → Nat} {b : Nat} : ∀ k, (c b ≠ 0 ∨ ∃ i, i < k ∧ tk B c i = b) → takesC B c k b ≠ 0
  | 0, h => by
    rcases h with h | ⟨i, hi, _⟩
    · exact h
    · omega
  | k + 1, h => by
    show updN (takesC B c k) (lowF (takesC B c k) B) 1 b ≠ 0
    by_cases e : b = lowF (takesC B c k) B
    · rw [e, updN_at]; decide
    · rw [updN_ne _ _ e]
      refine takes_pos k (h.imp id (fun ⟨i, hi, hb⟩ => ⟨i, ?_, hb⟩))
      by_cases ei : i = k
      · subst ei; exact absurd hb.symm e
      · omega
/-- what the k-th taking takes was free at first, and is taken once -/
theorem tk_free {B : Nat} {c : Nat → Nat} {k : Nat} (h : k < freeN c B) : c (tk B c k) = 0 := by
  by_cases e : c (tk B c k) = 0
  · exact e
  · exact absurd (tk_lt h).2 (takes_pos k (.inl e))
theorem tk_ne {B : Nat} {c : Nat → Nat} {i k : Nat} (h : k < freeN c B) (hi : i < k) : tk B c i ≠ tk B c k := fun e => absurd (tk_lt h).2 (takes_pos k (.inr ⟨i, hi, e⟩))
theorem takes_one {B : Nat} {c : Nat → Nat} {i : Nat} : ∀ k, i < k → k ≤ freeN c B → takesC B c k (tk B c i) = 1
  | 0, h, _ => absurd h (by omega)
  | k + 1, h, hk => by
    show updN (takesC B c k) (tk B c k) 1 (tk B c i) = 1
    by_cases e : i = k
    · subst e; exact updN_at _ _ _
    · rw [updN_ne _ _ (tk_ne (by omega) (by omega)), takes_one k (by omega) (by omega)]
theorem takesN_kept {B n : Nat} {c : Nat → Nat} {f : Nat → Int} {q : Nat} : ∀ k, (∀ i, i < k → ¬ (tk B c i * n ≤ q ∧ q < tk B c i * n + n)) → takesN B n c f k q = f q
  | 0, _ => rfl
  | k + 1, h => by
    show zeroed (takesN B n c f k) (tk B c k * n) n q = _
    unfold zeroed
    rw [if_neg (h k (by omega)), takesN_kept k (fun i hi => h i (by omega))]
/-- a list with more behind it -/
def extB (bl : Nat → Nat) (m : Nat) (more : Nat → Nat) : Nat → Nat := fun i => if i < m then bl i else more (i - m)
theorem extB_lt {bl more : Nat → Nat} {m i : Nat} (h : i < m) : extB bl m more i = bl i := if_pos h
theorem extB_at {bl more : Nat → Nat} {m : Nat} (i : Nat) : extB bl m more (m + i) = more i := by unfold extB; rw [if_neg (by omega), show m + i - m = i by omega]
theorem TblAt.congr {w : World} {base t g S : Nat} {v : Value} {m : Nat} {bl bl' : Nat → Nat} (h : TblAt w base t g S v m bl) (e : ∀ i, i < m → bl i = bl' i) : TblAt w base t g S v m bl' := ⟨h.row, h.own.congr (fun j hj => by rw [e j (by omega)]), h.lt⟩
theorem take_low {w : World} {g cb nb L W B S q n T : Nat} {cnt : Nat → Nat} {num : Nat → Int} (h : PoolAt w g cb nb L W B S cnt num) (G : Geo L W B S q n T) (hf : 0 < freeN cnt B) :
    Calls Try.prog 11 #[.pointer (some ⟨g, 0, none⟩)] w fun e w' => e = .returned (.tuple #[.int .i64 (lowF cnt B : Nat), .int .i64 0]) ∧ PoolAt w' g cb nb L W B S (updN cnt (lowF cnt B) 1) (zeroed num (lowF cnt B * n) n) ∧ Chg w w' (fun x => x = cb ∨ x = nb) :=
  take_hit h G (lowF_lt hf) ((lowF_spec cnt B).1 (lowF_lt hf)) (fun j hj => (lowF_spec cnt B).2.2 j hj (Nat.lt_trans hj (lowF_lt hf)))
theorem TblAt.off {w : World} {base t g S : Nat} {v : Value} {m : Nat} {bl : Nat → Nat} (h : TblAt w base t g S v m bl) {g' cb nb L W B S' : Nat} {cnt : Nat → Nat} {num : Nat → Int} (hP : PoolAt w g' cb nb L W B S' cnt num) : t ≠ g' ∧ t ≠ cb ∧ t ≠ nb := by
  refine ⟨fun e => ?_, fun e => ?_, fun e => ?_⟩
  · subst e
    obtain ⟨c, hc, _, _⟩ := hP.row
    obtain ⟨d, hd, _, _⟩ := h.row
    rw [hc] at hd
    cases hd
  · subst e
    obtain ⟨c, hc, _, _⟩ := hP.cnts
    obtain ⟨d, hd, _, _⟩ := h.row
    rw [hc] at hd
    cases hd
  · subst e
    obtain ⟨c, hc, _, _⟩ := hP.nums
    obtain ⟨d, hd, _, _⟩ := h.row
    rw [hc] at hd
    cases hd
set_option maxHeartbeats 400000 in
theorem grow_neg {w : World} {t : Nat} {n : Int} (hn : n < 0) : Calls Try.prog 17 #[.pointer (some ⟨t, 0, none⟩), .int .i64 n] w fun e w' => e = .returned (.int .i64 1) ∧ w' = w := by
  go_enter Try.func17, Try.ntmps17
  go_wp2
  go_ret
  exact ⟨rfl, rfl⟩
set_option maxHeartbeats 800000 in
theorem grow_full {w : World} {g cb nb L W B S base t m n : Nat} {cnt : Nat → Nat} {num : Nat → Int} {v : Value} {bl : Nat → Nat} (hP : PoolAt w g cb nb L W B S cnt num) (hT : TblAt w base t g S v m bl) (hm : m ≤ 1073741824) (hn : n ≤ 9223372036854775807) (hf : freeN cnt B + m < needs n S) :
    Calls Try.prog 17 #[.pointer (some ⟨t, 0, none⟩), .int .i64 n] w fun e w' => e = .returned (.int .i64 60) ∧ w' = w := by
  obtain ⟨c0, c1, c2⟩ := row3 hT.row
  obtain ⟨ao, cap, rfl⟩ := hT.shape
  have HL := hidd (lacking_any c0 c1 hP.hS hm hn)
  have HF := hidd (left_any hP)
  have b1 : ((freeN cnt B : Nat) : Int) < (needs n S : Int) - m := by omega
  generalize freeN cnt B = fr at *
  generalize needs n S = N at *
  clear hP hT
  go_enter Try.func17, Try.ntmps17
  go_wp2_with (first
    | (go_at_call 44; refine HL.out.mono ?_; rintro e w9 ⟨rfl, h9⟩; rw [h9]; clear h9)
    | (go_at_call 19; refine HF.out.mono ?_; rintro e w9 ⟨rfl, h9⟩; rw [h9]; clear h9))
  go_ret
  exact ⟨rfl, rfl⟩
set_option maxRecDepth 20000 in
set_option maxHeartbeats 1600000 in
theorem grow_any {w : World} {g cb nb L W B S q n' T base t m n : Nat} {cnt : Nat → Nat} {num : Nat → Int} {v : Value} {bl : Nat → Nat} (hP : PoolAt w g cb nb L W B S cnt num) (G : Geo L W B S q n' T) (hT : TblAt w base t g S v m bl) (hm : m ≤ 1000000000) (hn : n ≤ 9223372036854775807) (hf : needs n S ≤ freeN cnt B + m) (h1 : g < base) (h2 : cb < base) (h3 : nb < base) (hbs : base ≤ w.heap.size) :
    Calls Try.prog 17 #[.pointer (some ⟨t, 0, none⟩), .int .i64 n] w fun e w' => e = .returned (.int .i64 0) ∧ ∃ v', TblAt w' base t g S v' (m + (needs n S - m)) (extB bl m (tk B cnt)) ∧ PoolAt w' g cb nb L W B S (takesC B cnt (needs n S - m)) (takesN B n' cnt num (needs n S - m)) ∧ Chg w w' (fun b => b = t ∨ b = cb ∨ b = nb ∨ v.ownBlock = some b) ∧ (∀ k, v'.ownBlock = some k → v.ownBlock = some k ∨ w.heap.size ≤ k) := by
  obtain ⟨hg1, hg2, hg3⟩ := hT.off hP
  have hB := hP.hB.2
  have hfl := freeN_le cnt B
  have hS := hP.hS
  have HP0 := hidd hP
  have HT0 := hidd (hT.congr (bl' := extB bl m (tk B cnt)) (fun i hi => (extB_lt hi).symm))
  have HG := hidd G
  obtain ⟨c0, c1, c2⟩ := row3 hT.row
  obtain ⟨ao, cap, hv⟩ := hT.shape
  rw [hv] at c1
  have HL := hidd (lacking_any c0 c1 hS (by omega) hn)
  have HF := hidd (left_any hP)
  obtain ⟨K, hK⟩ : ∃ K, K = needs n S - m := ⟨_, rfl⟩
  rw [← hK]
  have hK2 : K ≤ freeN cnt B := by omega
  obtain ⟨D, hD⟩ : ∃ D : Int, D = (needs n S : Int) - m := ⟨_, rfl⟩
  rw [← hD] at HL
  have hDK : (K : Int) = max D 0 := by omega
  have hD1 : ¬ ((freeN cnt B : Nat) : Int) < D := by omega
  have HFK := hidd hK2
  generalize freeN cnt B = fr at HF hD1 hfl hK2
  clear hf hK hD hP hT hv G c0 c1
  go_enter Try.func17, Try.ntmps17
  go_wp2_with (first
    | (go_at_call 44; refine HL.out.mono ?_; rintro e w9 ⟨rfl, h9⟩; rw [h9]; clear h9)
    | (go_at_call 19; refine HF.out.mono ?_; rintro e w9 ⟨rfl, h9⟩; rw [h9]; clear h9))
  clear HL HF
  go_loopw [27] (fun i wr => ∃ (k : Nat) (v' : Value), k ≤ K ∧ i = .int .i64 k ∧ TblAt wr base t g S v' (m + k) (extB bl m (tk B cnt)) ∧ PoolAt wr g cb nb L W B S (takesC B cnt k) (takesN B n' cnt num k) ∧ Chg w wr (fun b => b = t ∨ b = cb ∨ b = nb ∨ v.ownBlock = some b) ∧ (∀ k, v'.ownBlock = some k → v.ownBlock = some k ∨ w.heap.size ≤ k)) (fun i _ => K - (intOf i).toNat)
  case atStart => exact ⟨0, v, by omega, rfl, HT0.out, HP0.out, Chg.refl _ _, fun k hk => .inl hk⟩
  case round =>
    clear HP0 HT0 c2
    obtain ⟨k, v', hk, rfl, hT, hP, hch, hv⟩ := hrel
    obtain ⟨_, _, c2⟩ := row3 hT.row
    have hsz := hch.size
    by_cases hlt : k < K
    · have b1 : decide ((k : Int) < D) = true := by simp; omega
      have HK : Hid (Calls Try.prog 11 #[.pointer (some ⟨g, 0, none⟩)] wr fun e w' => e = .returned (.tuple #[.int .i64 (tk B cnt k : Nat), .int .i64 0]) ∧ w'.cell? ⟨t, 2, none⟩ = some (.pointer (some ⟨g, 0, none⟩)) ∧ Hid (TblAt w' base t g S v' (m + k) (extB bl m (tk B cnt)) ∧ PoolAt w' g cb nb L W B S (takesC B cnt (k + 1)) (takesN B n' cnt num (k + 1)) ∧ Chg w w' (fun b => b = t ∨ b = cb ∨ b = nb ∨ v.ownBlock = some b))) := by
        have hfree : 0 < freeN (takesC B cnt k) B := by have := takes_free (B := B) (c := cnt) k (by have := HFK.out; omega); have := HFK.out; omega
        refine (take_low hP HG.out hfree).mono ?_
        rintro e w' ⟨rfl, h5, h6⟩
        have hT' := hT.chg h6 (fun e => e.elim hg2 hg3) (fun b hb e => by have := (hT.own.lt b hb).1; rcases e with e | e <;> omega)
        exact ⟨rfl, (row3 hT'.row).2.2, hT', h5, hch.trans h6 (fun _ _ e => e.elim (fun e => Or.inr (Or.inl e)) (fun e => Or.inr (Or.inr (Or.inl e))))⟩
      have HU : Hid (∀ w9, Hid (TblAt w9 base t g S v' (m + k) (extB bl m (tk B cnt)) ∧ PoolAt w9 g cb nb L W B S (takesC B cnt (k + 1)) (takesN B n' cnt num (k + 1)) ∧ Chg w w9 (fun b => b = t ∨ b = cb ∨ b = nb ∨ v.ownBlock = some b)) → Calls Try.prog 45 #[.pointer (some ⟨t, 0, none⟩), .int .i64 (tk B cnt k : Nat)] w9 fun e w' => e = .returned (.tuple #[]) ∧ Hid (∃ v', TblAt w' base t g S v' (m + (k + 1)) (extB bl m (tk B cnt)) ∧ PoolAt w' g cb nb L W B S (takesC B cnt (k + 1)) (takesN B n' cnt num (k + 1)) ∧ Chg w w' (fun b => b = t ∨ b = cb ∨ b = nb ∨ v.ownBlock = some b) ∧ (∀ k, v'.ownBlock = some k → v.ownBlock = some k ∨ w.heap.size ≤ k))) := fun w9 ⟨hT9, hP9, hc9⟩ => by
        refine (push_any hT9 (extB_at k) (by omega) (by have := hc9.size; omega)).mono ?_
        rintro e w' ⟨rfl, u, h5, h6, h7⟩
        refine ⟨rfl, u, h5, ?_, ?_, ?_⟩
        · exact hP9.chg h6 (fun e => e.elim (fun e => hg1 e.symm) (fun e => by have := (hT9.own.lt _ e).1; omega)) (fun e => e.elim (fun e => hg2 e.symm) (fun e => by have := (hT9.own.lt _ e).1; omega)) (fun e => e.elim (fun e => hg3 e.symm) (fun e => by have := (hT9.own.lt _ e).1; omega))
        · exact hc9.trans h6 (fun x hx e => e.elim Or.inl (fun e => (hv x e).elim (fun e => Or.inr (Or.inr (Or.inr e))) (fun e => by omega)))
        · intro x hx
          rcases h7 x hx with e | e
          · exact hv x e
          · exact .inr (by have := hc9.size; omega)
      clear hT hP hch hv
      generalize tk B cnt k = bx at HK HU
      go_wp2_with (first
        | (go_at_call 11; refine HK.out.mono ?_; rintro e w9 ⟨rfl, c9, H9⟩)
        | (go_at_call 45; refine (HU.out _ H9).mono ?_; rintro e w10 ⟨rfl, H10⟩))
      clear HK HU
      go_roundw
      case rel =>
        obtain ⟨u, hu, hPu, hcu, hvu⟩ := H10.out
        exact ⟨k + 1, u, by omega, by go_num, hu, hPu, hcu, hvu⟩
      case measure => simp [intOf]; omega
    · obtain rfl : k = K := by omega
      have b1 : decide ((k : Int) < D) = false := by simp; omega
      go_wp2
      go_ret
      exact ⟨rfl, _, hT, hP, hch, hv⟩
end Go.Proofs.Ytppcgfdogacmkaa
