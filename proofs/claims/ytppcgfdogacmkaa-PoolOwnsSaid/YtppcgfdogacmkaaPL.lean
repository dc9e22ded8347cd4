import Derived.Test.YtppcgfdogacmkaaPK
namespace Go.Proofs.Ytppcgfdogacmkaa
open Go.RowKit
/-! Own. -/
theorem own_of_row {w : World} {base gb cap n : Nat} {e : TypeId} {F cs : Nat → Value} (hr : w.rowIs gb e cap F) (hb : base ≤ gb) (hn : n ≤ cap) (hc : cap ≤ maxLen) (hF : ∀ j, j < n → F j = cs j) : Own w base e 1 (.slice (some ⟨gb, 0, none⟩) n cap) n cs := by
  obtain ⟨c, h1, h2, h3⟩ := hr
  refine ⟨by simp, .inr ⟨gb, cap, c, rfl, hb, h1, hn, hc, by omega, ?_⟩⟩
  refine List.ext_getElem? (fun j => ?_)
  by_cases hj : j < n
  · rw [List.getElem?_take, if_pos (by omega), List.getElem?_map, List.getElem?_range (by omega), Option.map_some, Array.getElem?_toList, h3 j (by omega), hF j hj]
  · rw [List.getElem?_eq_none (by simp; omega), List.getElem?_eq_none (by simp; omega)]
set_option maxRecDepth 20000 in
set_option maxHeartbeats 1600000 in
theorem lset_any {w : World} {base t g S m n x : Nat} {v : Value} {bl : Nat → Nat} (h : TblAt w base t g S v m bl) (hS : 1 ≤ S ∧ S ≤ 16) (hm : m ≤ 1073741824) (hp : n / S < m) :
    Calls Try.prog 54 #[.pointer (some ⟨t, 0, none⟩), .int .i64 n, .int .i64 x] w fun e w' => e = .returned (.tuple #[]) ∧ TblAt w' base t g S v m (updN bl (n / S) x) ∧ Chg w w' (fun b => v.ownBlock = some b) := by
  obtain ⟨c0, c1, c2⟩ := row3 h.row
  have H := hidd h
  obtain ⟨gb, cap, F, rfl, h1, h2, h3, hr, hF⟩ := Own.row1 h.own (Nat.lt_of_le_of_lt (Nat.zero_le _) hp)
  have d1 := hr.cell (i := n / S) (Nat.lt_of_lt_of_le hp h1)
  have f1 := hr.frozen
  have hz : ¬ (S : Int) = 0 := by omega
  have hz' : ((S : Int) == 0) = false := by simp; omega
  have e3 : (n : Int).tdiv (S : Int) = ((n / S : Nat) : Int) := rfl
  have e4 : (n : Int) / (S : Int) = ((n / S : Nat) : Int) := rfl
  have hd := Nat.div_le_self n S
  have hlt := h.lt
  have HO : Hid (Own (w.setCell ⟨gb, n / S, none⟩ (.int .i64 x)).drew base 3 1 (.slice (some ⟨gb, 0, none⟩) m cap) m (fun i => .int .i64 (updN bl (n / S) x i))) :=
    own_of_row (hr.set (n / S) _).drew h3 h1 h2 (fun j hj => by
      unfold updN
      by_cases e : j = n / S
      · rw [if_pos e, if_pos e]
      · rw [if_neg e, if_neg e, hF j hj])
  clear h hF hr c2
  generalize n / S = d at *
  go_enter Try.func54, Try.ntmps54
  go_wp2
  go_region
  go_wp2
  go_end0
  have hc : Chg w (w.setCell ⟨gb, d, none⟩ (.int .i64 x)).drew (fun b => (Value.slice (some ⟨gb, 0, none⟩) m cap).ownBlock = some b) := ((Chg.of_set w gb d (.int .i64 x)).imp (fun b _ e => by rw [e]; rfl)).post (Below.refl _ _).drew
  exact ⟨rfl, ⟨hc.row H.out.row (fun e => by have : gb = t := by simpa [Value.ownBlock] using e
                                             omega), HO.out, hlt⟩, hc⟩
set_option maxHeartbeats 400000 in
theorem own_neg {w : World} {t : Nat} {n : Int} (hn : n < 0) : Calls Try.prog 27 #[.pointer (some ⟨t, 0, none⟩), .int .i64 n] w fun e w' => e = .returned (.int .i64 62) ∧ Below w.heap.size w w' := by
  have HR := hidd (reaches_neg (w := w) (t := t) hn)
  go_enter Try.func27, Try.ntmps27
  go_wp2_with (go_at_call 47; with_reducible refine HR.out.mono ?_; rintro e w9 ⟨rfl, hf⟩)
  go_ret
  exact ⟨rfl, hf⟩
set_option maxHeartbeats 400000 in
theorem own_out {w : World} {base t g S m n : Nat} {v : Value} {bl : Nat → Nat} (h : TblAt w base t g S v m bl) (hS : 1 ≤ S ∧ S ≤ 16) (hn : n ≤ 9223372036854775807) (hp : m ≤ n / S) : Calls Try.prog 27 #[.pointer (some ⟨t, 0, none⟩), .int .i64 n] w fun e w' => e = .returned (.int .i64 62) ∧ Below w.heap.size w w' := by
  obtain ⟨c0, c1, c2⟩ := row3 h.row
  obtain ⟨ao, cap, rfl⟩ := h.shape
  have HR := hidd (reaches_any c0 c1 hS hn)
  rw [decide_eq_false (Nat.not_lt.2 hp)] at HR
  clear h hp c0 c1 c2
  go_enter Try.func27, Try.ntmps27
  go_wp2_with (go_at_call 47; with_reducible refine HR.out.mono ?_; rintro e w9 ⟨rfl, hf⟩)
  go_ret
  exact ⟨rfl, hf⟩
/-- what Own meets first -/
structure OwnH (w : World) (g cb nb L W B S base t m n old c : Nat) (cnt : Nat → Nat) (num : Nat → Int) (v : Value) (bl : Nat → Nat) : Prop where
  P : PoolAt w g cb nb L W B S cnt num
  T : TblAt w base t g S v m bl
  hm : m ≤ 1000000000
  hn : n ≤ 9223372036854775807
  hp : n / S < m
  ho : bl (n / S) = old
  hb : old < B
  hc : cnt old = c
  hc2 : c ≤ 4611686018427387904
  lt : g < base ∧ cb < base ∧ nb < base ∧ base ≤ w.heap.size
theorem OwnH.calls {w : World} {g cb nb L W B S base t m n old c : Nat} {cnt : Nat → Nat} {num : Nat → Int} {v : Value} {bl : Nat → Nat} (h : OwnH w g cb nb L W B S base t m n old c cnt num v bl) :
    Calls Try.prog 47 #[.pointer (some ⟨t, 0, none⟩), .int .i64 n] w (fun e w' => e = .returned (.bool true) ∧ Below w.heap.size w w' ∧ Calls Try.prog 48 #[.pointer (some ⟨t, 0, none⟩), .int .i64 n] w' (fun e w'' => e = .returned (.int .i64 old) ∧ Below w.heap.size w w'' ∧ w''.cell? ⟨t, 2, none⟩ = some (.pointer (some ⟨g, 0, none⟩)) ∧ Calls Try.prog 28 #[.pointer (some ⟨g, 0, none⟩), .int .i64 old] w'' (fun e w3 => e = .returned (.int .i64 c) ∧ w3 = w''))) := by
  obtain ⟨c0, c1, c2⟩ := row3 h.T.row
  obtain ⟨ao, cap, hv⟩ := h.T.shape
  rw [hv] at c1
  have HR := reaches_any c0 c1 h.P.hS h.hn
  rw [decide_eq_true h.hp] at HR
  refine HR.mono ?_
  rintro e w1 ⟨rfl, f1⟩
  refine ⟨rfl, f1, ?_⟩
  have HL := lat_any (h.T.fresh f1) h.P.hS (by have := h.hm; omega) h.hp
  rw [h.ho] at HL
  refine HL.mono ?_
  rintro e w2 ⟨rfl, f2⟩
  have f3 := fresh_trans f1 f2
  have HC := count_any (h.P.fresh f3) old
  rw [cntI_nat cnt h.hb, h.hc] at HC
  exact ⟨rfl, f3, (row3 (h.T.fresh f3).row).2.2, HC⟩
set_option maxRecDepth 20000 in
set_option maxHeartbeats 800000 in
theorem own_zero {w : World} {g cb nb L W B S base t m n old : Nat} {cnt : Nat → Nat} {num : Nat → Int} {v : Value} {bl : Nat → Nat} (h : OwnH w g cb nb L W B S base t m n old 0 cnt num v bl) :
    Calls Try.prog 27 #[.pointer (some ⟨t, 0, none⟩), .int .i64 n] w fun e w' => e = .returned (.int .i64 61) ∧ Below w.heap.size w w' := by
  have HR := hidd h.calls
  clear h
  go_enter Try.func27, Try.ntmps27
  go_wp2_with (first
    | (go_at_call 47; with_reducible refine HR.out.mono ?_; rintro e w1 ⟨rfl, f1, HL'⟩; have HL := hidd HL'; clear HL')
    | (go_at_call 48; with_reducible refine HL.out.mono ?_; rintro e w2 ⟨rfl, f2, c2, HC'⟩; have HC := hidd HC'; clear HC')
    | (go_at_call 28; with_reducible refine HC.out.mono ?_; rintro e w3 ⟨rfl, h3⟩; rw [h3]; clear h3))
  go_ret
  exact ⟨rfl, f2⟩
set_option maxRecDepth 20000 in
set_option maxHeartbeats 800000 in
theorem own_one {w : World} {g cb nb L W B S base t m n old : Nat} {cnt : Nat → Nat} {num : Nat → Int} {v : Value} {bl : Nat → Nat} (h : OwnH w g cb nb L W B S base t m n old 1 cnt num v bl) :
    Calls Try.prog 27 #[.pointer (some ⟨t, 0, none⟩), .int .i64 n] w fun e w' => e = .returned (.int .i64 0) ∧ Below w.heap.size w w' := by
  have HR := hidd h.calls
  clear h
  go_enter Try.func27, Try.ntmps27
  go_wp2_with (first
    | (go_at_call 47; with_reducible refine HR.out.mono ?_; rintro e w1 ⟨rfl, f1, HL'⟩; have HL := hidd HL'; clear HL')
    | (go_at_call 48; with_reducible refine HL.out.mono ?_; rintro e w2 ⟨rfl, f2, c2, HC'⟩; have HC := hidd HC'; clear HC')
    | (go_at_call 28; with_reducible refine HC.out.mono ?_; rintro e w3 ⟨rfl, h3⟩; rw [h3]; clear h3))
  go_ret
  exact ⟨rfl, f2⟩
set_option maxRecDepth 20000 in
set_option maxHeartbeats 800000 in
theorem own_full {w : World} {g cb nb L W B S base t m n old c : Nat} {cnt : Nat → Nat} {num : Nat → Int} {v : Value} {bl : Nat → Nat} (h : OwnH w g cb nb L W B S base t m n old c cnt num v bl) (hc : 2 ≤ c) (hf : freeN cnt B = 0) :
    Calls Try.prog 27 #[.pointer (some ⟨t, 0, none⟩), .int .i64 n] w fun e w' => e = .returned (.int .i64 60) ∧ Below w.heap.size w w' := by
  have HR := hidd h.calls
  have HT := hidd (fun (z : World) (f : Below w.heap.size w z) => take_miss (h.P.fresh f) (fun j hj e => by
    obtain ⟨k1, k2, k3⟩ := lowF_spec cnt B
    have k4 := freeN_upd (cnt := cnt) 1 hj
    rw [if_pos e, hf] at k4
    simp at k4))
  have hc2 := h.hc2
  have e0 : ((c : Int) == 0) = false := by simp; omega
  have e1 : ((c : Int) == 1) = false := by simp; omega
  clear h
  go_enter Try.func27, Try.ntmps27
  go_wp2_with (first
    | (go_at_call 47; with_reducible refine HR.out.mono ?_; rintro e w1 ⟨rfl, f1, HL'⟩; have HL := hidd HL'; clear HL')
    | (go_at_call 48; with_reducible refine HL.out.mono ?_; rintro e w2 ⟨rfl, f2, c2, HC'⟩; have HC := hidd HC'; clear HC')
    | (go_at_call 28; with_reducible refine HC.out.mono ?_; rintro e w3 ⟨rfl, h3⟩; rw [h3]; clear h3)
    | (go_at_call 11; with_reducible refine (HT.out _ f2).mono ?_; rintro e w3 ⟨rfl, h3⟩; rw [h3]; clear h3))
  go_ret
  exact ⟨rfl, f2⟩
end Go.Proofs.Ytppcgfdogacmkaa
