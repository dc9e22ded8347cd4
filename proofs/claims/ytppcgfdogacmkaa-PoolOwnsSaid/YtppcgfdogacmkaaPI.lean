import Derived.Test.YtppcgfdogacmkaaPH
import Derived.Deep.DeepCutAuto
namespace Go.Proofs.Ytppcgfdogacmkaa
open Go.RowKit
/-! Slot beyond the end, times, EqInts, made. -/
theorem rowIs_apart {w : World} {a b n m : Nat} {t u : TypeId} {F G : Nat → Value} (h : w.rowIs a t n F) (k : w.rowIs b u m G) (hne : t ≠ u) : a ≠ b := fun e => by
  subst e
  obtain ⟨c, hc, _, _⟩ := h
  obtain ⟨d, hd, _, _⟩ := k
  rw [hc] at hd
  cases hd
  exact hne rfl
theorem Own.apart {w : World} {base b m sz : Nat} {e u : TypeId} {v : Value} {n : Nat} {cs G : Nat → Value} (h : Own w base e sz v n cs) (k : w.rowIs b u m G) (hne : e ≠ u) : v.ownBlock ≠ some b := fun hb => by
  rcases h.2 with ⟨rfl, rfl⟩ | ⟨g, cap, cur, rfl, _, hg, _⟩
  · simp [Value.ownBlock] at hb
  · obtain rfl : g = b := by simpa [Value.ownBlock] using hb
    obtain ⟨d, hd, _, _⟩ := k
    rw [hg] at hd
    cases hd
    exact hne rfl
set_option maxRecDepth 20000 in
set_option maxHeartbeats 800000 in
theorem slot_bad {w : World} {base t g S m n : Nat} {v : Value} {bl : Nat → Nat} (h : TblAt w base t g S v m bl) (hS : 1 ≤ S ∧ S ≤ 16) (hn : n ≤ 9223372036854775807) (hp : m ≤ n / S) :
    Calls Try.prog 20 #[.pointer (some ⟨t, 0, none⟩), .int .i64 n] w fun e w' => e = .returned (.tuple #[.int .i64 0, .int .i64 62]) ∧ Below w.heap.size w w' := by
  obtain ⟨c0, c1, c2⟩ := row3 h.row
  obtain ⟨ao, cap, rfl⟩ := h.shape
  have HR := hidd (reaches_any c0 c1 hS hn)
  rw [decide_eq_false (Nat.not_lt.2 hp)] at HR
  clear h hp c0 c1 c2
  go_enter Try.func20, Try.ntmps20
  go_wp2_with (go_at_call 47; refine HR.out.mono ?_; rintro e w9 ⟨rfl, hf⟩)
  go_ret2
  exact ⟨rfl, hf⟩
/-- how often x stands among the first n -/
def timesN (f : Nat → Int) (x : Int) : Nat → Nat
  | 0 => 0
  | n + 1 => timesN f x n + (if f n = x then 1 else 0)
theorem timesN_le (f : Nat → Int) (x : Int) : ∀ n, timesN f x n ≤ n
  | 0 => Nat.le_refl _
  | n + 1 => by have := timesN_le f x n; unfold timesN; split <;> omega
theorem timesN_zero {f : Nat → Int} {x : Int} : ∀ {n : Nat}, (∀ j, j < n → f j ≠ x) → timesN f x n = 0
  | 0, _ => rfl
  | n + 1, h => by unfold timesN; rw [timesN_zero (fun j hj => h j (by omega)), if_neg (h n (by omega))]
theorem timesN_congr {f g : Nat → Int} {x : Int} : ∀ {n : Nat}, (∀ j, j < n → f j = g j) → timesN f x n = timesN g x n
  | 0, _ => rfl
  | n + 1, h => by unfold timesN; rw [timesN_congr (fun j hj => h j (by omega)), h n (by omega)]
set_option maxHeartbeats 800000 in
theorem times_any {w : World} {ao : Option Addr} {n cap : Nat} {f : Nat → Int} (h : RdA w ao 1 n cap (fun i => .int .i64 (f i))) (x : Int) :
    Calls Try.prog 21 #[.slice ao n cap, .int .i64 x] w fun e w' => e = .returned (.int .i64 (timesN f x n : Nat)) ∧ w' = w := by
  have hn : n ≤ 9223372036854775807 := by have := h.le; have := h.top; unfold maxLen at this; omega
  go_enter Try.func21, Try.ntmps21
  go_wp2
  go_loopw [5, 6] (fun v i wr => ∃ k : Nat, k ≤ n ∧ i = .int .i64 k ∧ v = .int .i64 (timesN f x k : Nat) ∧ wr = w) (fun _ i _ => n - (intOf i).toNat)
  case atStart => exact ⟨0, by omega, rfl, rfl, rfl⟩
  case round =>
    obtain ⟨k, hk, rfl, rfl, rfl⟩ := hrel
    have hle := timesN_le f x k
    by_cases hlt : k < n
    · obtain ⟨b1, o1, rfl, h1⟩ := h.one (by omega)
      have d := h1 k hlt
      have hs : Hid (timesN f x (k + 1) = timesN f x k + (if f k = x then 1 else 0)) := rfl
      clear h1
      generalize hy : f k = y at *
      clear hy
      generalize timesN f x k = T at *
      by_cases h0 : y = x
      · subst h0
        go_wp2
        go_roundw
        case rel => exact ⟨k + 1, by omega, by go_num, by rw [hs.out]; simp, trivial⟩
        case measure => simp [intOf]; omega
      · have hb : (y == x) = false := by simpa using h0
        go_wp2
        go_roundw
        case rel => exact ⟨k + 1, by omega, by go_num, by rw [hs.out]; simp [h0], trivial⟩
        case measure => simp [intOf]; omega
    · obtain rfl : k = n := by omega
      go_wp2
      go_ret
      exact ⟨rfl, rfl⟩
set_option maxHeartbeats 1000000 in
theorem eqInts_same {w : World} {ao bo : Option Addr} {n ca cb : Nat} {f g : Nat → Int} (ha : RdA w ao 1 n ca (fun i => .int .i64 (f i))) (hb : RdA w bo 1 n cb (fun i => .int .i64 (g i))) (hfg : ∀ i, i < n → f i = g i) :
    Calls Try.prog 23 #[.slice ao n ca, .slice bo n cb] w fun e w' => e = .returned (.bool true) ∧ Below w.heap.size w w' := by
  have hn : n ≤ 9223372036854775807 := by have := ha.le; have := ha.top; unfold maxLen at this; omega
  go_enter Try.func23, Try.ntmps23
  go_wp2
  go_loopw [5] (fun i wr => ∃ k : Nat, k ≤ n ∧ i = .int .i64 k ∧ Below w.heap.size w wr) (fun i _ => n - (intOf i).toNat)
  case atStart => exact ⟨0, by omega, rfl, Below.refl _ _⟩
  case round =>
    obtain ⟨k, hk, rfl, hf⟩ := hrel
    by_cases hlt : k < n
    · obtain ⟨b1, o1, rfl, h1⟩ := (ha.fresh hf).one (by omega)
      obtain ⟨b2, o2, rfl, h2⟩ := (hb.fresh hf).one (by omega)
      have c1 := h1 k hlt
      have c2 := h2 k hlt
      have e := hfg k hlt
      rw [← e] at c2
      clear h1 h2 e
      go_wp2
      go_quiet (fail)
      go_wp2
      go_roundw
      case rel => exact ⟨k + 1, by omega, by go_num, below_drewN hf _⟩
      case measure => simp [intOf]; omega
    · go_wp2
      go_ret
      exact ⟨rfl, hf⟩
/-! made -/
theorem results_tmp4 {fn : Func} {t u v x : Tmp} (h : fn.results = #[.tmp t, .tmp u, .tmp v, .tmp x]) (tmps : Array Value) (P : Program) (w : World) :
    (results fn tmps).run P w = .ok (.tuple #[tmps.getD t undef, tmps.getD u undef, tmps.getD v undef, tmps.getD x undef]) w := by
  simp [results, h]
theorem infoPT : (Try.prog.info? 49).map (fun i => (i.zero, i.size, i.bytes)) = some (some (.pointer none), 1, 8) := by kernel_rfl
structure MadeAt (w w' : World) (g cb nb B S : Nat) (v : Value) (tn : Nat) (tb : Nat → Nat) : Prop where
  pool : PoolAt w' g cb nb 2 3 B S (fun _ => 0) (fun _ => 0)
  own : Own w' w.heap.size 49 1 v tn (fun i => .pointer (some ⟨tb i, 0, none⟩))
  tab : ∀ i, i < tn → w'.rowIs (tb i) 103 3 (three (.int .i64 S) (.slice none 0 0) (.pointer (some ⟨g, 0, none⟩)))
  rise : ∀ i j, i < j → j < tn → tb i < tb j
  new : w.heap.size ≤ g ∧ w.heap.size ≤ cb ∧ w.heap.size ≤ nb
  newt : ∀ i, i < tn → w.heap.size ≤ tb i
  low : Below w.heap.size w w'
theorem MadeAt.more {w w1 w2 w3 : World} {g cb nb B S : Nat} {v v' : Value} {k x : Nat} {tb : Nat → Nat} (h : MadeAt w w1 g cb nb B S v k tb) (hx : x = w1.heap.size) (hr : w2.rowIs x 103 3 (three (.int .i64 S) (.slice none 0 0) (.pointer (some ⟨g, 0, none⟩)))) (f : Below w1.heap.size w1 w2) (ho : Own w3 w.heap.size 49 1 v' (k + 1) (fun i => .pointer (some ⟨updN tb k x i, 0, none⟩))) (ha : App w2 w3 v v') : MadeAt w w3 g cb nb B S v' (k + 1) (updN tb k x) := by
  have hO := h.own.kept f
  have c := Chg.of_app ha
  have hP := h.pool.fresh f
  refine ⟨hP.chg c (hO.apart hP.row (by decide)) (hO.apart hP.cnts (by decide)) (hO.apart hP.nums (by decide)), ho, fun i hi => ?_, fun i j hi hj => ?_, h.new, fun i hi => ?_, ha.below (h.low.trans (f.mono h.low.size)) hO (Nat.le_refl _) (Nat.le_trans h.low.size f.size)⟩
  · by_cases e : i = k
    · subst e
      rw [updN_at]
      exact c.row hr (hO.apart hr (by decide))
    · rw [updN_ne _ _ e]
      have hq := (h.tab i (by omega)).of_block (f.block _ (h.tab i (by omega)).lt)
      exact c.row hq (hO.apart hq (by decide))
  · by_cases e : j = k
    · subst e
      rw [updN_at, updN_ne _ _ (by omega), hx]
      exact (h.tab i hi).lt
    · rw [updN_ne _ _ e, updN_ne _ _ (by omega)]
      exact h.rise i j hi (by omega)
  · by_cases e : i = k
    · subst e
      rw [updN_at, hx]
      exact h.low.size
    · rw [updN_ne _ _ e]
      exact h.newt i (by omega)
set_option maxRecDepth 20000 in
set_option maxHeartbeats 2000000 in
theorem made_any (w : World) (x y : Int) (tn : Nat) (htn : tn ≤ 8) :
    Calls Try.prog 10 #[.int .i64 x, .int .i64 y, .int .i64 tn] w fun e w' => ∃ g cb nb ao cap tb, e = .returned (.tuple #[.pointer (some ⟨g, 0, none⟩), .slice ao tn cap, .int .i64 ((2 + md x 16 : Nat) : Int), .int .i64 ((1 + md y 6 : Nat) : Int)]) ∧ MadeAt w w' g cb nb (2 + md x 16) (1 + md y 6) (.slice ao tn cap) tn tb := by
  have hB := md_lt x (n := 16) (by decide)
  have hS := md_lt y (n := 6) (by decide)
  have HM1 : Hid (Calls Try.prog 13 #[.int .i64 x, .int .i64 16] w fun e w' => e = .returned (.int .i64 (md x 16 : Int)) ∧ w' = w) := mod_any x 16 w (by decide) (by decide)
  have HM2 : Hid (Calls Try.prog 13 #[.int .i64 y, .int .i64 6] w fun e w' => e = .returned (.int .i64 (md y 6 : Int)) ∧ w' = w) := mod_any y 6 w (by decide) (by decide)
  obtain ⟨B, hB'⟩ : ∃ B, B = 2 + md x 16 := ⟨_, rfl⟩
  obtain ⟨S, hS'⟩ : ∃ S, S = 1 + md y 6 := ⟨_, rfl⟩
  rw [← hB', ← hS']
  have eB : (2 : Int) + ((md x 16 : Nat) : Int) = (B : Int) := by omega
  have eS : (1 : Int) + ((md y 6 : Nat) : Int) = (S : Int) := by omega
  have bB : 2 ≤ B ∧ B ≤ 17 := by omega
  have bS : 1 ≤ S ∧ S ≤ 6 := by omega
  clear hB' hS'
  generalize md x 16 = B0 at *
  generalize md y 6 = S0 at *
  have HN : Hid (Calls Try.prog 33 #[.int .i64 2, .int .i64 3, .int .i64 B, .int .i64 S] w fun e w' => ∃ g cb nb, e = .returned (.tuple #[.pointer (some ⟨g, 0, none⟩), .int .i64 0]) ∧ PoolAt w' g cb nb 2 3 B S (fun _ => 0) (fun _ => 0) ∧ (w.heap.size ≤ g ∧ w.heap.size ≤ cb ∧ w.heap.size ≤ nb) ∧ Below w.heap.size w w') := new_any (L := 2) (W := 3) (B := B) (S := S) w (by decide) (by decide) (by omega) (by omega)
  have HF : Hid (freeN (fun _ => 0) B = B) := freeN_zero B
  go_enter Try.func10, Try.ntmps10
  go_upto_region 2 with (go_at_call 13; with_reducible refine HM1.out.mono ?_; rintro e w9 ⟨rfl, h9⟩; rw [h9]; clear h9)
  go_upto_region 3 with (go_at_call 13; with_reducible refine HM2.out.mono ?_; rintro e w9 ⟨rfl, h9⟩; rw [h9]; clear h9)
  go_wp2_with (first
    | (go_at_call 33; with_reducible refine HN.out.mono ?_; rintro e w3 ⟨g, cb, nb, rfl, hP, hnew, hlow⟩; have HL := hidd (left_any hP); rw [HF.out] at HL)
    | (go_at_call 19; with_reducible refine HL.out.mono ?_; rintro e w4 ⟨rfl, h9⟩; rw [h9]; clear h9))
  have M0 : MadeAt w w3 g cb nb B S (.slice none 0 0) 0 (fun _ => 0) := ⟨hP, own_nil _ _ _ _ _, fun i hi => absurd hi (by omega), fun i j hi hj => absurd hj (by omega), hnew, fun i hi => absurd hi (by omega), hlow⟩
  have HM0 := hidd M0
  clear M0 HM1 HM2 HN HL hP hnew hlow
  go_loopw [14, 15] (fun v i wr => ∃ (k : Nat) (tb : Nat → Nat), k ≤ tn ∧ i = .int .i64 k ∧ MadeAt w wr g cb nb B S v k tb) (fun _ i _ => tn - (intOf i).toNat)
  case atStart => exact ⟨0, _, by omega, rfl, HM0.out⟩
  case round =>
    clear HM0
    obtain ⟨k, tb, hk, rfl, hM⟩ := hrel
    by_cases hlt : k < tn
    · have HT := hidd (newTable_any hM.pool.cells.2.2.1)
      have hsz := hM.low.size
      have HM := hidd hM
      obtain ⟨ao, cap, rfl, _⟩ := hM.own.rd
      clear hM
      go_wp2_with (first
        | (go_at_call 34; refine HT.out.mono ?_; rintro e w9 ⟨rfl, hr9, hs9, hf9⟩; have hsA : w.heap.size ≤ (w9.alloc (.cells #[.pointer (some ⟨wr.heap.size, 0, none⟩)] 49)).heap.size := (by simp; omega); have H9 := hidd hs9; clear hs9)
        | (at_builtin; refine wpList_app1 _ rfl _ _ 25 rfl w.heap.size 49 (.pointer none) 8 Try.underlying25 infoPT rfl _ k (fun i => .pointer (some ⟨updN tb k wr.heap.size i, 0, none⟩)) rfl (((HM.out.own.kept hf9).kept (fresh_alloc _ _)).congr (fun j hj => by rw [updN_ne _ _ (by omega)])) _ 1 rfl (by rw [updN_at]; exact new_cell _ _ _) rfl (by omega) (by omega) hsA ?_))
      intro v' w1 hown' happ
      have HM' := hidd (HM.out.more rfl (hr9.alloc _) (fresh_trans hf9 (fresh_alloc _ _)) hown' happ)
      clear happ hown' HM
      go_wp2
      go_roundw
      case rel => exact ⟨k + 1, _, by omega, by go_num, HM'.out⟩
      case measure => simp [intOf]; omega
    · obtain rfl : k = tn := by omega
      have HM := hidd hM
      obtain ⟨ao, cap, rfl, _⟩ := hM.own.rd
      clear hM
      go_wp2
      refine bodyPost_ret (results_tmp4 rfl _ _ _) rfl ?_
      exact ⟨g, cb, nb, ao, cap, tb, rfl, HM.out⟩
end Go.Proofs.Ytppcgfdogacmkaa
