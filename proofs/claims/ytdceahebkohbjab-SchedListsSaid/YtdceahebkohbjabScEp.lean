import Derived.Test.YtdceahebkohbjabScKd
import Derived.Test.YtdceahebkohbjabScZ
namespace Go.Proofs.Ytdceahebkohbjab
open Go.RowKit
/-! EqInts, EqPlan, a seat that may not be there. -/
theorem RdA.three {w : World} {ao : Option Addr} {n cap : Nat} {a b d : Nat → Int} (h : RdA w ao 3 n cap (trF a b d)) (hn : 0 < n) : ∃ g o, ao = some ⟨g, o, none⟩ ∧ ∀ i, i < n → w.cell? ⟨g, o + i * 3, none⟩ = some (.int .i64 (a i)) ∧ w.cell? ⟨g, o + i * 3 + 1, none⟩ = some (.int .i64 (b i)) ∧ w.cell? ⟨g, o + i * 3 + 2, none⟩ = some (.int .i64 (d i)) := by
  obtain ⟨g, o, e, hc⟩ := h.at_ hn
  refine ⟨g, o, e, fun i hi => ?_⟩
  have c0 := hc (i * 3 + 0) (by omega)
  have c1 := hc (i * 3 + 1) (by omega)
  have c2 := hc (i * 3 + 2) (by omega)
  unfold trF at c0 c1 c2
  rw [if_pos (by omega), show (i * 3 + 0) / 3 = i by omega] at c0
  rw [if_neg (by omega), if_pos (by omega), show (i * 3 + 1) / 3 = i by omega, ← Nat.add_assoc] at c1
  rw [if_neg (by omega), if_neg (by omega), show (i * 3 + 2) / 3 = i by omega, ← Nat.add_assoc] at c2
  exact ⟨c0, c1, c2⟩
set_option maxRecDepth 20000 in
set_option maxHeartbeats 1600000 in
theorem eqI_same {w : World} {ao bo : Option Addr} {n ca cb : Nat} {f : Nat → Int} (ha : RdA w ao 1 n ca (fun i => .int .i64 (f i))) (hb : RdA w bo 1 n cb (fun i => .int .i64 (f i))) :
    Calls Try.prog 17 #[.slice ao n ca, .slice bo n cb] w fun e w' => e = .returned (.bool true) ∧ Below w.heap.size w w' := by
  have hn : n ≤ 9223372036854775807 := by have := ha.le; have := ha.top; unfold maxLen at this; omega
  go_enter Try.func17, Try.ntmps17
  go_wp2
  go_loopw [5] (fun i wr => ∃ k : Nat, k ≤ n ∧ i = .int .i64 k ∧ Below w.heap.size w wr) (fun i _ => n - (intOf i).toNat)
  case atStart => exact ⟨0, by omega, rfl, Below.refl _ _⟩
  case round =>
    obtain ⟨k, hk, rfl, hf⟩ := hrel
    by_cases hlt : k < n
    · obtain ⟨b1, o1, rfl, h1⟩ := (ha.fresh hf).one (by omega)
      obtain ⟨b2, o2, rfl, h2⟩ := (hb.fresh hf).one (by omega)
      have c1 := h1 k hlt
      have d1 := h2 k hlt
      clear h1 h2
      generalize f k = y1 at *
      have k0 : (0 : Int) ≤ (k : Int) := by omega
      have k1 : (k : Int) < (n : Int) := by omega
      go_wp2
      go_quiet (fail)
      go_wp2
      go_roundw
      case rel => exact ⟨k + 1, by omega, by go_num, below_drewN hf _⟩
      case measure => simp [intOf]; omega
    · obtain rfl : n = k := by omega
      go_wp2
      go_ret
      exact ⟨rfl, hf⟩
set_option maxRecDepth 20000 in
set_option maxHeartbeats 1600000 in
theorem eqPlan_same {w : World} {ao bo co eo : Option Addr} {m n ca cb cc ce : Nat} {f a b d : Nat → Int} (h1 : RdA w ao 1 m ca (fun i => .int .i64 (f i))) (h2 : RdA w bo 3 n cb (trF a b d)) (h3 : RdA w co 1 m cc (fun i => .int .i64 (f i))) (h4 : RdA w eo 3 n ce (trF a b d)) :
    Calls Try.prog 10 #[.agg #[.slice ao m ca, .slice bo n cb], .agg #[.slice co m cc, .slice eo n ce]] w fun e w' => e = .returned (.bool true) ∧ Below w.heap.size w w' := by
  have hn : n ≤ 9223372036854775807 := by have := h2.le; have := h2.top; unfold maxLen at this; omega
  have HF : Hid (Below w.heap.size w ((w.alloc (.cells #[.slice ao m ca, .slice bo n cb] 28)).alloc (.cells #[.slice co m cc, .slice eo n ce] 28))) := ((Below.refl _ w).alloc (Nat.le_refl _) _).alloc (by simp) _
  have HR1 : Hid (((w.alloc (.cells #[.slice ao m ca, .slice bo n cb] 28)).alloc (.cells #[.slice co m cc, .slice eo n ce] 28)).rowIs w.heap.size 28 2 (two (.slice ao m ca) (.slice bo n cb))) := (two_new w (.slice ao m ca) (.slice bo n cb) 28).of_block ((fresh_alloc _ _).block _ (two_new w (.slice ao m ca) (.slice bo n cb) 28).lt)
  have HR2 : Hid (((w.alloc (.cells #[.slice ao m ca, .slice bo n cb] 28)).alloc (.cells #[.slice co m cc, .slice eo n ce] 28)).rowIs (w.heap.size + 1) 28 2 (two (.slice co m cc) (.slice eo n ce))) := by
    have := two_new (w.alloc (.cells #[.slice ao m ca, .slice bo n cb] 28)) (.slice co m cc) (.slice eo n ce) 28
    rwa [show (w.alloc (.cells #[.slice ao m ca, .slice bo n cb] 28)).heap.size = w.heap.size + 1 by simp] at this
  have HEQ := hidd (eqI_same (h1.fresh HF.out) (h3.fresh HF.out))
  have HZ1 := hidd (h2.fresh HF.out)
  have HZ2 := hidd (h4.fresh HF.out)
  clear h1 h2 h3 h4
  go_enter Try.func10, Try.ntmps10
  go_upto_region 1 with fail
  generalize ((w.alloc (.cells #[.slice ao m ca, .slice bo n cb] 28)).alloc (.cells #[.slice co m cc, .slice eo n ce] 28)) = w1 at *
  obtain ⟨g1, HG1⟩ : ∃ g, Hid (g = w.heap.size) := ⟨_, rfl⟩
  obtain ⟨g2, HG2⟩ : ∃ g, Hid (g = w.heap.size + 1) := ⟨_, rfl⟩
  rw [← HG2.out] at HR2 ⊢
  rw [← HG1.out] at HR1 ⊢
  have p0 : w1.cell? ⟨g1, 0, none⟩ = some (.slice ao m ca) := HR1.out.cell (i := 0) (by decide)
  have q0 : w1.cell? ⟨g2, 0, none⟩ = some (.slice co m cc) := HR2.out.cell (i := 0) (by decide)
  have HP : Hid (∀ z, Below w1.heap.size w1 z → z.cell? ⟨g1, 1, none⟩ = some (.slice bo n cb) ∧ z.cell? ⟨g2, 1, none⟩ = some (.slice eo n ce)) := fun z hz => ⟨fresh_cell hz (HR1.out.cell (i := 1) (by decide)), fresh_cell hz (HR2.out.cell (i := 1) (by decide))⟩
  go_upto_region 3 with (go_at_call 17; with_reducible refine HEQ.out.mono ?_; rintro e w2 ⟨rfl, hb2⟩; obtain ⟨p1, q1⟩ := HP.out _ hb2)
  have HB2 := hidd hb2
  clear p0 q0 p1 q1 hb2 HEQ
  go_wp2
  go_loopw [5] (fun i wr => ∃ k : Nat, k ≤ n ∧ i = .int .i64 k ∧ Hid (Below w1.heap.size w1 wr)) (fun i _ => n - (intOf i).toNat)
  case atStart => exact ⟨0, by omega, rfl, HB2⟩
  case round =>
    obtain ⟨k, hk, rfl, HW⟩ := hrel
    obtain ⟨p1, q1⟩ := HP.out _ HW.out
    by_cases hlt : k < n
    · obtain ⟨b1, o1, rfl, h1⟩ := (HZ1.out.fresh HW.out).three (by omega)
      obtain ⟨b2, o2, rfl, h2⟩ := (HZ2.out.fresh HW.out).three (by omega)
      obtain ⟨c1, c2, c3⟩ := h1 k hlt
      obtain ⟨d1, d2, d3⟩ := h2 k hlt
      clear h1 h2
      generalize a k = y1 at *
      generalize b k = y2 at *
      generalize d k = y3 at *
      have k0 : (0 : Int) ≤ (k : Int) := by omega
      have k1 : (k : Int) < (n : Int) := by omega
      go_wp2
      go_quiet (fail)
      go_wp2
      go_roundw
      case rel => exact ⟨k + 1, by omega, by go_num, below_drewN HW.out _⟩
      case measure => simp [intOf]; omega
    · obtain rfl : n = k := by omega
      go_wp2
      go_ret
      exact ⟨rfl, HF.out.trans (HW.out.mono HF.out.size)⟩
set_option maxRecDepth 20000 in
set_option maxHeartbeats 1600000 in
theorem seat_none {w : World} {ao : Option Addr} {n cap : Nat} {S : Nat → Se} (h : RdA w ao 5 n cap (seF S)) {x : Int} (hu : ∀ j, j < n → ¬ (S j).id = x) :
    Calls Try.prog 8 #[.slice ao n cap, .int .i64 x] w fun e w' => e = .returned (.tuple #[seV seZ, .bool false]) ∧ Below w.heap.size w w' := by
  have hn : n ≤ 9223372036854775807 := by have := h.le; have := h.top; unfold maxLen at this; omega
  have HF := hidd (fresh_alloc w (.cells #[.int .i64 0, .int .i64 0, .int .i64 0, .int .i64 0, .slice none 0 0] 32))
  have HR := hidd (seat_new w)
  have HA := hidd (h.fresh HF.out)
  have HU := hidd hu
  clear h hu
  go_enter Try.func8, Try.ntmps8
  go_wp2
  go_loopw [6] (fun i wr => ∃ m : Nat, m ≤ n ∧ i = .int .i64 m ∧ Same (w.alloc (.cells #[.int .i64 0, .int .i64 0, .int .i64 0, .int .i64 0, .slice none 0 0] 32)) wr) (fun i _ => n - (intOf i).toNat)
  case atStart => exact ⟨0, by omega, rfl, rfl⟩
  case round =>
    obtain ⟨m, hm, rfl, hs⟩ := hrel
    unfold Same at hs
    subst hs
    by_cases hlt : m < n
    · obtain ⟨b1, o1, rfl, h1⟩ := HA.out.seat (by omega)
      obtain ⟨c0, c1, c2, c3, c4⟩ := h1 m (by omega)
      clear h1
      generalize (w.alloc (.cells #[.int .i64 0, .int .i64 0, .int .i64 0, .int .i64 0, .slice none 0 0] 32)) = w1 at *
      have E := hidd (HU.out m (by omega))
      have e' := E.out
      go_wp2
      go_roundw
      case rel => exact ⟨m + 1, by omega, by go_num, (rfl : _ = _)⟩
      case measure => simp [intOf]; omega
    · obtain rfl : n = m := by omega
      have HR2 := HR
      have HF2 := HF
      generalize (w.alloc (.cells #[.int .i64 0, .int .i64 0, .int .i64 0, .int .i64 0, .slice none 0 0] 32)) = w1 at *
      have g0 : w1.cell? ⟨w.heap.size, 0, none⟩ = some (.int .i64 0) := HR2.out.cell (i := 0) (by decide)
      have g1 : w1.cell? ⟨w.heap.size, 1, none⟩ = some (.int .i64 0) := HR2.out.cell (i := 1) (by decide)
      have g2 : w1.cell? ⟨w.heap.size, 2, none⟩ = some (.int .i64 0) := HR2.out.cell (i := 2) (by decide)
      have g3 : w1.cell? ⟨w.heap.size, 3, none⟩ = some (.int .i64 0) := HR2.out.cell (i := 3) (by decide)
      have g4 : w1.cell? ⟨w.heap.size, 4, none⟩ = some (.slice none 0 0) := HR2.out.cell (i := 4) (by decide)
      have gf := HR2.out.frozen
      go_wp2
      refine bodyPost_ret (ret_seat rfl _ _ (w.heap.size) seZ _ rfl (seC_set5 HR2.out seZ) rfl) rfl ?_
      exact ⟨rfl, ((((HF2.out.setCell (by simp) _).setCell (by simp) _).setCell (by simp) _).setCell (by simp) _).setCell (by simp) _⟩
theorem first_of (n : Nat) (S : Nat → Se) (x : Int) : (∃ q, q < n ∧ (S q).id = x ∧ ∀ j, j < q → ¬ (S j).id = x) ∨ ∀ j, j < n → ¬ (S j).id = x := by
  induction n with
  | zero => exact .inr fun j hj => absurd hj (by omega)
  | succ n ih =>
    rcases ih with ⟨q, h1, h2, h3⟩ | h
    · exact .inl ⟨q, by omega, h2, h3⟩
    · by_cases e : (S n).id = x
      · exact .inl ⟨n, by omega, e, h⟩
      · exact .inr fun j hj => by
          by_cases e2 : j = n
          · rw [e2]; exact e
          · exact h j (by omega)
theorem seat_all {w : World} {ao : Option Addr} {n cap : Nat} {S : Nat → Se} (h : RdA w ao 5 n cap (seF S)) (x : Int) :
    Calls Try.prog 8 #[.slice ao n cap, .int .i64 x] w fun e w' => ∃ s b, e = .returned (.tuple #[seV s, .bool b]) ∧ (b = false → ∀ j, j < n → ¬ (S j).id = x) ∧ Below w.heap.size w w' := by
  rcases first_of n S x with ⟨q, h1, h2, h3⟩ | h0
  · refine (seat_any h h1 (fun j hj => by rw [h2]; exact h3 j hj) h2.symm).mono ?_
    rintro e w' ⟨rfl, hb⟩
    exact ⟨_, true, rfl, fun q => (by cases q), hb⟩
  · refine (seat_none h h0).mono ?_
    rintro e w' ⟨rfl, hb⟩
    exact ⟨_, false, rfl, fun _ => h0, hb⟩
theorem okA_rev {c : Me} {n : Nat} {S : Nat → Se} (h : okA c n S) : okA c n (fun q => S (n - 1 - q)) :=
  ⟨h.1, fun i hi => h.2.1 _ (by omega), fun i j hij hj e => h.2.2 (n - 1 - j) (n - 1 - i) (by omega) (by omega) e.symm⟩
theorem own_h0 {w : World} {base : Nat} {e : TypeId} {sz n m c : Nat} {u : Option Addr} {cs : Nat → Value} (h : Own w base e sz (.slice u m c) n cs) (hu : u = none) : c = 0 := by
  rcases h.2 with ⟨q, _⟩ | ⟨g, _, _, q, _⟩
  · cases q; rfl
  · cases q; cases hu
end Go.Proofs.Ytdceahebkohbjab
