import Derived.Test.YtdceahebkohbjabScB
namespace Go.Proofs.Ytdceahebkohbjab
open Go.RowKit
/-! rest, fills, needed, areBlocks. -/
set_option maxRecDepth 20000 in
set_option maxHeartbeats 1600000 in
theorem rest_any (s : Se) (h1 : 1 ≤ s.kn) (h2 : s.kn ≤ 64) (h3 : 0 ≤ s.ca) (h4 : s.ca < s.kn) (w : World) :
    Calls Try.prog 53 #[seV s] w fun e w' => e = .returned (.int .i64 (rst s)) ∧ Below w.heap.size w w' := by
  have HB := hidd (fresh_alloc w (.cells #[.int .i64 s.id, .int .i64 s.kn, .int .i64 s.ca, .int .i64 s.wa, .slice s.ho s.hn s.hc] 32))
  obtain ⟨c1, c2, c3, c4, c5⟩ := box5 w (.int .i64 s.id) (.int .i64 s.kn) (.int .i64 s.ca) (.int .i64 s.wa) (.slice s.ho s.hn s.hc) 32
  unfold seV rst
  obtain ⟨a0, a1, a2, a3, a4, a5, a6, a7⟩ := s
  simp only at *
  go_enter Try.func53, Try.ntmps53
  go_wp2
  go_ret
  exact ⟨by rfl, HB.out⟩
set_option maxRecDepth 20000 in
set_option maxHeartbeats 1600000 in
theorem fills_any (s : Se) (h1 : 1 ≤ s.kn) (h2 : s.kn ≤ 64) (h3 : 0 ≤ s.ca) (h4 : s.ca < s.kn) (r : Bool) (hr : r = true ↔ 0 < rst s) (w : World) :
    Calls Try.prog 44 #[seV s] w fun e w' => e = .returned (.bool r) ∧ Below w.heap.size w w' := by
  have HB := hidd (fresh_alloc w (.cells #[.int .i64 s.id, .int .i64 s.kn, .int .i64 s.ca, .int .i64 s.wa, .slice s.ho s.hn s.hc] 32))
  have HR := hidd (rest_any s h1 h2 h3 h4)
  obtain ⟨c1, c2, c3, c4, c5⟩ := box5 w (.int .i64 s.id) (.int .i64 s.kn) (.int .i64 s.ca) (.int .i64 s.wa) (.slice s.ho s.hn s.hc) 32
  have hd : decide (0 < rst s) = r := by rw [Bool.eq_iff_iff]; simp; exact hr.symm
  clear h1 h2 h3 h4 hr
  unfold seV at *
  generalize rst s = x at *
  obtain ⟨a0, a1, a2, a3, a4, a5, a6, a7⟩ := s
  simp only at *
  subst hd
  go_enter Try.func44, Try.ntmps44
  go_wp2_with (go_at_call 53; with_reducible refine (HR.out _).mono ?_; rintro e w2 ⟨rfl, hb2⟩; have HB2 := hidd (HB.out.trans (hb2.mono HB.out.size)); clear hb2)
  go_ret
  exact ⟨by rfl, HB2.out⟩
set_option maxRecDepth 20000 in
set_option maxHeartbeats 1600000 in
theorem needed_any (c : Me) (x : Int) (h1 : 1 ≤ c.bl) (h2 : c.bl ≤ 16) (h3 : 0 ≤ x) (h4 : x ≤ 1000000) (w : World) :
    Calls Try.prog 39 #[.int .i64 x, .int .i64 c.bl] w fun e w' => e = .returned (.int .i64 (need c x)) ∧ w' = w := by
  have HE : Hid ((x + c.bl - 1) / c.bl = need c x) := rfl
  generalize need c x = y at *
  generalize c.bl = b at *
  have hb : ¬ b = 0 := by omega
  go_enter Try.func39, Try.ntmps39
  go_wp2
  go_ret
  exact ⟨ret_int HE.out, rfl⟩
theorem infoB : (Try.prog.info? 83).map (fun i => (i.zero, i.size, i.bytes)) = some (some (.agg (Array.replicate 256 (.bool false))), 256, 256) := by kernel_rfl
theorem zeroB : ∃ Z : Array Value, Z.size = 256 ∧ (∀ i, i < 256 → Z[i]? = some (.bool false)) ∧ ∀ w, (zeroValue 83).run Try.prog w = .ok (.agg Z) w := by
  obtain ⟨i, hi, hz, _, _⟩ := info_parts infoB
  refine ⟨Array.replicate 256 (.bool false), by simp, fun i hi => by simp [hi], fun w => ?_⟩
  simp [zeroValue, typeInfo, hi, hz]
theorem hasN_zero (H : Nat → Int) (b : Nat) : hasN H 0 b = false := rfl
theorem okB_next {c : Me} {k : Nat} {H : Nat → Int} (h : okB c k H) {x : Nat} (hx : H k = (x : Int)) (hb : (x : Int) < c.bs) (hn : hasN H k x = false) : okB c (k + 1) H := by
  refine ⟨fun j hj => ?_, fun i j hij hj => ?_⟩
  · by_cases e : j = k
    · rw [e, hx]; omega
    · exact h.1 j (by omega)
  · by_cases e : j = k
    · intro q
      rw [e, hx] at q
      have := (hasN_iff H k x).2 ⟨i, by omega, q⟩
      rw [hn] at this
      cases this
    · exact h.2 i j hij (by omega)
theorem hasN_put (H : Nat → Int) (k x : Nat) (hx : H k = (x : Int)) (b : Nat) : (if b = x then Value.bool true else .bool (hasN H k b)) = .bool (hasN H (k + 1) b) := by
  rw [hasN_succ, hx]
  by_cases e : b = x
  · rw [if_pos e, e]; simp
  · rw [if_neg e]
    have : ((x : Int) == (b : Int)) = false := by simp; omega
    rw [this, Bool.or_false]
set_option maxRecDepth 100000 in
set_option maxHeartbeats 1600000 in
theorem areBl_any {w : World} {ao : Option Addr} {m cap : Nat} {H : Nat → Int} (h : RdA w ao 1 m cap (fun i => .int .i64 (H i))) (c : Me) (h1 : 1 ≤ c.bs) (h2 : c.bs ≤ 256) (r : Bool) (hr : r = true ↔ okB c m H) :
    Calls Try.prog 38 #[.slice ao m cap, .int .i64 c.bs] w fun e w' => e = .returned (.bool r) ∧ Below w.heap.size w w' := by
  have hn : m ≤ 9223372036854775807 := by have := h.le; have := h.top; unfold maxLen at this; omega
  have HR := hidd hr
  have HLE : Hid (okB c m H → (m : Int) ≤ c.bs) := fun q => okB_le q h2 h1
  have HWI : Hid (∀ (x a b : Int) (r : Bool) (w : World), (r = true ↔ a ≤ x ∧ x ≤ b) → Calls Try.prog 33 #[.int .i64 x, .int .i64 a, .int .i64 b] w fun e w' => e = .returned (.bool r) ∧ w' = w) := fun x a b r w h => within_any x a b r h w
  clear hr
  obtain ⟨bs, hbs⟩ : ∃ b, b = c.bs := ⟨_, rfl⟩
  have HBS := hidd hbs
  rw [← hbs] at h1 h2 ⊢
  clear hbs
  by_cases hm : bs < (m : Int)
  · obtain rfl : r = false := by
      rw [Bool.eq_false_iff]
      intro q
      have := HLE.out (HR.out.1 q)
      rw [← HBS.out] at this
      omega
    have d1 : decide (bs < (m : Int)) = true := decide_eq_true hm
    go_enter Try.func38, Try.ntmps38
    go_wp2
    go_ret
    exact ⟨rfl, Below.refl _ _⟩
  have d1 : decide (bs < (m : Int)) = false := decide_eq_false hm
  obtain ⟨Z, hZ1, hZ2, hZ⟩ := zeroB
  have R0 := World.rowIs_alloc w Z 83 (fun _ => .bool false) (fun i hi => hZ2 i (by omega))
  rw [hZ1] at R0
  have F0 := fresh_alloc w (.cells Z 83)
  have HR0 := hidd R0
  have HF0 := hidd F0
  clear R0 F0 hZ1 hZ2
  go_enter Try.func38, Try.ntmps38
  go_wp2
  clear hZ d1 hm
  generalize w.alloc (.cells Z 83) = w1 at *
  go_loopw [14] (fun i wr => ∃ k : Nat, k ≤ m ∧ i = .int .i64 k ∧ Hid (okB c k H) ∧ Hid (wr.rowIs w.heap.size 83 256 (fun b => .bool (hasN H k b))) ∧ Hid (Below w.heap.size w wr)) (fun i _ => m - (intOf i).toNat)
  case atStart => exact ⟨0, by omega, rfl, ⟨fun j hj => absurd hj (by omega), fun i j _ hj => absurd hj (by omega)⟩, HR0.out.congr (fun b _ => by rw [hasN_zero]), HF0⟩
  case round =>
    obtain ⟨k, hk, rfl, HK, HW, HF⟩ := hrel
    by_cases hlt : k < m
    · obtain ⟨b1, o1, rfl, hc⟩ := (h.fresh HF.out).one (by omega)
      have x1 := hc k hlt
      clear hc
      obtain ⟨y, HY⟩ : ∃ y, Hid (y = H k) := ⟨_, rfl⟩
      rw [← HY.out] at x1
      have k1 : (k : Int) < (m : Int) := by omega
      by_cases hy : 0 ≤ y ∧ y ≤ bs - 1
      · obtain ⟨x, hx⟩ : ∃ x : Nat, y = (x : Int) := ⟨y.toNat, by omega⟩
        subst hx
        have c1 := HW.out.cell (i := x) (by omega)
        have fr := HW.out.frozen
        have HWX := hidd (fun w => HWI.out (x : Int) 0 (bs - 1) true w ⟨fun _ => hy, fun _ => rfl⟩)
        have hx0 : (0 : Int) ≤ (x : Int) := by omega
        have hx1 : (x : Int) < 256 := by omega
        by_cases hs : hasN H k x = true
        · rw [hs] at c1
          have HN : Hid (¬ okB c m H) := fun q => by
            obtain ⟨j, hj, e⟩ := (hasN_iff H k x).1 hs
            exact q.2 j k hj hlt (by rw [e, ← HY.out])
          obtain rfl : r = false := by rw [Bool.eq_false_iff]; exact fun q => HN.out (HR.out.1 q)
          clear hs hy
          go_wp2_with (go_at_call 33; with_reducible refine (HWX.out _).mono ?_; rintro e w2 ⟨rfl, hw⟩; rw [hw]; clear hw)
          go_ret
          exact ⟨rfl, HF.out⟩
        · have hs' : hasN H k x = false := by rw [Bool.eq_false_iff]; exact hs
          have HNX := hidd (okB_next HK.out HY.out.symm (by rw [← HBS.out]; omega) hs')
          rw [hs'] at c1
          clear hs hs' hy
          go_wp2_with (go_at_call 33; with_reducible refine (HWX.out _).mono ?_; rintro e w2 ⟨rfl, hw⟩; rw [hw]; clear hw)
          go_roundw
          case rel => exact ⟨k + 1, by omega, by go_num, HNX, (HW.out.set x (.bool true)).congr (fun b _ => hasN_put H k x HY.out.symm b), HF.out.setCell (Nat.le_refl _) _⟩
          case measure => simp [intOf]; omega
      · have HWX := hidd (fun w => HWI.out y 0 (bs - 1) false w ⟨fun q => (by cases q), fun q => absurd q hy⟩)
        have HN : Hid (¬ okB c m H) := fun q => by
          have := q.1 k hlt
          rw [← HY.out, ← HBS.out] at this
          exact hy ⟨this.1, by omega⟩
        obtain rfl : r = false := by rw [Bool.eq_false_iff]; exact fun q => HN.out (HR.out.1 q)
        clear hy
        go_wp2_with (go_at_call 33; with_reducible refine (HWX.out _).mono ?_; rintro e w2 ⟨rfl, hw⟩; rw [hw]; clear hw)
        go_ret
        exact ⟨rfl, HF.out⟩
    · obtain rfl : k = m := by omega
      obtain rfl : r = true := HR.out.2 HK.out
      go_wp2
      go_ret
      exact ⟨rfl, HF.out⟩
end Go.Proofs.Ytdceahebkohbjab
