import Derived.Deep.DeepCutAuto
import Derived.Test.YtlnbbnojkpdccaaHD
namespace Go.Proofs.Ytlnbbnojkpdccaa
open Go.RowKit
/-! fixed; HeadsTops. -/
theorem Own.rda {w : World} {base : Nat} {e : TypeId} {sz n c : Nat} {u : Option Addr} {cs : Nat → Value} (h : Own w base e sz (.slice u n c) n cs) : RdA w u sz n c cs := by
  obtain ⟨ao, cap, e1, hr⟩ := h.rd
  injection e1 with e2 _ e3
  subst e2 e3
  exact hr
theorem Own.at0 {w : World} {base : Nat} {e : TypeId} {n c : Nat} {u : Option Addr} {cs : Nat → Value} (h : Own w base e 1 (.slice u n c) n cs) (hn : 0 < n) : ∃ g, u = some ⟨g, 0, none⟩ ∧ ∀ j, j < n → w.cell? ⟨g, j, none⟩ = some (cs j) := by
  obtain ⟨b, o, rfl, hc⟩ := h.rda.one hn
  rcases h.2 with ⟨e1, _⟩ | ⟨g, cap, cur, e1, _⟩
  · cases e1
  · injection e1 with e2 _ e3
    injection e2 with e2
    injection e2 with e4 e5
    subst e4 e5
    exact ⟨_, rfl, fun j hj => by simpa using hc j hj⟩
theorem RdA.head {w : World} {u : Option Addr} {sz n k c : Nat} {cs : Nat → Value} (h : RdA w u sz n c cs) (hk : k ≤ n) : RdA w u sz k c cs := ⟨Nat.le_trans hk h.le, h.top, fun h0 => by
  obtain ⟨b, o, rfl, hc⟩ := h.at_ (by omega)
  exact ⟨b, o, rfl, fun j hj => hc j (Nat.lt_of_lt_of_le hj (Nat.mul_le_mul_right _ hk))⟩⟩
def TopP (w : World) (f : Nat → Int) (n m : Nat) (e : Ending) (w' : World) : Prop := ∃ u c, e = .returned (.slice u m c) ∧ Hid (Own w' w.heap.size 3 1 (.slice u m c) m (fun j => .int .i64 (sg f n j))) ∧ Below w.heap.size w w'
theorem top_at {w : World} {ao : Option Addr} {n cap : Nat} {f : Nat → Int} (h : RdA w ao 1 n cap (fun i => .int .i64 (f i))) (hn : n ≤ 17592186043904) (k : Int) (m : Nat) (hm : m = min k.toNat n) :
    Calls Try.prog 10 #[.slice ao n cap, .int .i64 k] w (TopP w f n m) := by
  refine (top_any h hn k).mono ?_
  rintro e w' ⟨u, c, rfl, ho, hb⟩
  rw [← hm] at ho ⊢
  exact ⟨u, c, rfl, ho, hb⟩
set_option maxRecDepth 20000 in
set_option maxHeartbeats 800000 in
theorem fixed_any (w : World) : Calls Try.prog 9 #[] w fun e w' => e = .returned (.bool true) ∧ Below w.heap.size w w' := by
  obtain ⟨f, f0, f1⟩ : ∃ f : Nat → Int, f 0 = 3 ∧ f 1 = 5 := ⟨fun i => if i = 0 then 3 else 5, rfl, rfl⟩
  obtain ⟨s0, s1⟩ := sg_two f0 f1
  have fr := fresh_alloc w (.cells #[.int .i64 3, .int .i64 5] 2)
  have HT := hidd (top_at (w := w.alloc (.cells #[.int .i64 3, .int .i64 5] 2)) (ao := some ⟨w.heap.size, 0, none⟩) (n := 2) (cap := 2) (f := f) ⟨Nat.le_refl _, by unfold maxLen; omega, fun _ => ⟨w.heap.size, 0, rfl, fun j hj => by
    have : j = 0 ∨ j = 1 := by omega
    rcases this with rfl | rfl
    · rw [f0]; simp
    · rw [f1]; simp⟩⟩ (by omega) 2 2 rfl)
  go_enter Try.func9, Try.ntmps9
  go_wp2_with (go_at_call 10; (with_reducible refine HT.out.mono ?_); rintro e w1 ⟨u, c, rfl, HO, f9⟩; obtain ⟨b, rfl, hc⟩ := HO.out.at0 (by omega); have c0 := hc 0 (by omega); have c1 := hc 1 (by omega); simp only [s0, s1] at c0 c1; clear hc)
  go_ret
  exact ⟨rfl, fresh_trans fr f9⟩
set_option maxRecDepth 20000 in
set_option maxHeartbeats 3200000 in
theorem tops_law {w : World} {ao : Option Addr} {n cap : Nat} {f : Nat → Int} (h : RdA w ao 1 n cap (fun i => .int .i64 (f i))) (hn : n ≤ 17592186043904) :
    Calls Try.prog 3 #[.slice ao n cap] w fun e w' => e = .returned (.bool true) ∧ Below w.heap.size w w' := by
  have HF : Hid (∀ w1, Calls Try.prog 9 #[] w1 fun e w' => e = .returned (.bool true) ∧ Below w1.heap.size w1 w') := fun w1 => fixed_any w1
  have HT : Hid (∀ w1 (k : Int) (m : Nat), Below w.heap.size w w1 → m = min k.toNat n → Calls Try.prog 10 #[.slice ao n cap, .int .i64 k] w1 (TopP w1 f n m)) := fun w1 k m hb hm => top_at (h.fresh hb) hn k m hm
  have HH := hidd h
  have hle := h.le
  have htop := h.top
  unfold maxLen at htop
  clear h
  go_enter Try.func3, Try.ntmps3
  go_wp2_with (first
    | (go_at_call 9; (with_reducible refine (HF.out _).mono ?_); rintro e w1 ⟨rfl, f1⟩)
    | (go_at_call 10; (with_reducible refine (HT.out w1 0 0 f1 (by omega)).mono ?_); rintro e w2 ⟨u2, c2, rfl, O2, f2⟩; have g2 := fresh_trans f1 f2; clear f2)
    | (go_at_call 10; (with_reducible refine (HT.out w2 (-1) 0 g2 (by omega)).mono ?_); rintro e w3 ⟨u3, c3, rfl, O3, f3⟩; have g3 := fresh_trans g2 f3)
    | (go_at_call 10; (with_reducible refine (HT.out w3 ((n : Int) + 1) n g3 (by omega)).mono ?_); rintro e w4 ⟨u4, c4, rfl, O4, f4⟩; have g4 := fresh_trans g3 f4))
  have HO4 := hidd O4.out.rda
  have HO2 : Hid (RdA w4 u2 1 0 c2 (fun j => .int .i64 (sg f n j))) := (O2.out.rda.fresh f3).fresh f4
  clear O4 O2 O3 f1 g2 g3 f3 f4
  go_loopw [5, 8] (fun v vk wr => ∃ (k : Nat) (u : Option Addr) (c : Nat), k ≤ n ∧ v = .slice u k c ∧ vk = .int .i64 ((k : Int) + 1) ∧ Hid (RdA wr u 1 k c (fun j => .int .i64 (sg f n j))) ∧ Below w4.heap.size w4 wr) (fun _ vk _ => n + 1 - (intOf vk).toNat)
  case atStart => exact ⟨0, u2, c2, Nat.zero_le _, rfl, by simp, HO2.out, Below.refl _ _⟩
  case round =>
    clear HO2
    obtain ⟨k, u, c, hk, rfl, rfl, HL, hf⟩ := hrel
    by_cases hlt : k < n
    · have gw := fresh_trans g4 hf
      have i0 : (0 : Int) ≤ (k : Int) := by omega
      have hlc := HL.out.le
      go_wp2_with (first
        | (go_at_call 10; (with_reducible refine (HT.out _ ((k : Int) + 1) (k + 1) gw (by omega)).mono ?_); rintro e w5 ⟨u5, c5, rfl, O5, f5⟩; obtain ⟨b5, rfl, hc5⟩ := O5.out.at0 (by omega); have hle5 := O5.out.rda.le; have htop5 := O5.out.rda.top; have HQ := hidd (eq_rows (O5.out.rda.head (k := k) (by omega)) (HL.out.fresh f5) (fun _ _ => rfl)); have d5 := hc5 k (by omega); have HC5 := hidd hc5; obtain ⟨t, ht⟩ : ∃ t, t = sg f n k := ⟨_, rfl⟩; rw [← ht] at d5; have hty : t < n := (by rw [ht]; exact sg_lt hlt); have hb1 : decide ((t : Int) < 0) = false := decide_eq_false (by omega); have hb2 : decide (n ≤ t) = false := decide_eq_false (by omega); have HTT := hidd ht; clear hc5 ht; unfold maxLen at htop5)
        | (go_at_call 11; (with_reducible refine HQ.out.mono ?_); rintro e w6 ⟨rfl, f6⟩; have d6 := fresh_cell f6 d5; clear HQ))
      have HL5 : Hid (∀ j, j < k + 1 → w6.cell? ⟨b5, j, none⟩ = some (.int .i64 (sg f n j : Nat))) := fun j hj => fresh_cell f6 (HC5.out j hj)
      have g6 := fresh_trans (fresh_trans gw f5) f6
      have HR6 : Hid (RdA w6 (some ⟨b5, 0, none⟩) 1 (k + 1) c5 (fun j => .int .i64 (sg f n j : Nat))) := O5.out.rda.fresh f6
      have hf6 := fresh_trans (fresh_trans hf f5) f6
      clear O5 HC5 d5 d6 HL f5 f6 gw hf HO4
      go_loopw [12] (fun vi wr => ∃ i : Nat, i ≤ n ∧ vi = .int .i64 (i : Int) ∧ Below w6.heap.size w6 wr) (fun vi _ => n - (intOf vi).toNat)
      case atStart => exact ⟨0, Nat.zero_le _, by simp, Below.refl _ _⟩
      case round =>
        obtain ⟨i, hi, rfl, hf2⟩ := hrel
        by_cases hlt2 : i < n
        · have i2 : (i : Int) < (n : Int) := by omega
          go_wp2
          go_loopw [13, 14] (fun vb vj wr => ∃ (j : Nat) (b : Bool), j ≤ k + 1 ∧ vb = .bool b ∧ vj = .int .i64 (j : Int) ∧ Hid (b = true ↔ ∃ j', j' < j ∧ sg f n j' = i) ∧ Below w6.heap.size w6 wr) (fun _ vj _ => k + 1 - (intOf vj).toNat)
          case atStart => exact ⟨0, false, Nat.zero_le _, rfl, by simp, ⟨fun e => (by cases e), fun ⟨j', h1, _⟩ => absurd h1 (by omega)⟩, hf2⟩
          case round =>
            clear hf2
            obtain ⟨j, b, hj, rfl, rfl, HB, hf3⟩ := hrel
            by_cases hlt3 : j < k + 1
            · have e3 := fresh_cell hf3 (HL5.out j hlt3)
              have i3 : (j : Int) < (k : Int) + 1 := by omega
              cases b with
              | true =>
                go_wp2
                go_roundw
                case rel => exact ⟨j + 1, true, by omega, rfl, by go_num, ⟨fun _ => (by obtain ⟨j', h1, h2⟩ := HB.out.1 rfl; exact ⟨j', by omega, h2⟩), fun _ => rfl⟩, hf3⟩
                case measure => simp [intOf]; omega
              | false =>
                by_cases hq : sg f n j = i
                · have HQ := hidd hq
                  rw [hq] at e3
                  go_wp2
                  go_roundw
                  case rel => exact ⟨j + 1, true, by omega, by simp, by go_num, ⟨fun _ => ⟨j, by omega, HQ.out⟩, fun _ => rfl⟩, hf3⟩
                  case measure => simp [intOf]; omega
                · have HQ := hidd hq
                  have hd : ((sg f n j : Int) == (i : Int)) = false := by simp; omega
                  go_wp2
                  go_roundw
                  case rel => exact ⟨j + 1, false, by omega, by simp, by go_num, ⟨fun e => (by cases e), fun ⟨j', h1, h2⟩ => (by
                    by_cases e : j' = j
                    · subst e; exact absurd h2 HQ.out
                    · exact HB.out.2 ⟨j', by omega, h2⟩)⟩, hf3⟩
                  case measure => simp [intOf]; omega
            · obtain rfl : j = k + 1 := by omega
              obtain ⟨bl, ol, rfl, hcl⟩ := (HH.out.fresh (fresh_trans g6 hf3)).one (by omega)
              have ci := hcl i hlt2
              have ct := hcl t hty
              clear hcl
              have t0 : (0 : Int) ≤ (t : Int) := by omega
              have t1 : (t : Int) < (n : Int) := by omega
              have ii0 : (0 : Int) ≤ (i : Int) := by omega
              cases b with
              | true =>
                go_wp2
                go_quiet (fail)
                go_wp2
                go_roundw
                case rel => exact ⟨i + 1, by omega, by go_num, below_drewN hf3 _⟩
                case measure => simp [intOf]; omega
              | false =>
                have hno := sg_rest (f := f) (n := n) (k := k) (m := i) hlt2 (fun j' h1 h2 => by have := HB.out.2 ⟨j', by omega, h2⟩; cases this)
                rw [← HTT.out] at hno
                have hd : decide (f t < f i) = false := decide_eq_false (fun q => hno (.inl q))
                have HNO := hidd hno
                by_cases hq : f i = f t
                · have hd2 : decide ((i : Int) < (t : Int)) = false := decide_eq_false (fun q => HNO.out (.inr ⟨hq, by omega⟩))
                  have hd3 : decide (i < t) = false := decide_eq_false (fun q => HNO.out (.inr ⟨hq, q⟩))
                  rw [hq] at ci hd
                  clear hno hq
                  go_wp2
                  go_quiet (fail)
                  go_wp2
                  go_roundw
                  case rel => exact ⟨i + 1, by omega, by go_num, below_drewN hf3 _⟩
                  case measure => simp [intOf]; omega
                · have hd2 : (f i == f t) = false := by simpa using hq
                  clear hno
                  go_wp2
                  go_quiet (fail)
                  go_wp2
                  go_roundw
                  case rel => exact ⟨i + 1, by omega, by go_num, below_drewN hf3 _⟩
                  case measure => simp [intOf]; omega
        · obtain rfl : i = n := by omega
          go_wp2
          go_roundw
          case rel => exact ⟨k + 1, _, _, by omega, rfl, by go_num, HR6.out.fresh hf2, fresh_trans hf6 hf2⟩
          case measure => simp [intOf]; omega
    · obtain rfl : k = n := by omega
      have HQ := hidd (eq_rows (HO4.out.fresh hf) HL.out (fun _ _ => rfl))
      go_wp2_with (go_at_call 11; (with_reducible refine HQ.out.mono ?_); rintro e w6 ⟨rfl, f6⟩)
      go_ret
      exact ⟨rfl, fresh_trans (fresh_trans g4 hf) f6⟩
end Go.Proofs.Ytlnbbnojkpdccaa
