import Derived.Test.YtbpldnlafilbbaaNgX
import Derived.Test.YtbpldnlafilbbaaLat
namespace Go.Proofs.Ytbpldnlafilbbaa
open Go.RowKit
/-! alike, longest. -/
theorem RdA.cut {w : World} {b off n cap : Nat} {cs : Nat → Value} (h : RdA w (some ⟨b, off, none⟩) 1 n cap cs) {lo m : Nat} (hh : lo + m ≤ n) : RdA w (some ⟨b, off + lo, none⟩) 1 m (cap - lo) (fun j => cs (lo + j)) := by
  refine ⟨by have := h.le; omega, by have := h.top; omega, fun hm => ⟨b, off + lo, rfl, fun j hj => ?_⟩⟩
  obtain ⟨b', o', e, hc⟩ := h.at_ (by omega)
  cases e
  rw [Nat.add_assoc]
  exact hc _ (by omega)
theorem eqInts_val {w : World} {ao bo : Option Addr} {n ca cb : Nat} {f g : Nat → Int} (ha : RdA w ao 1 n ca (fun i => .int .i64 (f i))) (hb : RdA w bo 1 n cb (fun i => .int .i64 (g i))) {r : Bool} (hr : r = true ↔ ∀ i, i < n → f i = g i) :
    Calls Try.prog 19 #[.slice ao n ca, .slice bo n cb] w fun e w' => e = .returned (.bool r) ∧ Below w.heap.size w w' := by
  refine (eqInts_any ha hb).mono ?_
  rintro e w' ⟨⟨r', rfl, hr'⟩, h⟩
  have : r' = r := by
    have h2 : r' = true ↔ r = true := by rw [hr', hr]; exact ⟨fun h => h.2, fun h => ⟨rfl, h⟩⟩
    cases r <;> cases r' <;> simp_all
  rw [this]
  exact ⟨rfl, h⟩
set_option maxRecDepth 20000 in
set_option maxHeartbeats 3200000 in
theorem alike_any {w : World} {ao : Option Addr} {n c : Nat} {f : Nat → Int} (h : RdA w ao 1 n c (fun i => .int .i64 (f i))) (q l : Nat) (hl : 1 ≤ l ∧ l ≤ 4) (hq : q ≤ 9223372036854775807) {r : Bool} (hr : r = true ↔ l ≤ q ∧ q < n ∧ Sm f q l n) :
    Calls Try.prog 16 #[.slice ao n c, .int .i64 q, .int .i64 l] w fun e w' => e = .returned (.bool r) ∧ Below w.heap.size w w' := by
  have hle := h.le
  have htop := h.top
  unfold maxLen at htop
  by_cases c1 : l ≤ q
  · have d1 : decide ((l : Int) ≤ (q : Int)) = true := decide_eq_true (by omega)
    by_cases c2 : q < n
    · have d2 : decide ((q : Int) < (n : Int)) = true := decide_eq_true (by omega)
      obtain ⟨b, o, rfl, _⟩ := h.one (by omega)
      have HQ : Hid (∀ x : Later w, Calls Try.prog 19 #[.slice (some ⟨b, o + (q - l), none⟩) l (c - (q - l)), .slice (some ⟨b, o + (n - l), none⟩) l (c - (n - l))] x.val fun e w' => e = .returned (.bool r) ∧ Below x.val.heap.size x.val w') := fun x => by
        refine eqInts_val (f := fun j => f (q - l + j)) (g := fun j => f (n - l + j)) ((h.fresh x.fresh).cut (lo := q - l) (m := l) (by omega)) ((h.fresh x.fresh).cut (lo := n - l) (m := l) (by omega)) ?_
        rw [hr]
        exact ⟨fun h => h.2.2, fun h => ⟨c1, c2, h⟩⟩
      have e1 : IntKind.i64.wrap ((q : Int) - (l : Int)) = (q : Int) - (l : Int) := wrap_small _ (by omega) (by omega)
      have e2 : IntKind.i64.wrap ((n : Int) - (l : Int)) = (n : Int) - (l : Int) := wrap_small _ (by omega) (by omega)
      have e3 : (0 : Int) ≤ (q : Int) - (l : Int) := by omega
      have e4 : (q : Int) - (l : Int) ≤ (q : Int) := by omega
      have e5 : (q : Int) ≤ (c : Int) := by omega
      have e6 : ((q : Int) - (l : Int)).toNat = q - l := by omega
      have e7 : q - (q - l) = l := by omega
      have e8 : (0 : Int) ≤ (n : Int) - (l : Int) := by omega
      have e9 : (n : Int) - (l : Int) ≤ (n : Int) := by omega
      have e10 : (n : Int) ≤ (c : Int) := by omega
      have e11 : ((n : Int) - (l : Int)).toNat = n - l := by omega
      have e12 : n - (n - l) = l := by omega
      have e13 : ¬ c = q - l := by omega
      have e14 : ¬ c = n - l := by omega
      have ne := later_some w
      clear h hr
      go_enter Try.func16, Try.ntmps16
      go_wp2
      refine wp_region_later (by kernel_rfl) (by kernel_rfl) ?_
      repeat (go_big_quiet_step (fail))
      go_big_quiet_step (exact later_of (HQ.out _))
      repeat (go_big_quiet_step (fail))
      refine wpQuiet_nil ?_
      rintro _ ⟨z, rfl⟩
      have hz := z.fresh
      go_wp2
      go_ret
      exact ⟨rfl, hz⟩
    · have d2 : decide ((q : Int) < (n : Int)) = false := decide_eq_false (by omega)
      obtain rfl : r = false := by cases r with | false => rfl | true => exact absurd (hr.1 rfl).2.1 c2
      clear h hr
      go_enter Try.func16, Try.ntmps16
      go_wp2
      go_quiet (fail)
      go_wp2
      go_ret
      exact ⟨rfl, fresh_drewN _ _⟩
  · have d1 : decide ((l : Int) ≤ (q : Int)) = false := decide_eq_false (by omega)
    obtain rfl : r = false := by cases r with | false => rfl | true => exact absurd (hr.1 rfl).1 c1
    clear h hr
    go_enter Try.func16, Try.ntmps16
    go_wp2
    go_quiet (fail)
    go_wp2
    go_ret
    exact ⟨rfl, fresh_drewN _ _⟩
open Classical in
/-- the longest run of up to m tokens that stands there -/
noncomputable def hsL (f : Nat → Int) (n : Nat) : Nat → Nat
  | 0 => 0
  | m + 1 => if Has f n (m + 1) then m + 1 else hsL f n m
theorem hsL_le (f : Nat → Int) (n : Nat) : ∀ m, hsL f n m ≤ m
  | 0 => Nat.le_refl _
  | m + 1 => by
    unfold hsL
    have := hsL_le f n m
    split <;> omega
theorem hsL_has {f : Nat → Int} {n : Nat} : ∀ m, 1 ≤ hsL f n m → Has f n (hsL f n m)
  | 0, h => absurd h (by show ¬ 1 ≤ 0; omega)
  | m + 1, h => by
    by_cases e : Has f n (m + 1)
    · have : hsL f n (m + 1) = m + 1 := if_pos e
      rw [this]; exact e
    · have : hsL f n (m + 1) = hsL f n m := if_neg e
      rw [this] at h ⊢
      exact hsL_has m h
theorem hsL_not {f : Nat → Int} {n : Nat} : ∀ m k, hsL f n m < k → k ≤ m → ¬ Has f n k
  | 0, k, h1, h2 => absurd h2 (by omega)
  | m + 1, k, h1, h2 => by
    by_cases e : Has f n (m + 1)
    · have : hsL f n (m + 1) = m + 1 := if_pos e
      omega
    · have : hsL f n (m + 1) = hsL f n m := if_neg e
      by_cases ek : k = m + 1
      · rw [ek]; exact e
      · exact hsL_not m k (by omega) (by omega)
theorem hsL_end {f : Nat → Int} {n k : Nat} (hk : k ≤ 4) : hsL f n k = endL f k n := (endL_eq hk (hsL_le f n k) (hsL_has k) (fun m h1 h2 => hsL_not k m h1 h2)).symm
def Hq (f : Nat → Int) (n l q : Nat) : Prop := ∃ q', l ≤ q' ∧ q' < q ∧ Sm f q' l n
theorem Hq_succ {f : Nat → Int} {n l q : Nat} (h : l ≤ q) : Hq f n l (q + 1) ↔ Hq f n l q ∨ Sm f q l n := by
  constructor
  · rintro ⟨q', h1, h2, h3⟩
    by_cases e : q' < q
    · exact .inl ⟨q', h1, e, h3⟩
    · obtain rfl : q' = q := by omega
      exact .inr h3
  · rintro (⟨q', h1, h2, h3⟩ | h3)
    · exact ⟨q', h1, by omega, h3⟩
    · exact ⟨q, h, by omega, h3⟩
set_option maxRecDepth 20000 in
set_option maxHeartbeats 3200000 in
theorem longest_run {w : World} {ao : Option Addr} {n c : Nat} {f : Nat → Int} (h : RdA w ao 1 n c (fun i => .int .i64 (f i))) (hn : n * 8 ≤ 140737488351232) {k : Nat} (hk : 1 ≤ k ∧ k ≤ 4) :
    Calls Try.prog 15 #[.slice ao n c, .int .i64 k] w fun e w' => e = .returned (.int .i64 (endL f k n)) ∧ Below w.heap.size w w' := by
  have HA := hidd h
  clear h
  go_enter Try.func15, Try.ntmps15
  go_wp2
  go_loopw [5, 6] (fun vb vl wr => ∃ l : Nat, 1 ≤ l ∧ l ≤ k + 1 ∧ vl = .int .i64 l ∧ vb = .int .i64 (hsL f n (l - 1)) ∧ Hid (Below w.heap.size w wr)) (fun _ vl _ => k + 1 - (intOf vl).toNat)
  case atStart => exact ⟨1, by omega, by omega, rfl, rfl, Below.refl _ _⟩
  case round =>
    obtain ⟨l, hl1, hl2, rfl, rfl, HB⟩ := hrel
    have hs4 := hsL_le f n (l - 1)
    obtain ⟨b0, HB0⟩ : ∃ b0, Hid (b0 = hsL f n (l - 1)) := ⟨_, rfl⟩
    rw [← HB0.out] at hs4 ⊢
    by_cases hlt : l ≤ k
    · have d1 : decide ((l : Int) ≤ (k : Int)) = true := decide_eq_true (by omega)
      go_wp2
      go_loopw [5, 7] (fun vb vq wr => ∃ q : Nat, l ≤ q ∧ (q ≤ n ∨ q = l) ∧ vq = .int .i64 q ∧ (∃ b : Nat, vb = .int .i64 b ∧ Hid ((Hq f n l q → b = l) ∧ (¬ Hq f n l q → b = b0))) ∧ Hid (Below w.heap.size w wr)) (fun _ vq _ => n - (intOf vq).toNat)
      case atStart => exact ⟨l, by omega, .inr rfl, rfl, ⟨b0, rfl, fun ⟨q', h1, h2, _⟩ => absurd h1 (by omega), fun _ => rfl⟩, HB⟩
      case round =>
        obtain ⟨q, hq1, hq2, rfl, ⟨b, rfl, Hb⟩, HBq⟩ := hrel
        by_cases hqn : q < n
        · have d2 : decide ((q : Int) < (n : Int)) = true := decide_eq_true (by omega)
          by_cases hs : Sm f q l n
          · have HAL := hidd (alike_any (HA.out.fresh HBq.out) q l (by omega) (by omega) (r := true) ⟨fun _ => ⟨hq1, hqn, hs⟩, fun _ => rfl⟩)
            have HST : Hid ((Hq f n l (q + 1) → l = l) ∧ (¬ Hq f n l (q + 1) → l = b0)) := ⟨fun _ => rfl, fun h => absurd ((Hq_succ hq1).2 (.inr hs)) h⟩
            clear hs
            go_wp2_with (go_at_call 16; with_reducible refine HAL.out.mono ?_; rintro e w5 ⟨rfl, hb5⟩; have HB5 := hidd (HBq.out.trans (hb5.mono HBq.out.size)); clear hb5)
            go_roundw
            case rel => exact ⟨q + 1, by omega, .inl (by omega), by go_num, ⟨l, rfl, fun _ => rfl, HST.out.2⟩, HB5⟩
            case measure => simp [intOf]; omega
          · have HAL := hidd (alike_any (HA.out.fresh HBq.out) q l (by omega) (by omega) (r := false) ⟨fun h => absurd h (by simp), fun h => absurd h.2.2 hs⟩)
            have HST : Hid ((Hq f n l (q + 1) → b = l) ∧ (¬ Hq f n l (q + 1) → b = b0)) := ⟨fun h => Hb.out.1 (((Hq_succ hq1).1 h).elim id (fun h => absurd h hs)), fun h => Hb.out.2 (fun h' => h ((Hq_succ hq1).2 (.inl h')))⟩
            clear hs
            go_wp2_with (go_at_call 16; with_reducible refine HAL.out.mono ?_; rintro e w5 ⟨rfl, hb5⟩; have HB5 := hidd (HBq.out.trans (hb5.mono HBq.out.size)); clear hb5)
            go_roundw
            case rel => exact ⟨q + 1, by omega, .inl (by omega), by go_num, ⟨b, rfl, HST⟩, HB5⟩
            case measure => simp [intOf]; omega
        · have d2 : decide ((q : Int) < (n : Int)) = false := decide_eq_false (by omega)
          have HE : Hid (b = hsL f n l) := by
            obtain ⟨m, hm⟩ : ∃ m, l = m + 1 := ⟨l - 1, by omega⟩
            by_cases e : Has f n l
            · have h1 : hsL f n l = l := by rw [hm] at e ⊢; exact if_pos e
              rw [h1]
              obtain ⟨q', g1, g2, g3⟩ := e
              exact Hb.out.1 ⟨q', g1, by omega, g3⟩
            · have h1 : hsL f n l = hsL f n (l - 1) := by rw [hm] at e ⊢; exact if_neg e
              rw [h1, ← HB0.out]
              refine Hb.out.2 (fun ⟨q', g1, g2, g3⟩ => e ⟨q', g1, by omega, g3⟩)
          go_wp2
          go_roundw
          case rel => exact ⟨l + 1, by omega, by omega, by go_num, by rw [HE.out]; rfl, HBq⟩
          case measure => simp [intOf]; omega
    · have d1 : decide ((l : Int) ≤ (k : Int)) = false := decide_eq_false (by omega)
      obtain rfl : l = k + 1 := by omega
      have HE : Hid (b0 = endL f k n) := by
        have := hsL_end (f := f) (n := n) hk.2
        rw [← this]
        exact HB0.out
      go_wp2
      go_ret
      exact ⟨by rw [HE.out]; rfl, HB.out⟩
end Go.Proofs.Ytbpldnlafilbbaa
