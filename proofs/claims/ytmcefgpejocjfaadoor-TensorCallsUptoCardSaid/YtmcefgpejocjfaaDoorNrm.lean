import Derived.Test.YtmcefgpejocjfaaDoorSums
import Derived.Test.YtmcefgpejocjfaaDoorSmall
import Derived.Test.YtmcefgpejocjfaaDoorClamp8
import Derived.Test.YtmcefgpejocjfaaDoorDiv
import Derived.Test.YtmcefgpejocjfaaDoorSqrt
namespace Go.Proofs.YtmcefgpejocjfaaDoor
open Go.RowKit
/-! Roots as a function; clamped; Norm. -/
def rtN : Nat → Nat
  | 0 => 0
  | n + 1 => if (rtN n + 1) * (rtN n + 1) ≤ n + 1 then rtN n + 1 else rtN n
theorem rtN_spec : ∀ n, rtN n * rtN n ≤ n ∧ n < (rtN n + 1) * (rtN n + 1)
  | 0 => by decide
  | n + 1 => by
    obtain ⟨h1, h2⟩ := rtN_spec n
    show (if _ then _ else _) * (if _ then _ else _) ≤ n + 1 ∧ n + 1 < ((if _ then _ else _) + 1) * ((if _ then _ else _) + 1)
    by_cases h : (rtN n + 1) * (rtN n + 1) ≤ n + 1
    · rw [if_pos h]
      refine ⟨h, ?_⟩
      have e : (rtN n + 1 + 1) * (rtN n + 1 + 1) = (rtN n + 1) * (rtN n + 1) + 2 * (rtN n + 1) + 1 := by grind
      omega
    · rw [if_neg h]
      exact ⟨by omega, by omega⟩
def rt (v : Int) : Int := if v ≤ 0 then 0 else (rtN v.toNat : Int)
theorem rt_low {v : Int} (h : v ≤ 0) : rt v = 0 := by unfold rt; rw [if_pos h]
theorem sq_lt_of {a b : Int} (h0 : 0 ≤ a) (h : a + 1 ≤ b) : (a + 1) * (a + 1) ≤ b * b := Int.mul_le_mul h h (by omega) (by omega)
theorem rt_bds {v : Int} (h : 0 < v) : 0 ≤ rt v ∧ rt v * rt v ≤ v ∧ v < (rt v + 1) * (rt v + 1) := by
  unfold rt
  rw [if_neg (by omega)]
  obtain ⟨h1, h2⟩ := rtN_spec v.toNat
  have e1 : ((rtN v.toNat * rtN v.toNat : Nat) : Int) ≤ ((v.toNat : Nat) : Int) := Int.ofNat_le.mpr h1
  have e2 : ((v.toNat : Nat) : Int) < (((rtN v.toNat + 1) * (rtN v.toNat + 1) : Nat) : Int) := Int.ofNat_lt.mpr h2
  rw [Int.natCast_mul] at e1 e2
  rw [Int.natCast_add] at e2
  refine ⟨by omega, by omega, ?_⟩
  have : ((v.toNat : Nat) : Int) = v := by omega
  rw [this] at e2
  exact e2
theorem rt_eq {v r : Int} (h : 0 < v) (h0 : 0 ≤ r) (h1 : r * r ≤ v) (h2 : v < (r + 1) * (r + 1)) : rt v = r := by
  obtain ⟨a, b, c⟩ := rt_bds h
  rcases Int.lt_trichotomy (rt v) r with e | e | e
  · have := sq_lt_of a (show rt v + 1 ≤ r by omega); omega
  · exact e
  · have := sq_lt_of h0 (show r + 1 ≤ rt v by omega); omega
theorem rt_bd (v : Int) (h : v ≤ 9223372036854775807) : 0 ≤ rt v ∧ rt v < 4294967296 := by
  by_cases h0 : v ≤ 0
  · rw [rt_low h0]; omega
  · obtain ⟨a, b, c⟩ := rt_bds (show 0 < v by omega)
    refine ⟨a, ?_⟩
    apply Int.not_le.1
    intro hh
    have : (4294967296 : Int) * 4294967296 ≤ rt v * rt v := Int.mul_le_mul hh hh (by omega) (by omega)
    omega
theorem sqrt_any (v : Int) (w : World) (v1 : v ≤ 9223372036854775807) :
    Calls Tryd.prog 59 #[.int .i64 v] w fun e w' => e = .returned (.int .i64 (rt v)) ∧ w' = w := by
  by_cases h : v ≤ 0
  · rw [rt_low h]; exact sqrt_low v w h
  · refine (sqrt_pos v w (by omega) v1).mono ?_
    rintro e w' ⟨⟨r, rfl, h0, _, h1, h2⟩, rfl⟩
    exact ⟨by rw [rt_eq (by omega) h0 h1 h2], rfl⟩
theorem dv_bd (a b : Int) (h0 : -9223372036854775808 ≤ a) (h1 : a ≤ 9223372036854775807) : -9223372036854775808 ≤ Fix.dv a b ∧ Fix.dv a b ≤ 9223372036854775807 := by
  by_cases h : b ≤ 0
  · rw [Fix.dv_le a b h]; omega
  · rw [Fix.dv_gt a b (by omega)]; exact Fix.quo_bd a b (by omega) h0 h1
def ncl (f : Nat → Int) : Nat → Int := fun i => Fix.cl (f i) 16777216
theorem ncl_bd (f : Nat → Int) (i : Nat) : -16777216 ≤ ncl f i ∧ ncl f i ≤ 16777216 := by have := cl_bd (f i) 16777216; unfold ncl; omega
def nr (f : Nat → Int) (n : Nat) : Int := rt (Fix.dv (dot (ncl f) (ncl f) n) (n : Int)) + 1
def nrm (f g : Nat → Int) (n i : Nat) : Int := Fix.cl (Fix.dv (wrap64 (ncl f i * g i)) (nr f n)) 127
theorem set_next {F : Nat → Value} {G : Nat → Value} {k : Nat} (h : ∀ j, j < k → F j = G j) {x : Value} (hx : x = G k) : Hid (∀ j, j < k + 1 → (if j = k then x else F j) = G j) := by
  intro j hj
  by_cases e : j = k
  · rw [if_pos e, e, hx]
  · rw [if_neg e, h j (by omega)]
set_option maxHeartbeats 1000000 in
theorem clamped_any {w : World} {ao : Option Addr} {n ca : Nat} {f : Nat → Int} (ha : RdA w ao 1 n ca (fun i => .int .i64 (f i))) (bf : ∀ i, i < n → -9223372036854775808 ≤ f i ∧ f i ≤ 9223372036854775807) (hn : 8 * n ≤ 281474976710656) :
    Calls Tryd.prog 58 #[.slice ao n ca] w fun e w' => ∃ b F, e = .returned (.slice (some ⟨b, 0, none⟩) n n) ∧ w.heap.size ≤ b ∧ w'.rowIs b 2 n F ∧ (∀ j, j < n → F j = .int .i64 (ncl f j)) ∧ Below w.heap.size w w' := by
  have hmk := run_make_row' (P := Tryd.prog) 29 2 (.int .i64 0) 8 Tryd.underlying29 infoI64 rfl .i64 .i64 n hn (by omega)
  go_enter Tryd.func58, Tryd.ntmps58
  go_wp2
  clear hmk
  go_loopw [11] (fun i wr => ∃ (k : Nat) (F : Nat → Value), k ≤ n ∧ i = .int .i64 k ∧ wr.rowIs w.heap.size 2 n F ∧ Hid (∀ j, j < k → F j = .int .i64 (ncl f j)) ∧ Below w.heap.size w wr) (fun i _ => n - (intOf i).toNat)
  case atStart => exact ⟨0, _, by omega, rfl, World.rowIs_made w (.int .i64 0) n 2, fun j hj => absurd hj (by omega), fresh_alloc _ _⟩
  case round =>
    obtain ⟨k, F, hk, rfl, hrow, HF, hf⟩ := hrel
    by_cases hlt : k < n
    · obtain ⟨b1, o1, rfl, h1⟩ := (ha.fresh hf).one (by omega)
      have c1 := h1 k hlt
      have d1 := bf k hlt
      have fa := hrow.frozen
      have cc := hrow.cell (i := k) hlt
      clear h1
      go_wp2_with (go_at_call 80; refine (clamp_any _ 16777216 _ (by omega) (by omega) (by omega) (by omega)).mono ?_; rintro e w' ⟨rfl, rfl⟩)
      go_roundw
      case rel => exact ⟨k + 1, _, hlt, by go_num, hrow.set k _, set_next (G := fun j => .int .i64 (ncl f j)) HF.out rfl, hf.setCell (Nat.le_refl _) _⟩
      case measure => simp [intOf]; omega
    · obtain rfl : k = n := by omega
      go_wp2
      go_ret
      exact ⟨_, F, rfl, Nat.le_refl _, hrow, HF.out, hf⟩
set_option maxHeartbeats 2000000 in
theorem norm_ok {w : World} {ao bo : Option Addr} {n ca cb : Nat} {f g : Nat → Int} (ha : RdA w ao 1 n ca (fun i => .int .i64 (f i))) (hb : RdA w bo 1 n cb (fun i => .int .i8 (g i)))
    (bf : ∀ i, i < n → -9223372036854775808 ≤ f i ∧ f i ≤ 9223372036854775807) (bg : ∀ i, i < n → -128 ≤ g i ∧ g i ≤ 127) (h0 : 0 < n) (hn : 8 * n ≤ 281474976710656) :
    Calls Tryd.prog 24 #[.slice ao n ca, .slice bo n cb] w fun e w' => ∃ b F, e = .returned (.tuple #[.slice (some ⟨b, 0, none⟩) n n, .int .i64 0]) ∧ w.heap.size ≤ b ∧ w'.rowIs b 48 n F ∧ (∀ j, j < n → F j = .int .i8 (nrm f g n j)) ∧ Below w.heap.size w w' := by
  have hz : ((n : Int) == 0) = false := by simp; omega
  have hne : ((n : Int) != (n : Int)) = false := by simp
  have hmk := run_make_row' (P := Tryd.prog) 26 48 (.int .i8 0) 1 Tryd.underlying26 infoI8 rfl .i64 .i64 n (by omega) (by omega)
  go_enter Tryd.func24, Tryd.ntmps24
  go_wp2_with fail
  refine (clamped_any ha bf hn).mono ?_
  rintro e w1 ⟨b, F, rfl, hb1, hrow, hF, hf1⟩
  have hc : RdA w1 (some ⟨b, 0, none⟩) 1 n n (fun i => .int .i64 (ncl f i)) := (rowIs_rd hrow (by unfold maxLen; omega)).congr (fun j hj => hF j (by omega))
  have bc : ∀ i, i < n → -9223372036854775808 ≤ ncl f i ∧ ncl f i ≤ 9223372036854775807 := fun i _ => by have := ncl_bd f i; omega
  clear hrow hF
  have hb2 := hb.fresh hf1
  have hd := dot_bd (ncl f) (ncl f) n
  have hq := dv_bd (dot (ncl f) (ncl f) n) (n : Int) hd.1 hd.2
  have hr := rt_bd (Fix.dv (dot (ncl f) (ncl f) n) (n : Int)) hq.2
  have hr2 : nr f n = rt (Fix.dv (dot (ncl f) (ncl f) n) (n : Int)) + 1 := rfl
  have HR := hidd hr2
  clear hr2
  go_wp2_with fail
  refine (sop66_any hc hc bc bc).mono ?_
  rintro e w' ⟨rfl, rfl⟩
  go_wp2_with fail
  refine (div_any _ _ _ hd.1 hd.2 (by omega) (by omega)).mono ?_
  rintro e w' ⟨rfl, rfl⟩
  go_wp2_with fail
  refine (sqrt_any _ _ hq.2).mono ?_
  rintro e w' ⟨rfl, rfl⟩
  go_wp2
  rw [← HR.out]
  have hrr : 1 ≤ nr f n ∧ nr f n ≤ 4294967296 := by rw [HR.out]; omega
  clear HR hr hq hmk hz hne
  have hsz := hf1.size
  go_loopw [36] (fun i wr => ∃ (k : Nat) (F : Nat → Value), k ≤ n ∧ i = .int .i64 k ∧ wr.rowIs w'.heap.size 48 n F ∧ Hid (∀ j, j < k → F j = .int .i8 (nrm f g n j)) ∧ Below w'.heap.size w' wr) (fun i _ => n - (intOf i).toNat)
  case atStart => exact ⟨0, _, by omega, rfl, World.rowIs_made w' (.int .i8 0) n 48, fun j hj => absurd hj (by omega), fresh_alloc _ _⟩
  case round =>
    obtain ⟨k, F, hk, rfl, hrow, HF, hf⟩ := hrel
    by_cases hlt : k < n
    · obtain ⟨b1, o1, rfl, h1⟩ := (hb2.fresh hf).one (by omega)
      have c1 := h1 k hlt
      have d1 := bg k hlt
      obtain ⟨b3, o3, e3, h3⟩ := (hc.fresh hf).one (by omega)
      simp only [Option.some.injEq, Addr.mk.injEq, and_true] at e3
      obtain ⟨rfl, rfl⟩ := e3
      have c3 := h3 k hlt
      simp only [Nat.zero_add] at c3
      have fa := hrow.frozen
      have cc := hrow.cell (i := k) hlt
      have hp := wbd (ncl f k * g k)
      have hq := dv_bd (wrap64 (ncl f k * g k)) (nr f n) hp.1 hp.2
      clear h1 h3
      go_wp2_with fail
      refine (div_any (wrap64 (ncl f k * g k)) (nr f n) _ hp.1 hp.2 (by omega) (by omega)).mono ?_
      rintro e w2 ⟨rfl, rfl⟩
      go_wp2_with fail
      refine (clamp8_any _ _ hq.1 hq.2).mono ?_
      rintro e w2 ⟨rfl, rfl⟩
      clear hp hq
      go_wp2
      go_roundw
      case rel => exact ⟨k + 1, _, hlt, by go_num, hrow.set k _, set_next (G := fun j => .int .i8 (nrm f g n j)) HF.out rfl, hf.setCell (Nat.le_refl _) _⟩
      case measure => simp [intOf]; omega
    · obtain rfl : k = n := by omega
      go_wp2
      go_ret2
      exact ⟨_, F, rfl, hsz, hrow, HF.out, fresh_trans hf1 hf⟩
set_option maxHeartbeats 1000000 in
theorem norm_bad {w : World} {ao bo : Option Addr} {n m ca cb : Nat} (h : n = 0 ∨ n ≠ m) :
    Calls Tryd.prog 24 #[.slice ao n ca, .slice bo m cb] w fun e w' => e = .returned (.tuple #[.slice none 0 0, .int .i64 30]) ∧ w' = w := by
  by_cases h0 : n = 0
  · subst h0
    go_enter Tryd.func24, Tryd.ntmps24
    go_wp2
    go_ret2
    exact ⟨rfl, rfl⟩
  · have hz : ((n : Int) == 0) = false := by simp; omega
    have hne : ((n : Int) != (m : Int)) = true := by simp; omega
    clear h
    go_enter Tryd.func24, Tryd.ntmps24
    go_wp2
    go_ret2
    exact ⟨rfl, rfl⟩
end Go.Proofs.YtmcefgpejocjfaaDoor
