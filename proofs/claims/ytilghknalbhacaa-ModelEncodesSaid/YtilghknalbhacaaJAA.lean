import Derived.WalkKit
import Derived.WalkSpells
import Derived.WalkSmall
import Derived.WalkLawsBesides
import Derived.Handy
import Derived.BigQuiet
import Derived.OwnWalk
import Derived.ArgAppend
import Derived.Deep.OwnRows
namespace Go.Proofs.Ytilghknalbhacaa.Fix
/-! The plain mathematics of shifts, quotients and roots: no program in sight. -/
theorem half_up (x : Int) : x / 2 + x % 2 = (x + 1) / 2 := by omega
theorem pow_pos (n : Nat) : (0 : Int) < 2 ^ n := Int.pow_pos (by decide)
/-- P1.1: the whole number nearest to v over 2 to the s; halves go up. -/
def sh (v s : Int) : Int := if s ≤ 0 then v else (v / 2 ^ (min s 62 - 1).toNat + 1) / 2
theorem sh_zero (v s : Int) (h : s ≤ 0) : sh v s = v := by unfold sh; rw [if_pos h]
theorem sh_pos (v s : Int) (h : 0 < s) : sh v s = (v / 2 ^ (min s 62 - 1).toNat + 1) / 2 := by
  unfold sh; rw [if_neg (by omega)]
theorem div_split (v : Int) (n : Nat) : v / 2 ^ (n + 1) = v / 2 ^ n / 2 := by
  rw [Int.pow_succ, Int.ediv_ediv_of_nonneg (Int.le_of_lt (pow_pos n))]
theorem sh_code (v s : Int) (h0 : 0 < s) (h1 : s ≤ 62) : v / 2 ^ s.toNat + (v / 2 ^ (s - 1).toNat) % 2 = sh v s := by
  rw [sh_pos v s h0, show min s 62 = s by omega]
  obtain ⟨n, hn⟩ : ∃ n : Nat, s = n + 1 := ⟨(s - 1).toNat, by omega⟩
  subst hn
  rw [show ((n : Int) + 1).toNat = n + 1 by omega, show ((n : Int) + 1 - 1).toNat = n by omega, div_split, half_up]
theorem sh_code62 (v s : Int) (h1 : 62 < s) : v / 2 ^ 62 + (v / 2 ^ 61) % 2 = sh v s := by
  have h := sh_code v 62 (by omega) (by omega)
  have e : sh v s = sh v 62 := by rw [sh_pos v s (by omega), sh_pos v 62 (by omega), show min s 62 = min 62 62 by omega]
  rw [e, ← h]
  rfl
/-- one division by a power keeps the bounds -/
theorem div_bd (v : Int) (n : Nat) (h0 : -9223372036854775808 ≤ v) (h1 : v ≤ 9223372036854775807) : -9223372036854775808 ≤ v / 2 ^ n ∧ v / 2 ^ n ≤ 9223372036854775807 := by
  have hp := pow_pos n
  have h1' : (1 : Int) ≤ 2 ^ n := by omega
  constructor
  · rw [Int.le_ediv_iff_mul_le hp]
    have : (-9223372036854775808 : Int) * 2 ^ n ≤ -9223372036854775808 * 1 := Int.mul_le_mul_of_nonpos_left (by decide) h1'
    omega
  · apply Int.le_of_lt_add_one
    rw [Int.ediv_lt_iff_lt_mul hp]
    have : (9223372036854775808 : Int) * 1 ≤ 9223372036854775808 * 2 ^ n := Int.mul_le_mul_of_nonneg_left h1' (by decide)
    omega
theorem sh_mono (a b s : Int) (h : a ≤ b) : sh a s ≤ sh b s := by
  unfold sh
  split
  · exact h
  · have := Int.ediv_le_ediv (pow_pos (min s 62 - 1).toNat) h
    omega
theorem sh_bd (v s : Int) (h0 : -9223372036854775808 ≤ v) (h1 : v ≤ 9223372036854775807) : -9223372036854775808 ≤ sh v s ∧ sh v s ≤ 9223372036854775807 := by
  unfold sh
  split
  · exact ⟨h0, h1⟩
  · have := div_bd v (min s 62 - 1).toNat h0 h1
    omega
/-- P1.4: the whole number below a over b. -/
def dv (a b : Int) : Int := if b ≤ 0 then 0 else a / b
theorem dv_le (a b : Int) (h : b ≤ 0) : dv a b = 0 := by unfold dv; rw [if_pos h]
theorem dv_gt (a b : Int) (h : 0 < b) : dv a b = a / b := by unfold dv; rw [if_neg (by omega)]
theorem quo_bd (a b : Int) (hb : 0 < b) (h0 : -9223372036854775808 ≤ a) (h1 : a ≤ 9223372036854775807) : -9223372036854775808 ≤ a / b ∧ a / b ≤ 9223372036854775807 := by
  constructor
  · rw [Int.le_ediv_iff_mul_le hb]
    have : (-9223372036854775808 : Int) * b ≤ -9223372036854775808 * 1 := Int.mul_le_mul_of_nonpos_left (by decide) hb
    omega
  · apply Int.le_of_lt_add_one
    rw [Int.ediv_lt_iff_lt_mul hb]
    have : (9223372036854775808 : Int) * 1 ≤ 9223372036854775808 * b := Int.mul_le_mul_of_nonneg_left hb (by decide)
    omega
/-- Go's division goes towards 0: how the whole number below comes out of it -/
theorem tdiv_neg_exact (a b : Int) (ha : a < 0) (hb : 0 < b) (hm : ¬ a.tmod b < 0) : a.tdiv b = a / b := by
  have h1 := Int.tdiv_eq_ediv (a := a) (b := b)
  have h2 := Int.tmod_eq_emod (a := a) (b := b)
  have hs : b.sign = 1 := Int.sign_eq_one_of_pos hb
  have hn : (b.natAbs : Int) = b := by omega
  by_cases hd : b ∣ a
  · rw [h1, if_pos (Or.inr hd)]; omega
  · rw [if_neg (by omega)] at h2
    have := Int.emod_lt_of_pos a hb
    omega
theorem tdiv_neg_rest (a b : Int) (ha : a < 0) (hb : 0 < b) (hm : a.tmod b < 0) : a.tdiv b - 1 = a / b := by
  have h1 := Int.tdiv_eq_ediv (a := a) (b := b)
  have h2 := Int.tmod_eq_emod (a := a) (b := b)
  have hs : b.sign = 1 := Int.sign_eq_one_of_pos hb
  by_cases hd : b ∣ a
  · rw [if_pos (Or.inr hd)] at h2
    have := Int.emod_nonneg a (show b ≠ 0 by omega)
    omega
  · rw [h1, if_neg (by omega), hs]; omega
theorem tdiv_low (x b : Int) (h : x < 0) : x.tdiv b = -((-x) / b) := by
  have e : x.tdiv b = (-(-x)).tdiv b := by rw [Int.neg_neg]
  rw [e, Int.neg_tdiv, Int.tdiv_eq_ediv_of_nonneg (by omega)]
theorem tmod_low (x b : Int) (h : x < 0) : x.tmod b = -((-x) % b) := by
  have e : x.tmod b = (-(-x)).tmod b := by rw [Int.neg_neg]
  rw [e, Int.neg_tmod, Int.tmod_eq_emod_of_nonneg (by omega)]
/-- P1.2 -/
def cl (v m : Int) : Int := if v > max m 0 then max m 0 else if v < -(max m 0) then -(max m 0) else v
/-- FixNearest's facts, at a power U = 2H -/
theorem near_sh (v : Int) (n : Nat) (hn : n < 62) : sh v ((n : Int) + 1) = (v + 2 ^ n) / (2 ^ n * 2) := by
  rw [sh_pos _ _ (by omega), show (min ((n : Int) + 1) 62 - 1).toNat = n by omega]
  rw [← Int.ediv_ediv_of_nonneg (Int.le_of_lt (pow_pos n))]
  have := Int.add_mul_ediv_right v 1 (show (2 : Int) ^ n ≠ 0 from Int.ne_of_gt (pow_pos n))
  rw [Int.one_mul] at this
  rw [this]
theorem near_lo (v : Int) (n : Nat) (hn : n < 62) : -(2 ^ n) ≤ v - sh v ((n : Int) + 1) * (2 ^ n * 2) ∧ v - sh v ((n : Int) + 1) * (2 ^ n * 2) < 2 ^ n := by
  rw [near_sh v n hn]
  have hp := pow_pos n
  have h1 := Int.mul_ediv_add_emod (v + 2 ^ n) (2 ^ n * 2)
  have h2 := Int.emod_nonneg (v + 2 ^ n) (show (2 : Int) ^ n * 2 ≠ 0 by omega)
  have h3 := Int.emod_lt_of_pos (v + 2 ^ n) (show (0 : Int) < 2 ^ n * 2 by omega)
  rw [Int.mul_comm] at h1
  omega
theorem near_back (t : Int) (n : Nat) (hn : n < 62) : sh (t * (2 ^ n * 2)) ((n : Int) + 1) = t := by
  rw [near_sh _ n hn]
  have hp := pow_pos n
  rw [Int.add_comm, Int.add_mul_ediv_right _ _ (show (2 : Int) ^ n * 2 ≠ 0 by omega), Int.ediv_eq_zero_of_lt (by omega) (by omega)]
  omega
theorem pow_le40 (n : Nat) (hn : n < 40) : (1 : Int) ≤ 2 ^ n ∧ (2 : Int) ^ n ≤ 549755813888 := by
  have hp := pow_pos n
  refine ⟨by omega, ?_⟩
  have h := Nat.pow_le_pow_right (show 0 < 2 by decide) (show n ≤ 39 by omega)
  have h2 : ((2 ^ n : Nat) : Int) ≤ ((2 ^ 39 : Nat) : Int) := Int.ofNat_le.mpr h
  rw [Int.natCast_pow] at h2
  exact h2
theorem near_quo (v U : Int) (hU : 0 < U) : -(v.natAbs : Int) ≤ v.tdiv U * U ∧ v.tdiv U * U ≤ v.natAbs ∧ -(v.natAbs : Int) ≤ v.tdiv U ∧ v.tdiv U ≤ v.natAbs := by
  have h1 := Int.mul_tdiv_add_tmod v U
  rw [Int.mul_comm] at h1
  by_cases h : 0 ≤ v
  · have h2 := Int.tmod_eq_emod_of_nonneg (b := U) h
    have h3 := Int.emod_nonneg v (show U ≠ 0 by omega)
    have h4 := Int.tdiv_eq_ediv_of_nonneg (b := U) h
    have h5 := Int.ediv_nonneg h (Int.le_of_lt hU)
    have h6 := Int.ediv_le_self U h
    have h7 := Int.mul_nonneg h5 (Int.le_of_lt hU)
    rw [h4, h2] at h1
    rw [h4]
    omega
  · have h2 := tmod_low v U (by omega)
    have h3 := Int.emod_nonneg (-v) (show U ≠ 0 by omega)
    have h4 := tdiv_low v U (by omega)
    have h5 := Int.ediv_nonneg (a := -v) (by omega) (Int.le_of_lt hU)
    have h6 := Int.ediv_le_self (a := -v) U (by omega)
    have h7 := Int.mul_nonneg h5 (Int.le_of_lt hU)
    rw [h4, h2, Int.neg_mul] at h1
    rw [h4, Int.neg_mul]
    omega
/-- P1.3: what the bits of a root are found by: behind k rounds -/
def Bits (v : Int) (k R : Nat) : Prop := ∃ c : Nat, R = 2 ^ (32 - k) * c ∧ R + 2 ^ (32 - k) ≤ 4294967296 ∧ (R : Int) * R ≤ v ∧ v < ((R + 2 ^ (32 - k) : Nat) : Int) * ((R + 2 ^ (32 - k) : Nat) : Int)
theorem Bits.start (v : Int) (h0 : 0 < v) (h1 : v ≤ 9223372036854775807) : Bits v 0 0 := ⟨0, by omega, by omega, by omega, by simp; omega⟩
theorem pow_step (k : Nat) (h : k < 32) : 2 ^ (32 - k) = 2 * 2 ^ (32 - (k + 1)) ∧ 32 - (k + 1) = 31 - k := by
  have e : 32 - k = (32 - (k + 1)) + 1 := by omega
  rw [e, Nat.pow_succ]
  exact ⟨by omega, by omega⟩
theorem Bits.lt {v : Int} {k R : Nat} (hk : k < 32) (h : Bits v k R) : R + 2 ^ (31 - k) < 4294967296 := by
  obtain ⟨c, _, h1, _, _⟩ := h
  obtain ⟨e1, e2⟩ := pow_step k hk
  rw [e1, e2] at h1
  have := Nat.two_pow_pos (31 - k)
  omega
theorem Bits.or {v : Int} {k R : Nat} (hk : k < 32) (h : Bits v k R) : R ||| 2 ^ (31 - k) = R + 2 ^ (31 - k) := by
  obtain ⟨c, h0, _, _, _⟩ := h
  obtain ⟨e1, e2⟩ := pow_step k hk
  have hb := Nat.two_pow_pos (31 - k)
  rw [h0, Nat.two_pow_add_eq_or_of_lt (by rw [e1, e2]; omega)]
theorem Bits.yes {v : Int} {k R : Nat} (hk : k < 32) (h : Bits v k R) (ht : ((R + 2 ^ (31 - k) : Nat) : Int) * ((R + 2 ^ (31 - k) : Nat) : Int) ≤ v) : Bits v (k + 1) (R + 2 ^ (31 - k)) := by
  obtain ⟨c, h0, h1, h2, h3⟩ := h
  obtain ⟨e1, e2⟩ := pow_step k hk
  refine ⟨2 * c + 1, ?_, ?_, ht, ?_⟩
  · rw [e2, h0, e1, e2, Nat.mul_add, Nat.mul_one, ← Nat.mul_assoc, Nat.mul_comm 2 (2 ^ (31 - k))]
  · rw [e1, e2] at h1; rw [e2]; omega
  · rw [e1, e2] at h3; rw [e2, show R + 2 ^ (31 - k) + 2 ^ (31 - k) = R + 2 * 2 ^ (31 - k) by omega]; exact h3
theorem Bits.no {v : Int} {k R : Nat} (hk : k < 32) (h : Bits v k R) (ht : v < ((R + 2 ^ (31 - k) : Nat) : Int) * ((R + 2 ^ (31 - k) : Nat) : Int)) : Bits v (k + 1) R := by
  obtain ⟨c, h0, h1, h2, h3⟩ := h
  obtain ⟨e1, e2⟩ := pow_step k hk
  refine ⟨2 * c, ?_, ?_, h2, ?_⟩
  · rw [e2, h0, e1, e2, ← Nat.mul_assoc, Nat.mul_comm 2 (2 ^ (31 - k))]
  · rw [e1, e2] at h1; rw [e2]; omega
  · rw [e2]; exact ht
theorem Bits.done {v : Int} {R : Nat} (h : Bits v 32 R) : (R : Int) * R ≤ v ∧ v < ((R : Int) + 1) * ((R : Int) + 1) := by
  obtain ⟨c, h0, h1, h2, h3⟩ := h
  exact ⟨h2, h3⟩
theorem sq_lt (N : Nat) (h : N < 4294967296) : 0 ≤ (N : Int) * N ∧ (N : Int) * N ≤ 18446744073709551615 := by
  have h1 : N * N ≤ 4294967295 * 4294967295 := Nat.mul_le_mul (by omega) (by omega)
  have h2 : ((N * N : Nat) : Int) ≤ ((4294967295 * 4294967295 : Nat) : Int) := Int.ofNat_le.mpr h1
  have h3 : (0 : Int) ≤ ((N * N : Nat) : Int) := Int.natCast_nonneg _
  rw [Int.natCast_mul] at h2 h3
  exact ⟨h3, by omega⟩
end Go.Proofs.Ytilghknalbhacaa.Fix
namespace Go.Proofs.Ytilghknalbhacaa
open Go.RowKit
/-! Lists that are read, and lists that a call makes: small facts that all walks want. -/
theorem ret_int {k : IntKind} {a b : Int} (h : a = b) : Ending.returned (.int k a) = .returned (.int k b) := by rw [h]
theorem ret_bool {a b : Bool} (h : a = b) : Ending.returned (.bool a) = .returned (.bool b) := by rw [h]
theorem hidd {p : Prop} (h : p) : Hid p := h
theorem lt_of_cell {w : World} {b o : Nat} {v : Value} (h : w.cell? ⟨b, o, none⟩ = some v) : b < w.heap.size := World.block_lt_of_cell? w ⟨b, o, none⟩ h
/-- What was there is as it was. -/
theorem fresh_trans {a b c : World} (h : Below a.heap.size a b) (k : Below b.heap.size b c) : Below a.heap.size a c := h.trans (k.mono h.size)
theorem fresh_cell {a b : World} (h : Below a.heap.size a b) {k o : Nat} {v : Value} (e : a.cell? ⟨k, o, none⟩ = some v) : b.cell? ⟨k, o, none⟩ = some v := by
  rw [h.cell (p := ⟨k, o, none⟩) (lt_of_cell e), e]
theorem fresh_drewN (w : World) (n : Nat) : Below w.heap.size w (w.drewN n) := below_drewN (Below.refl _ _) n
theorem fresh_alloc (w : World) (o : Obj) : Below w.heap.size w (w.alloc o) := (Below.refl _ _).alloc (Nat.le_refl _) o
/-- A slice that is read: n elements of sz cells each. -/
structure RdA (w : World) (ao : Option Addr) (sz n cap : Nat) (cs : Nat → Value) : Prop where
  le : n ≤ cap
  top : cap ≤ maxLen
  at_ : 0 < n → ∃ b off, ao = some ⟨b, off, none⟩ ∧ ∀ j, j < n * sz → w.cell? ⟨b, off + j, none⟩ = some (cs j)
def Rd (w : World) (v : Value) (sz n : Nat) (cs : Nat → Value) : Prop := ∃ ao cap, v = .slice ao n cap ∧ RdA w ao sz n cap cs
theorem RdA.fresh {w w' : World} {ao : Option Addr} {sz n cap : Nat} {cs : Nat → Value} (h : RdA w ao sz n cap cs) (f : Below w.heap.size w w') : RdA w' ao sz n cap cs := by
  refine ⟨h.le, h.top, fun hn => ?_⟩
  obtain ⟨b, off, rfl, hc⟩ := h.at_ hn
  exact ⟨b, off, rfl, fun j hj => fresh_cell f (hc j hj)⟩
theorem Rd.fresh {w w' : World} {v : Value} {sz n : Nat} {cs : Nat → Value} (h : Rd w v sz n cs) (f : Below w.heap.size w w') : Rd w' v sz n cs := by
  obtain ⟨ao, cap, rfl, h⟩ := h
  exact ⟨ao, cap, rfl, h.fresh f⟩
theorem RdA.congr {w : World} {ao : Option Addr} {sz n cap : Nat} {cs cs' : Nat → Value} (h : RdA w ao sz n cap cs) (e : ∀ j, j < n * sz → cs j = cs' j) : RdA w ao sz n cap cs' := by
  refine ⟨h.le, h.top, fun hn => ?_⟩
  obtain ⟨b, off, rfl, hc⟩ := h.at_ hn
  exact ⟨b, off, rfl, fun j hj => by rw [← e j hj]; exact hc j hj⟩
theorem Rd.congr {w : World} {v : Value} {sz n : Nat} {cs cs' : Nat → Value} (h : Rd w v sz n cs) (e : ∀ j, j < n * sz → cs j = cs' j) : Rd w v sz n cs' := by
  obtain ⟨ao, cap, rfl, h⟩ := h
  exact ⟨ao, cap, rfl, h.congr e⟩
/-- What one element of one cell is. -/
theorem RdA.one {w : World} {ao : Option Addr} {n cap : Nat} {cs : Nat → Value} (h : RdA w ao 1 n cap cs) (hn : 0 < n) : ∃ b off, ao = some ⟨b, off, none⟩ ∧ ∀ j, j < n → w.cell? ⟨b, off + j, none⟩ = some (cs j) := by
  obtain ⟨b, off, rfl, hc⟩ := h.at_ hn
  exact ⟨b, off, rfl, fun j hj => hc j (by omega)⟩
/-- A list that the call makes. -/
def Own (w : World) (base : Nat) (e : TypeId) (sz : Nat) (v : Value) (n : Nat) (cs : Nat → Value) : Prop := w.ownsRow base e sz v n ((List.range (n * sz)).map cs)
theorem own_nil (w : World) (base : Nat) (e : TypeId) (sz : Nat) (cs : Nat → Value) : Own w base e sz (.slice none 0 0) 0 cs := by
  unfold Own; simpa using World.ownsRow_nil w base e sz
theorem Own.congr {w : World} {base : Nat} {e : TypeId} {sz : Nat} {v : Value} {n : Nat} {cs cs' : Nat → Value} (h : Own w base e sz v n cs) (k : ∀ j, j < n * sz → cs j = cs' j) : Own w base e sz v n cs' := by
  unfold Own at *
  rwa [List.map_congr_left (fun j hj => (k j (List.mem_range.1 hj)).symm)]
theorem Own.rd {w : World} {base : Nat} {e : TypeId} {sz : Nat} {v : Value} {n : Nat} {cs : Nat → Value} (h : Own w base e sz v n cs) : Rd w v sz n cs := by
  rcases h.2 with ⟨rfl, rfl⟩ | ⟨g, cap, cur, rfl, hb, hg, hnc, hcm, hcs, htake⟩
  · exact ⟨none, 0, rfl, Nat.le_refl _, Nat.zero_le _, fun h => absurd h (by omega)⟩
  · refine ⟨_, cap, rfl, hnc, hcm, fun _ => ⟨g, 0, rfl, fun j hj => ?_⟩⟩
    have := World.ownsRow.cells h (g := g) rfl j (cs j) (by simp [hj])
    have hadd : (⟨g, 0, none⟩ : Addr).add j = ⟨g, j, none⟩ := by unfold Addr.add; split <;> simp_all
    rw [hadd] at this
    simpa using this
theorem Own.lt {w : World} {base : Nat} {e : TypeId} {sz : Nat} {v : Value} {n : Nat} {cs : Nat → Value} (h : Own w base e sz v n cs) : ∀ k, v.ownBlock = some k → base ≤ k ∧ k < w.heap.size := World.ownsRow.lt h
theorem Own.kept {w w' : World} {base : Nat} {e : TypeId} {sz : Nat} {v : Value} {n : Nat} {cs : Nat → Value} (h : Own w base e sz v n cs) (f : Below w.heap.size w w') : Own w' base e sz v n cs := by
  refine ⟨h.1, ?_⟩
  rcases h.2 with hn | ⟨g, cap, cur, rfl, hb, hgg, rest⟩
  · exact .inl hn
  · refine .inr ⟨g, cap, cur, rfl, hb, ?_, rest⟩
    rw [f.block g (Array.getElem?_eq_some_iff.1 hgg).1]; exact hgg
theorem Own.weaken {w : World} {base base' : Nat} {e : TypeId} {sz : Nat} {v : Value} {n : Nat} {cs : Nat → Value} (h : Own w base e sz v n cs) (k : base' ≤ base) : Own w base' e sz v n cs := by
  refine ⟨h.1, ?_⟩
  rcases h.2 with hn | ⟨g, cap, cur, rfl, hb, rest⟩
  · exact .inl hn
  · exact .inr ⟨g, cap, cur, rfl, Nat.le_trans k hb, rest⟩
/-- What an append leaves. -/
structure App (w w' : World) (v v' : Value) : Prop where
  grown : w.grownBy w' v.ownBlock
  blk : ∀ k, v'.ownBlock = some k → v.ownBlock = some k ∨ w.heap.size ≤ k
/-- Two lists that share no block. -/
def Off (v u : Value) : Prop := ∀ k, v.ownBlock = some k → u.ownBlock ≠ some k
theorem Off.symm {v u : Value} (h : Off v u) : Off u v := fun k hu hv => h k hv hu
theorem off_nil (u : Value) : Off (.slice none 0 0) u := fun _ h => by simp [Value.ownBlock] at h
theorem App.below {w w' a : World} {v v' : Value} {base B : Nat} {e : TypeId} {sz n : Nat} {cs : Nat → Value} (h : App w w' v v') (hb : Below B a w) (ho : Own w base e sz v n cs) (hB : B ≤ base) (hs : B ≤ w.heap.size) : Below B a w' :=
  hb.grown h.grown hs (fun k hk => Nat.le_trans hB (ho.lt k hk).1)
theorem App.own {w w' : World} {v v' u : Value} {base : Nat} {e : TypeId} {sz n : Nat} {cs : Nat → Value} (h : App w w' v v') (ho : Own w base e sz u n cs) (ha : Off v u) : Own w' base e sz u n cs :=
  World.ownsRow.kept ho h.grown (by
    cases hu : u.ownBlock with
    | none => exact .inl rfl
    | some k => exact .inr (fun e => ha k e.symm hu))
theorem App.off {w w' : World} {v v' u : Value} {base : Nat} {e : TypeId} {sz n : Nat} {cs : Nat → Value} (h : App w w' v v') (ho : Own w base e sz u n cs) (ha : Off v u) : Off v' u := fun k hk hu => by
  rcases h.blk k hk with e | e
  · exact ha k e hu
  · have := (ho.lt k hu).2; omega
theorem news_len (n m sz : Nat) (cs : Nat → Value) : (List.range (n * sz)).map cs ++ (List.range (m * sz)).map (fun j => cs (n * sz + j)) = (List.range ((n + m) * sz)).map cs := by
  rw [Nat.add_mul, List.range_add, List.map_append, List.map_map]; rfl
theorem add_lit0 (g j : Nat) : (⟨g, 0, none⟩ : Addr).add j = ⟨g, j, none⟩ := by unfold Addr.add; split <;> simp_all
theorem wpList_app {P : Program} (w : World) {ops : Array Oper} {rest : List Oper} {o : Oper} {a : Act} {Q : Exit → Act → World → Prop}
    (hg : o.guard = none) (s x : Operand) (t : TypeId) (hop : o.op = Op.call { callee := Callee.builtin Builtin.append, args := #[s, x], argTypes := #[t, t] })
    (base : Nat) (e : TypeId) (z : Value) (sz bytes : Nat) (h1 : P.underlying t = some (.slice e)) (hinfo : (P.info? e).map (fun i => (i.zero, i.size, i.bytes)) = some (some z, sz, bytes)) (h6 : z.cells.size = sz) (h7 : 0 < sz)
    (v : Value) (n : Nat) (cs : Nat → Value) (hs : a.eval s = v) (hown : Own w base e sz v n cs)
    (g m c : Nat) (hx : a.eval x = .slice (some ⟨g, 0, none⟩) m c) (hc : ∀ j, j < m * sz → w.cell? ⟨g, j, none⟩ = some (cs (n * sz + j))) (h1c : ∀ j, j < m * sz → (cs (n * sz + j)).oneCell' = true)
    (hm : 0 < m) (b1 : n + m ≤ maxLen) (b2 : (n + m) * bytes ≤ 140737488355328) (hb : base ≤ w.heap.size)
    (hK : ∀ v' w', Own w' base e sz v' (n + m) cs → App w w' v v' → wpList P ops Q rest (a.put o.dst v') w') : wpList P ops Q (o :: rest) a w := by
  obtain ⟨i, hi, hz0, hz1, hz2⟩ := info_parts hinfo
  have hn : ((List.range (m * sz)).map (fun j => cs (n * sz + j))).length = m * sz := by simp
  have hc' : ∀ j u, ((List.range (m * sz)).map (fun j => cs (n * sz + j)))[j]? = some u → w.cell? ((⟨g, 0, none⟩ : Addr).add j) = some u := by
    intro j u hu
    rw [add_lit0]
    by_cases hj : j < m * sz
    · simp [hj] at hu; rw [hc j hj, hu]
    · simp [hj] at hu
  have h1c' : ∀ u ∈ (List.range (m * sz)).map (fun j => cs (n * sz + j)), u.oneCell' = true := by
    intro u hu
    obtain ⟨j, hj, rfl⟩ := List.mem_map.1 hu
    exact h1c j (List.mem_range.1 hj)
  rcases hown.2 with ⟨rfl, rfl⟩ | ⟨k, cap, cur, rfl, hbg, hgg, hnc, hcm, hcs, htake⟩
  · refine wpList_append_grows w hg s x t hop e i z sz bytes h1 hi hz0 hz1 hz2 h6 h7 none 0 0 [] hs (fun _ => ⟨rfl, rfl⟩) (by simp) (fun b hb => by cases hb) ⟨g, 0, none⟩ m c _ hx hn hc' h1c' (by omega) b1 b2 ?_
    intro v' w' ho hgr
    refine hK v' w' ?_ ⟨hgr, fun k hk => .inr (World.ownsRow.lt ho k hk).1⟩
    have hx' := Own.weaken (cs := cs) (base' := base) (n := 0 + m) (by unfold Own; rw [← news_len 0 m sz cs]; simpa using ho) hb
    exact hx'
  · by_cases hroom : n + m ≤ cap
    · refine wpList_plain hg fun K hK' => ?_
      obtain ⟨w', hr, ho, hgr⟩ := run_append_fits (P := P) w base t o.type e i sz h1 hi hz1 k n cap _ hown ⟨g, 0, none⟩ m c _ hn hc' h1c' hroom
      unfold Oper.wp execOp
      simp only [hop, resolve, invoke, builtin, Sem.run_bind, Sem.run_pure, Result.andThen_ok, List.map_toArray, List.map_cons, List.map_nil, hs, hx, hr]
      exact hK' _ _ (hK _ w' (by unfold Own; rw [← news_len n m sz cs]; exact ho) ⟨hgr, fun k hk => .inl hk⟩)
    · refine wpList_append_grows w hg s x t hop e i z sz bytes h1 hi hz0 hz1 hz2 h6 h7 (some ⟨k, 0, none⟩) n cap ((List.range (n * sz)).map cs) hs (fun h => by cases h) hown.1 (fun b hb => by cases hb; exact World.ownsRow.cells hown (g := k) rfl) ⟨g, 0, none⟩ m c _ hx hn hc' h1c' (by omega) b1 b2 ?_
      intro v' w' ho hgr
      refine hK v' w' ?_ ⟨⟨hgr.os, hgr.tape, hgr.output, hgr.size, fun k hk _ => hgr.block k hk (by simp)⟩, fun k hk => .inr (World.ownsRow.lt ho k hk).1⟩
      exact Own.weaken (cs := cs) (base' := base) (n := n + m) (by unfold Own; rw [← news_len n m sz cs]; exact ho) hb
/-- The new block that the appended element lies in. -/
theorem new_cell (w : World) (x : Value) (t : TypeId) : (w.alloc (.cells #[x] t)).cell? ⟨w.heap.size, 0, none⟩ = some x := by simp
theorem new_int (w : World) {k : IntKind} {x y : Int} (t : TypeId) (h : y = x) : (w.alloc (.cells #[.int k x] t)).cell? ⟨w.heap.size, 0, none⟩ = some (.int k y) := by simp [h]
/-- One element of one cell more. -/
theorem wpList_app1 {P : Program} (w : World) {ops : Array Oper} {rest : List Oper} {o : Oper} {a : Act} {Q : Exit → Act → World → Prop}
    (hg : o.guard = none) (s x : Operand) (t : TypeId) (hop : o.op = Op.call { callee := Callee.builtin Builtin.append, args := #[s, x], argTypes := #[t, t] })
    (base : Nat) (e : TypeId) (z : Value) (bytes : Nat) (h1 : P.underlying t = some (.slice e)) (hinfo : (P.info? e).map (fun i => (i.zero, i.size, i.bytes)) = some (some z, 1, bytes)) (h6 : z.cells.size = 1)
    (v : Value) (n : Nat) (cs : Nat → Value) (hs : a.eval s = v) (hown : Own w base e 1 v n cs)
    (g c : Nat) (hx : a.eval x = .slice (some ⟨g, 0, none⟩) 1 c) (hc : w.cell? ⟨g, 0, none⟩ = some (cs n)) (h1c : (cs n).oneCell' = true)
    (b1 : n < 9223372036854775807) (b2 : (n + 1) * bytes ≤ 140737488355328) (hb : base ≤ w.heap.size)
    (hK : ∀ v' w', Own w' base e 1 v' (n + 1) cs → App w w' v v' → wpList P ops Q rest (a.put o.dst v') w') : wpList P ops Q (o :: rest) a w :=
  wpList_app w hg s x t hop base e z 1 bytes h1 hinfo h6 (by decide) v n cs hs hown g 1 c hx
    (fun j hj => by obtain rfl : j = 0 := by omega
                    simpa using hc) (fun j hj => by obtain rfl : j = 0 := by omega
                                                    simpa using h1c) (by decide) (by unfold maxLen; omega) b2 hb hK
/-- A row that 'make' laid, read as a list. -/
theorem rowIs_rd {w : World} {b n : Nat} {t : TypeId} {f : Nat → Value} (h : w.rowIs b t n f) (hn : n ≤ maxLen) : RdA w (some ⟨b, 0, none⟩) 1 n n f :=
  ⟨Nat.le_refl _, hn, fun _ => ⟨b, 0, rfl, fun j hj => by simpa using h.cell (i := j) (by omega)⟩⟩
end Go.Proofs.Ytilghknalbhacaa
