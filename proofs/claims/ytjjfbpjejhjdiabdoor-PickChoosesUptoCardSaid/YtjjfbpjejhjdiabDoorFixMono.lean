import Derived.Test.YtjjfbpjejhjdiabDoorFixExp
namespace Go.Proofs.YtjjfbpjejhjdiabDoor.Fix
/-! Exp, Sigmoid and Silu rise, and their bounds: no program in sight. -/
/-- a test at 2 to the d numbers from lo on -/
def allB (f : Nat → Bool) : Nat → Nat → Bool
  | 0, lo => f lo
  | d + 1, lo => allB f d lo && allB f d (lo + 2 ^ d)
theorem allB_at (f : Nat → Bool) : ∀ (d lo : Nat), allB f d lo = true → ∀ i, lo ≤ i → i < lo + 2 ^ d → f i = true := by
  intro d
  induction d with
  | zero =>
    intro lo h i h0 h1
    have : i = lo := by have : (2 : Nat) ^ 0 = 1 := rfl; omega
    rw [this]; exact h
  | succ d ih =>
    intro lo h i h0 h1
    have hh : allB f d lo = true ∧ allB f d (lo + 2 ^ d) = true := by
      have : (allB f d lo && allB f d (lo + 2 ^ d)) = true := h
      simpa using this
    rw [Nat.pow_succ] at h1
    by_cases hc : i < lo + 2 ^ d
    · exact ih lo hh.1 i h0 hc
    · exact ih (lo + 2 ^ d) hh.2 i (by omega) (by omega)
/-- the polynomial without a sign -/
def a3 (r : Nat) : Nat := 175978408 - (35472643 * r + 32768) / 65536
def a2 (r : Nat) : Nat := 536691957 - (a3 r * r + 32767) / 65536
def a1 (r : Nat) : Nat := 1073764153 - (a2 r * r + 32768) / 65536
def a0 (r : Nat) : Nat := 1073741824 - (a1 r * r + 32767) / 65536
def e0 (r : Nat) : Nat := (a0 r + 8192) / 16384
theorem sh16' (x : Int) : sh x 16 = (x + 32768) / 65536 := by rw [sh16]; omega
theorem sh14' (x : Int) : sh x 14 = (x + 8192) / 16384 := by rw [sh14]; omega
theorem le_mul (a b r : Nat) (h : a ≤ b) (hr : r ≤ 45426) : a * r ≤ b * 45426 := Nat.mul_le_mul h hr
theorem hor1 (r : Int) : hor r 1 = 35472643 := by
  show (35472643 : Int) + sh (0 * r) 16 = 35472643
  rw [Int.zero_mul]; decide
theorem hor2 (r : Nat) (hr : r ≤ 45426) : hor r 2 = -(a3 r : Int) := by
  show (-175978408 : Int) + sh (hor r 1 * r) 16 = _
  rw [hor1, sh16']
  unfold a3
  omega
theorem hor3 (r : Nat) (hr : r ≤ 45426) : hor r 3 = (a2 r : Int) := by
  show (536691957 : Int) + sh (hor r 2 * r) 16 = _
  have hm := le_mul (a3 r) 175978408 r (by unfold a3; omega) hr
  rw [hor2 r hr, sh16', Int.neg_mul, ← Int.natCast_mul]
  unfold a2
  generalize a3 r * r = X at *
  omega
theorem hor4 (r : Nat) (hr : r ≤ 45426) : hor r 4 = -(a1 r : Int) := by
  show (-1073764153 : Int) + sh (hor r 3 * r) 16 = _
  have hm := le_mul (a2 r) 536691957 r (by unfold a2; omega) hr
  rw [hor3 r hr, sh16', ← Int.natCast_mul]
  unfold a1
  generalize a2 r * r = X at *
  omega
theorem hor5 (r : Nat) (hr : r ≤ 45426) : hor r 5 = (a0 r : Int) := by
  show (1073741824 : Int) + sh (hor r 4 * r) 16 = _
  have hm := le_mul (a1 r) 1073764153 r (by unfold a1; omega) hr
  rw [hor4 r hr, sh16', Int.neg_mul, ← Int.natCast_mul]
  unfold a0
  generalize a1 r * r = X at *
  omega
theorem horE (r : Nat) (hr : r ≤ 45426) : sh (hor r 5) 14 = (e0 r : Int) := by
  rw [hor5 r hr, sh14']
  unfold e0
  omega
def falls (r : Nat) : Bool := Nat.ble 45425 r || Nat.ble (e0 (r + 1)) (e0 r)
set_option maxRecDepth 100000 in
theorem falls_all : allB falls 16 0 = true := by decide +kernel
theorem e0_step (r : Nat) (h : r < 45425) : e0 (r + 1) ≤ e0 r := by
  have h1 := allB_at falls 16 0 falls_all r (by omega) (by have : (2 : Nat) ^ 16 = 65536 := rfl; omega)
  have h2 : Nat.ble 45425 r = true ∨ Nat.ble (e0 (r + 1)) (e0 r) = true := by
    have : (Nat.ble 45425 r || Nat.ble (e0 (r + 1)) (e0 r)) = true := h1
    simpa only [Bool.or_eq_true] using this
  rcases h2 with h2 | h2
  · have := Nat.le_of_ble_eq_true h2; omega
  · exact Nat.le_of_ble_eq_true h2
theorem e0_anti (a b : Nat) (h : a ≤ b) (hb : b ≤ 45425) : e0 b ≤ e0 a := by
  induction b with
  | zero => have : a = 0 := by omega
            rw [this]; exact Nat.le_refl _
  | succ b ih =>
    by_cases hc : a = b + 1
    · rw [hc]; exact Nat.le_refl _
    · exact Nat.le_trans (e0_step b (by omega)) (ih (by omega) (by omega))
theorem e0_first : e0 0 = 65536 := by decide +kernel
theorem e0_last : e0 45425 = 32771 := by decide +kernel
theorem e0_bd (r : Nat) (h : r ≤ 45425) : 32771 ≤ e0 r ∧ e0 r ≤ 65536 := by
  have h1 := e0_anti 0 r (by omega) h
  have h2 := e0_anti r 45425 h (by omega)
  rw [e0_first] at h1
  rw [e0_last] at h2
  exact ⟨h2, h1⟩
theorem exnE (n : Nat) : exn n = sh (e0 (n % 45426)) ((n / 45426 : Nat) : Int) := by
  unfold exn
  have e : (n : Int) % 45426 = ((n % 45426 : Nat) : Int) := by omega
  have e2 : (n : Int) / 45426 = ((n / 45426 : Nat) : Int) := by omega
  rw [e, e2, horE _ (by omega)]
def cross : Bool := (List.range 24).all fun a => (List.range 24).all fun b => decide (b ≤ a) || decide (sh 65536 (b : Int) ≤ sh 32771 (a : Int))
theorem cross_all : cross = true := by decide +kernel
theorem cross_at (a b : Nat) (h : a < b) (hb : b ≤ 23) : sh 65536 (b : Int) ≤ sh 32771 (a : Int) := by
  have h1 := List.all_eq_true.1 cross_all a (List.mem_range.2 (by omega))
  have h2 := List.all_eq_true.1 h1 b (List.mem_range.2 (by omega))
  simp only [Bool.or_eq_true, decide_eq_true_eq] at h2
  rcases h2 with h2 | h2
  · omega
  · exact h2
theorem exn_anti (m n : Nat) (h : m ≤ n) (hn : n ≤ 1048576) : exn n ≤ exn m := by
  rw [exnE, exnE]
  have bm := e0_bd (m % 45426) (by omega)
  have bn := e0_bd (n % 45426) (by omega)
  by_cases hq : m / 45426 = n / 45426
  · rw [hq]
    exact sh_mono _ _ _ (Int.ofNat_le.mpr (e0_anti (m % 45426) (n % 45426) (by omega) (by omega)))
  · have c := cross_at (m / 45426) (n / 45426) (by have := Nat.div_le_div_right (c := 45426) h; omega) (by omega)
    have u := sh_mono (e0 (n % 45426)) 65536 ((n / 45426 : Nat) : Int) (by omega)
    have l := sh_mono 32771 (e0 (m % 45426)) ((m / 45426 : Nat) : Int) (by omega)
    omega
theorem exn0 : exn 0 = 65536 := by decide +kernel
theorem sh_nonneg (x s : Int) (h : 0 ≤ x) : 0 ≤ sh x s := by
  have := sh_mono 0 x s h
  have e : sh 0 s = 0 := by
    unfold sh
    split
    · rfl
    · rw [Int.zero_ediv]; rfl
  omega
theorem exn_rng (n : Nat) (hn : n ≤ 1048576) : 0 ≤ exn n ∧ exn n ≤ 65536 := by
  constructor
  · rw [exnE]; exact sh_nonneg _ _ (by omega)
  · have h := exn_anti 0 n (by omega) hn
    have e : exn ((0 : Nat) : Int) = 65536 := exn0
    omega
theorem ex_cases (z : Int) : (z < -1048576 ∧ ex z = 0) ∨ ∃ n : Nat, n ≤ 1048576 ∧ (n : Int) = max (-z) 0 ∧ ex z = exn n := by
  by_cases h : z < -1048576
  · exact Or.inl ⟨h, ex_low z h⟩
  · refine Or.inr ⟨(max (-z) 0).toNat, by omega, by omega, ?_⟩
    unfold ex
    rw [if_neg h, show ((max (-z) 0).toNat : Int) = max (-z) 0 by omega]
theorem ex_rng (z : Int) : 0 ≤ ex z ∧ ex z ≤ 65536 := by
  rcases ex_cases z with ⟨_, h⟩ | ⟨n, hn, _, h⟩
  · rw [h]; decide
  · rw [h]; exact exn_rng n hn
theorem ex_mono (a b : Int) (h : a ≤ b) : ex a ≤ ex b := by
  rcases ex_cases a with ⟨ha, ea⟩ | ⟨m, hm, em, ea⟩
  · rw [ea]; exact (ex_rng b).1
  · rcases ex_cases b with ⟨hb, eb⟩ | ⟨n, hn, en, eb⟩
    · omega
    · rw [ea, eb]; exact exn_anti n m (by omega) hm
theorem ex_zero : ex 0 = 65536 := by rw [ex_high 0 (by decide), exn0]
/-- the quotient of Sigmoid -/
def qu (e : Int) : Int := dv 4294967296 (65536 + e)
theorem qu_eq (e : Int) (h : 0 ≤ e) : qu e = 4294967296 / (65536 + e) := dv_gt _ _ (by omega)
theorem qu_anti (a b : Int) (h0 : 0 ≤ a) (h : a ≤ b) : qu b ≤ qu a := by
  rw [qu_eq a h0, qu_eq b (by omega), Int.le_ediv_iff_mul_le (by omega)]
  have h1 : 4294967296 / (65536 + b) * (65536 + b) ≤ 4294967296 := Int.ediv_mul_le _ (by omega)
  have h2 : 0 ≤ 4294967296 / (65536 + b) := Int.ediv_nonneg (by decide) (by omega)
  have h3 : 4294967296 / (65536 + b) * (65536 + a) ≤ 4294967296 / (65536 + b) * (65536 + b) := Int.mul_le_mul_of_nonneg_left (by omega) h2
  omega
theorem qu_rng (e : Int) (h0 : 0 ≤ e) (h1 : e ≤ 65536) : 32768 ≤ qu e ∧ qu e ≤ 65536 := by
  have a := qu_anti e 65536 h0 h1
  have b := qu_anti 0 e (by decide) h0
  have ea : qu 65536 = 32768 := by decide
  have eb : qu 0 = 65536 := by decide
  omega
theorem sg_up (z : Int) (h : 0 ≤ z) : sg z = qu (ex (-z)) := sg_pos z h
theorem sg_down (z : Int) (h : z < 0) : sg z = 65536 - qu (ex z) := sg_neg z h
theorem sg_rng (z : Int) : 0 ≤ sg z ∧ sg z ≤ 65536 := by
  by_cases h : 0 ≤ z
  · have hx := ex_rng (-z)
    have hq := qu_rng _ hx.1 hx.2
    rw [sg_up z h]; omega
  · have hx := ex_rng z
    have hq := qu_rng _ hx.1 hx.2
    rw [sg_down z (by omega)]; omega
theorem sg_mono (a b : Int) (h : a ≤ b) : sg a ≤ sg b := by
  have ra := ex_rng a
  have rb := ex_rng b
  have rna := ex_rng (-a)
  have rnb := ex_rng (-b)
  by_cases ha : 0 ≤ a
  · rw [sg_up a ha, sg_up b (by omega)]
    exact qu_anti _ _ rnb.1 (ex_mono _ _ (by omega))
  · rw [sg_down a (by omega)]
    have q1 := qu_rng _ ra.1 ra.2
    by_cases hb : 0 ≤ b
    · rw [sg_up b hb]
      have q2 := qu_rng _ rnb.1 rnb.2
      omega
    · rw [sg_down b (by omega)]
      have := qu_anti _ _ ra.1 (ex_mono a b h)
      omega
theorem sg_zero : sg 0 = 32768 := by
  rw [sg_up 0 (by decide), show -(0 : Int) = 0 from rfl, ex_zero]; decide
theorem sg_mirror (z : Int) : sg z + sg (-z) = 65536 := by
  by_cases h0 : z = 0
  · subst h0
    have := sg_zero
    rw [show -(0 : Int) = 0 from rfl]
    omega
  · by_cases h : 0 < z
    · rw [sg_up z (by omega), sg_down (-z) (by omega)]; omega
    · rw [sg_down z (by omega), sg_up (-z) (by omega), Int.neg_neg]; omega
theorem cl_mirror (v m : Int) : cl v m = -cl (-v) m := by unfold cl; omega
theorem sh_less (x w : Int) : sh (x - w * 65536) 16 = sh x 16 - w := by
  rw [sh16', sh16']; omega
/-- Silu out of the clamped number -/
def sw (w : Int) : Int := sh (w * sg (w * 256)) 16
theorem si_sw (v : Int) : si v = sw (cl v 16777216) := rfl
theorem sw_mirror (w : Int) : sw w - sw (-w) = w := by
  unfold sw
  have h := sg_mirror (w * 256)
  have e : -w * sg (-w * 256) = w * sg (w * 256) - w * 65536 := by
    rw [Int.neg_mul w 256]
    have h1 : sg (-(w * 256)) = 65536 - sg (w * 256) := by omega
    rw [h1, Int.neg_mul, Int.mul_sub]
    omega
  rw [e, sh_less]
  omega
theorem sw_pos (w : Int) (h : 0 ≤ w) : 0 ≤ sw w ∧ sw w ≤ w := by
  unfold sw
  have h1 := sg_rng (w * 256)
  have h2 := Int.mul_nonneg h h1.1
  have h3 : w * sg (w * 256) ≤ w * 65536 := Int.mul_le_mul_of_nonneg_left h1.2 h
  refine ⟨sh_nonneg _ _ h2, ?_⟩
  have h4 := sh_mono _ _ 16 h3
  have h5 := sh_less (w * 65536) w
  rw [Int.sub_self] at h5
  have h6 : sh 0 16 = 0 := by decide
  omega
/-- below -4096 nothing is left -/
theorem sw_far (w : Int) (h : w < -4096) : sw w = 0 := by
  unfold sw
  rw [sg_down (w * 256) (by omega), ex_low (w * 256) (by omega), show (65536 : Int) - qu 0 = 0 by decide, Int.mul_zero]
  decide
/-- for w = -n, near: the numbers without a sign -/
def near (n : Nat) : Nat := n * (65536 - 4294967296 / (65536 + ((e0 (256 * n % 45426) + 2 ^ (256 * n / 45426) / 2) / 2 ^ (256 * n / 45426))))
def nearOk (n : Nat) : Bool := Nat.ble 4097 n || Nat.ble (near n) 4685823
theorem near_all : allB nearOk 13 0 = true := by decide +kernel
theorem shN (x q : Nat) (hq : q ≤ 62) : sh (x : Int) (q : Int) = (((x + 2 ^ q / 2) / 2 ^ q : Nat) : Int) := by
  cases q with
  | zero => rw [sh_zero _ _ (by omega)]; simp
  | succ k =>
    have h := near_sh (x : Int) k (by omega)
    rw [show ((k + 1 : Nat) : Int) = (k : Int) + 1 by omega, h, Nat.pow_succ, Nat.mul_div_cancel _ (by decide), Int.natCast_ediv, Int.natCast_add, Int.natCast_mul, Int.natCast_pow]
    rfl
theorem sw_near (n : Nat) (h0 : 0 < n) (h1 : n ≤ 4096) : sw (-(n : Int)) = sh (-(near n : Int)) 16 := by
  have hz : -(n : Int) * 256 < 0 := by omega
  have hb := e0_bd (256 * n % 45426) (by omega)
  unfold sw
  rw [sg_down _ hz, ex_mid _ (by omega) (by omega), show -(-(n : Int) * 256) = ((256 * n : Nat) : Int) by omega, exnE, shN _ _ (by omega), qu_eq _ (Int.natCast_nonneg _)]
  unfold near
  generalize (e0 (256 * n % 45426) + 2 ^ (256 * n / 45426) / 2) / 2 ^ (256 * n / 45426) = e
  have hle : 4294967296 / (65536 + e) ≤ 65536 := by
    have := Nat.div_le_div_left (a := 4294967296) (show 65536 ≤ 65536 + e by omega) (by decide)
    omega
  have e1 : (4294967296 : Int) / (65536 + (e : Int)) = ((4294967296 / (65536 + e) : Nat) : Int) := by
    rw [Int.natCast_ediv, Int.natCast_add]; rfl
  rw [e1]
  generalize 4294967296 / (65536 + e) = y at *
  rw [show (65536 : Int) - (y : Int) = ((65536 - y : Nat) : Int) by omega, Int.neg_mul, ← Int.natCast_mul]
theorem sw_neg (w : Int) (h : w ≤ 0) : -71 ≤ sw w ∧ sw w ≤ 0 := by
  constructor
  · by_cases h1 : w < -4096
    · rw [sw_far w h1]; decide
    · by_cases h2 : w = 0
      · subst h2
        have := (sw_pos 0 (by decide)).1
        omega
      · have hn := sw_near w.natAbs (by omega) (by omega)
        rw [show -(w.natAbs : Int) = w by omega] at hn
        rw [hn, sh16']
        have hk := allB_at nearOk 13 0 near_all w.natAbs (by omega) (by have : (2 : Nat) ^ 13 = 8192 := rfl; omega)
        have h3 : Nat.ble 4097 w.natAbs = true ∨ Nat.ble (near w.natAbs) 4685823 = true := by
          have : (Nat.ble 4097 w.natAbs || Nat.ble (near w.natAbs) 4685823) = true := hk
          simpa only [Bool.or_eq_true] using this
        rcases h3 with h3 | h3
        · have := Nat.le_of_ble_eq_true h3; omega
        · have := Nat.le_of_ble_eq_true h3; omega
  · have h1 := sg_rng (w * 256)
    have h2 : w * sg (w * 256) ≤ 0 := Int.mul_nonpos_of_nonpos_of_nonneg h h1.1
    have h3 := sh_mono _ _ 16 h2
    have h6 : sh 0 16 = 0 := by decide
    unfold sw
    omega
theorem si_mirror (v : Int) : si v - si (-v) = cl v 16777216 := by
  rw [si_sw, si_sw]
  have h := cl_mirror v 16777216
  have h2 : cl (-v) 16777216 = -cl v 16777216 := by omega
  rw [h2]
  exact sw_mirror _
theorem si_pos (v : Int) (h : 0 ≤ v) : 0 ≤ si v ∧ si v ≤ cl v 16777216 := by
  rw [si_sw]; exact sw_pos _ (by unfold cl; omega)
theorem si_neg (v : Int) (h : v < 0) : -71 ≤ si v ∧ si v ≤ 0 := by
  rw [si_sw]; exact sw_neg _ (by unfold cl; omega)
theorem si_all (v : Int) : -16777216 ≤ si v ∧ si v ≤ 16777216 := by
  have h := cl_wide v
  by_cases c : v < 0
  · have := si_neg v c; omega
  · have := si_pos v (by omega); omega
end Go.Proofs.YtjjfbpjejhjdiabDoor.Fix
