import Derived.Test.YtmcefgpejocjfaaDoorStepRef
namespace Go.Proofs.YtmcefgpejocjfaaDoor
open Go.RowKit
/-! The reference's Rotate. -/
def rtv (f C S : Nat → Int) (j : Nat) : Int := if j % 2 = 0 then Fix.cl (rc (f (2 * (j / 2))) (f (2 * (j / 2) + 1)) (C (j / 2)) (S (j / 2))) 127 else Fix.cl (rs (f (2 * (j / 2))) (f (2 * (j / 2) + 1)) (C (j / 2)) (S (j / 2))) 127
theorem rtv0 (f C S : Nat → Int) (i : Nat) : rtv f C S (2 * i) = Fix.cl (rc (f (2 * i)) (f (2 * i + 1)) (C i) (S i)) 127 := by
  unfold rtv; rw [if_pos (by omega), show 2 * i / 2 = i by omega]
theorem rtv1 (f C S : Nat → Int) (i : Nat) : rtv f C S (2 * i + 1) = Fix.cl (rs (f (2 * i)) (f (2 * i + 1)) (C i) (S i)) 127 := by
  unfold rtv; rw [if_neg (by omega), show (2 * i + 1) / 2 = i by omega]
set_option maxHeartbeats 1000000 in
theorem rotate_rbad {w : World} {ao bo : Option Addr} {n m ca cb : Nat} (h : m ≠ 2 * n) (hm : m ≤ 9223372036854775807) :
    Calls Tryd.prog 54 #[.slice ao m ca, .slice bo n cb] w fun e w' => e = .returned (.tuple #[.slice none 0 0, .int .i64 30]) ∧ w' = w := by
  have e1 : (m : Int).tmod 2 = (m : Int) % 2 := rfl
  have e2 : (m : Int).tdiv 2 = (m : Int) / 2 := rfl
  by_cases h2 : m % 2 = 0
  · have d1 : ((m : Int) % 2 != 0) = false := by simp; omega
    have d2 : ((m : Int) / 2 != (n : Int)) = true := by simp; omega
    clear h h2
    go_enter Tryd.func54, Tryd.ntmps54
    go_wp2
    go_ret2
    exact ⟨rfl, rfl⟩
  · have d1 : ((m : Int) % 2 != 0) = true := by simp; omega
    clear h h2
    go_enter Tryd.func54, Tryd.ntmps54
    go_wp2
    go_ret2
    exact ⟨rfl, rfl⟩
theorem two_cells (w : World) (x y : Value) (t : TypeId) (cs : Nat → Value) {k : Nat} (h0 : x = cs k) (h1 : y = cs (k + 1)) : ∀ j, j < 2 * 1 → (w.alloc (.cells #[x, y] t)).cell? ⟨w.heap.size, j, none⟩ = some (cs (k * 1 + j)) := fun j hj => by
  obtain rfl | rfl : j = 0 ∨ j = 1 := by omega
  · simp [h0]
  · simp [h1]
set_option maxRecDepth 20000 in
set_option maxHeartbeats 2000000 in
theorem rotate_rok {w : World} {ao bo : Option Addr} {n m ca cb : Nat} {f C S : Nat → Int} (ha : RdA w ao 1 m ca (fun i => .int .i8 (f i))) (hb : RdA w bo 2 n cb (tcs C S)) (bf : ∀ i, i < m → -128 ≤ f i ∧ f i ≤ 127) (hm : m = 2 * n) (hm2 : m ≤ 140737488351232) :
    Calls Tryd.prog 54 #[.slice ao m ca, .slice bo n cb] w fun e w' => ∃ v, e = .returned (.tuple #[v, .int .i64 0]) ∧ Own w' w.heap.size 48 1 v m (fun j => .int .i8 (rtv f C S j)) ∧ Below w.heap.size w w' := by
  have e1 : (m : Int).tmod 2 = (m : Int) % 2 := rfl
  have e2 : (m : Int).tdiv 2 = (m : Int) / 2 := rfl
  have d1 : ((m : Int) % 2 != 0) = false := by simp; omega
  have d2 : ((m : Int) / 2 != (n : Int)) = false := by simp; omega
  have hm1 : m ≤ 2 * n := by omega
  have hm3 : 2 * n ≤ m := by omega
  have HM := hidd hm
  clear hm
  go_enter Tryd.func54, Tryd.ntmps54
  go_wp2
  clear d1 d2 e1 e2
  go_loopw [6, 7] (fun v i wr => ∃ k : Nat, k ≤ n ∧ i = .int .i64 k ∧ Own wr w.heap.size 48 1 v (2 * k) (fun j => .int .i8 (rtv f C S j)) ∧ Below w.heap.size w wr) (fun _ i _ => n - (intOf i).toNat)
  case atStart => exact ⟨0, by omega, rfl, own_nil _ _ _ _ _, Below.refl _ _⟩
  case round =>
    obtain ⟨k, hk, rfl, hown, hf⟩ := hrel
    have hsz := hf.size
    by_cases hlt : k < n
    · obtain ⟨b1, o1, rfl, h1⟩ := (ha.fresh hf).one (by omega)
      have c1 := h1 (2 * k) (by omega)
      have c2 := h1 (2 * k + 1) (by omega)
      have g1 := bf (2 * k) (by omega)
      have g2 := bf (2 * k + 1) (by omega)
      obtain ⟨b2, o2, rfl, h2⟩ := (hb.fresh hf).two (by omega)
      obtain ⟨k1, k2⟩ := h2 k hlt
      have T0 := hidd (rtv0 f C S k)
      have T1 := hidd (rtv1 f C S k)
      clear h1 h2
      go_wp2
      replace k1 := later_cell k1; replace k2 := later_cell k2
      have ne := later_some wr
      refine wp_region_later (by kernel_rfl) (by kernel_rfl) ?_
      repeat (go_big_quiet_step (exact later_same (shift_ref _ _ _ (wbd _).1 (wbd _).2 (by decide) (by decide))))
      refine wpQuiet_nil ?_
      rintro _ ⟨z, rfl⟩
      have hf2 := fresh_trans hf z.fresh
      have hown2 := hown.kept z.fresh
      have hsz2 := hf2.size
      rw [rc_eq]
      clear hown hf ne hsz
      have p1 := k1 z
      have p2 := k2 z
      clear k1 k2 c1 c2
      generalize z.val = wz at *
      clear z
      go_wp2
      replace p1 := later_cell p1; replace p2 := later_cell p2
      have ne := later_some wz
      refine wp_region_later (by kernel_rfl) (by kernel_rfl) ?_
      repeat (go_big_quiet_step (exact later_same (shift_ref _ _ _ (wbd _).1 (wbd _).2 (by decide) (by decide))))
      refine wpQuiet_nil ?_
      rintro _ ⟨y, rfl⟩
      have hf3 := fresh_trans hf2 y.fresh
      have hown3 := hown2.kept y.fresh
      have hsz3 := hf3.size
      rw [rs_eq]
      clear hown2 hf2 ne hsz2 p1 p2
      generalize y.val = wy at *
      clear y
      have b1 := rc_bd (f (2 * k)) (f (2 * k + 1)) (C k) (S k)
      have b2 := rs_bd (f (2 * k)) (f (2 * k + 1)) (C k) (S k)
      go_wp2_with fail
      refine (clamp8_ref _ _ b1.1 b1.2).mono ?_
      rintro e w2 ⟨rfl, hw2⟩
      rw [hw2, ← T0.out]
      clear hw2
      go_wp2_with fail
      refine (clamp8_ref _ _ b2.1 b2.2).mono ?_
      rintro e w2 ⟨rfl, hw2⟩
      rw [hw2, ← T1.out]
      clear hw2 b1 b2
      go_wp2_with (at_builtin; refine wpList_app _ rfl _ _ 26 rfl w.heap.size 48 (.int .i8 0) 1 1 Tryd.underlying26 infoI8 rfl (by decide) _ (2 * k) (fun j => .int .i8 (rtv f C S j)) rfl (hown3.kept (fresh_alloc _ _)) _ 2 2 rfl (two_cells _ _ _ _ (fun j => .int .i8 (rtv f C S j)) (k := 2 * k) rfl rfl) (fun _ _ => rfl) (by decide) (by unfold maxLen; omega) (by omega) (by simp; omega) ?_)
      intro v' w6 hown' happ
      have hf6 := happ.below (hf3.alloc hsz3 _) (hown3.kept (fresh_alloc _ _)) (Nat.le_refl _) (by simp; omega)
      clear happ hown3 hf3
      go_wp2
      go_roundw
      case rel => exact ⟨k + 1, by omega, by go_num, hown', hf6⟩
      case measure => simp [intOf]; omega
    · have hkn : k = n := by omega
      subst hkn
      go_wp2
      go_ret2
      exact ⟨_, rfl, by rw [HM.out]; exact hown, hf⟩
end Go.Proofs.YtmcefgpejocjfaaDoor
