import Derived.Test.YtmcefgpejocjfaaDoorSfm
import Derived.Test.YtmcefgpejocjfaaDoorExpRef
import Derived.Test.YtmcefgpejocjfaaDoorRefs1
namespace Go.Proofs.YtmcefgpejocjfaaDoor
open Go.RowKit
/-! The reference's Softmax. -/
set_option maxHeartbeats 400000 in
theorem softmax_rnone {w : World} {ao : Option Addr} {ca : Nat} : Calls Tryd.prog 51 #[.slice ao 0 ca] w fun e w' => e = .returned (.tuple #[.slice none 0 0, .int .i64 0]) ∧ w' = w := by
  go_enter Tryd.func51, Tryd.ntmps51
  go_wp2
  go_ret2
  exact ⟨rfl, rfl⟩
set_option maxHeartbeats 2000000 in
theorem softmax_rok {w : World} {ao : Option Addr} {n ca : Nat} {f : Nat → Int} (ha : RdA w ao 1 n ca (fun i => .int .i64 (f i))) (bf : ∀ i, i < n → -9223372036854775808 ≤ f i ∧ f i ≤ 9223372036854775807) (h0 : 0 < n) (hn : n * 8 ≤ 140737488351232) :
    Calls Tryd.prog 51 #[.slice ao n ca] w fun e w' => ∃ v, e = .returned (.tuple #[v, .int .i64 (tot (sw f n) n)]) ∧ Own w' w.heap.size 2 1 v n (fun j => .int .i64 (sw f n j)) ∧ Below w.heap.size w w' := by
  have hz : ((n : Int) == 0) = false := by simp; omega
  have BF := hidd bf
  clear bf
  obtain ⟨b1, o1, rfl, h1⟩ := ha.one h0
  have c0 := h1 0 h0
  simp only [Nat.add_zero] at c0
  have q0 := BF.out 0 h0
  have HH := hidd h1
  have HA := hidd ha
  have hnc : Hid (Fix.cl (f 0) 16777216 = imax (ncl f) 0) := rfl
  clear h1 ha
  have h0' : (0 : Int) < (n : Int) := by omega
  go_enter Tryd.func51, Tryd.ntmps51
  go_wp2_with fail
  refine (clamp_ref (f 0) 16777216 _ q0.1 q0.2 (by omega) (by omega)).mono ?_
  rintro e w2 ⟨rfl, hw2⟩
  rw [hw2, hnc.out]
  clear hw2 hnc c0 q0 hz
  go_wp2
  go_loop [4, 5] (fun m i => ∃ k : Nat, k + 1 ≤ n ∧ i = .int .i64 ((k : Int) + 1) ∧ m = .int .i64 (imax (ncl f) k)) (fun _ i => n - (intOf i).toNat)
  case atStart => exact ⟨0, by omega, rfl, rfl⟩
  case round =>
    obtain ⟨k, hk, rfl, rfl⟩ := hrel
    by_cases hlt : k + 1 < n
    · have c1 := HH.out (k + 1) hlt
      have bk := BF.out (k + 1) hlt
      have hnc : Hid (Fix.cl (f (k + 1)) 16777216 = ncl f (k + 1)) := rfl
      have E := hidd (imax_step (ncl f) k)
      by_cases hc : imax (ncl f) k < ncl f (k + 1)
      · have E' := hidd (show ncl f (k + 1) = imax (ncl f) (k + 1) by rw [← E.out, if_pos hc])
        have d1 : decide (imax (ncl f) k < ncl f (k + 1)) = true := by simp; omega
        clear E hc
        go_wp2_with fail
        refine (clamp_ref (f (k + 1)) 16777216 _ bk.1 bk.2 (by omega) (by omega)).mono ?_
        rintro e w2 ⟨rfl, hw2⟩
        rw [hw2, hnc.out]
        clear hw2 hnc
        go_wp2
        go_round
        case rel => exact ⟨k + 1, by omega, by go_num, by rw [E'.out]⟩
        case measure => simp [intOf]; omega
      · have E' := hidd (show imax (ncl f) k = imax (ncl f) (k + 1) by rw [← E.out, if_neg hc])
        have d1 : decide (imax (ncl f) k < ncl f (k + 1)) = false := by simp; omega
        clear E hc
        go_wp2_with fail
        refine (clamp_ref (f (k + 1)) 16777216 _ bk.1 bk.2 (by omega) (by omega)).mono ?_
        rintro e w2 ⟨rfl, hw2⟩
        rw [hw2, hnc.out]
        clear hw2 hnc
        go_wp2
        go_round
        case rel => exact ⟨k + 1, by omega, by go_num, by rw [E'.out]⟩
        case measure => simp [intOf]; omega
    · have hkn : k = n - 1 := by omega
      have hsw : ∀ j, Fix.ex (64 * (ncl f j - imax (ncl f) k)) = sw f n j := fun _ => by rw [hkn]; rfl
      have HSW := hidd hsw
      have hmb : -16777216 ≤ imax (ncl f) k ∧ imax (ncl f) k ≤ 16777216 := by
        obtain ⟨i, _, e⟩ := imax_ex (f := ncl f) k
        rw [e]; exact ncl_bd f i
      clear hsw hkn
      generalize imax (ncl f) k = best at *
      go_wp2
      clear hlt hk
      go_loopw [7, 8, 9] (fun v s i wr => ∃ t : Nat, t ≤ n ∧ i = .int .i64 t ∧ s = .int .i64 (tot (sw f n) t) ∧ Own wr w.heap.size 2 1 v t (fun j => .int .i64 (sw f n j)) ∧ Below w.heap.size w wr) (fun _ _ i _ => n - (intOf i).toNat)
      case atStart => exact ⟨0, by omega, rfl, by rw [tot_zero], own_nil _ _ _ _ _, Below.refl _ _⟩
      case round =>
        obtain ⟨t, ht, rfl, rfl, hown, hf1⟩ := hrel
        have hsz := hf1.size
        by_cases hlt : t < n
        · have c1 := fresh_cell hf1 (HH.out t hlt)
          have bk := BF.out t hlt
          have bc := ncl_bd f t
          have hnc : Hid (Fix.cl (f t) 16777216 = ncl f t) := rfl
          have E := hidd (tot_succ (sw f n) t)
          go_wp2_with fail
          refine (clamp_ref (f t) 16777216 _ bk.1 bk.2 (by omega) (by omega)).mono ?_
          rintro e w2 ⟨rfl, hw2⟩
          rw [hw2, hnc.out]
          clear hw2 hnc
          go_wp2_with fail
          refine (exp_ref _ _).mono ?_
          rintro e w2 ⟨rfl, hw2⟩
          rw [hw2, HSW.out]
          clear hw2
          go_wp2_with (at_builtin; refine wpList_app1 _ rfl _ _ 29 rfl _ 2 (.int .i64 0) 8 Tryd.underlying29 infoI64 rfl _ t _ rfl (hown.kept (fresh_alloc _ _)) _ 1 rfl (new_cell _ _ _) rfl (by omega) (by omega) (by simp; omega) ?_)
          intro v' w6 hown' happ
          have hf6 := happ.below (hf1.alloc hsz _) (hown.kept (fresh_alloc _ _)) (Nat.le_refl _) (by simp; omega)
          clear happ hown hf1 c1
          go_wp2
          go_roundw
          case rel => exact ⟨t + 1, by omega, by go_num, by rw [E.out], hown', hf6⟩
          case measure => simp [intOf]; omega
        · have htk : t = n := by omega
          subst htk
          go_wp2
          go_ret2
          exact ⟨_, rfl, hown, hf1⟩
end Go.Proofs.YtmcefgpejocjfaaDoor
