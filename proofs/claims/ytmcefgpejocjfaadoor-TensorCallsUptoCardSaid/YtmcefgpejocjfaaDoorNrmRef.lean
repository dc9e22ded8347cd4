import Derived.Test.YtmcefgpejocjfaaDoorNrm
import Derived.Test.YtmcefgpejocjfaaDoorRefs1
namespace Go.Proofs.YtmcefgpejocjfaaDoor
open Go.RowKit
/-! The reference's Norm. -/
theorem sqrt_rany (v : Int) (w : World) (v1 : v ≤ 9223372036854775807) :
    Calls Tryd.prog 75 #[.int .i64 v] w fun e w' => e = .returned (.int .i64 (rt v)) ∧ w' = w := by
  by_cases h : v ≤ 0
  · rw [rt_low h]; exact sqrt_ref_low v w h
  · refine (sqrt_ref v w (by omega) v1).mono ?_
    rintro e w' ⟨⟨r, rfl, h0, h1, h2⟩, rfl⟩
    exact ⟨by rw [rt_eq (by omega) h0 h1 h2], rfl⟩
set_option maxHeartbeats 1000000 in
theorem norm_rbad {w : World} {ao bo : Option Addr} {n m ca cb : Nat} (h : n = 0 ∨ n ≠ m) :
    Calls Tryd.prog 48 #[.slice ao n ca, .slice bo m cb] w fun e w' => e = .returned (.tuple #[.slice none 0 0, .int .i64 30]) ∧ w' = w := by
  by_cases h0 : n = 0
  · have hz : ((n : Int) == 0) = true := by simp [h0]
    clear h0 h
    go_enter Tryd.func48, Tryd.ntmps48
    go_wp2
    go_ret2
    exact ⟨rfl, rfl⟩
  · have hz : ((n : Int) == 0) = false := by simp; omega
    have hne : ((n : Int) != (m : Int)) = true := by simp; omega
    clear h0 h
    go_enter Tryd.func48, Tryd.ntmps48
    go_wp2
    go_ret2
    exact ⟨rfl, rfl⟩
set_option maxHeartbeats 2000000 in
theorem norm_rok {w : World} {ao bo : Option Addr} {n ca cb : Nat} {f g : Nat → Int} (ha : RdA w ao 1 n ca (fun i => .int .i64 (f i))) (hb : RdA w bo 1 n cb (fun i => .int .i8 (g i)))
    (bf : ∀ i, i < n → -9223372036854775808 ≤ f i ∧ f i ≤ 9223372036854775807) (bg : ∀ i, i < n → -128 ≤ g i ∧ g i ≤ 127) (h0 : 0 < n) (hn : n ≤ 140737488351232) :
    Calls Tryd.prog 48 #[.slice ao n ca, .slice bo n cb] w fun e w' => ∃ v, e = .returned (.tuple #[v, .int .i64 0]) ∧ Own w' w.heap.size 48 1 v n (fun j => .int .i8 (nrm f g n j)) ∧ Below w.heap.size w w' := by
  have hz : ((n : Int) == 0) = false := by simp; omega
  have hne : ((n : Int) != (n : Int)) = false := by simp
  have BF := hidd bf
  have BG := hidd bg
  clear bf bg
  go_enter Tryd.func48, Tryd.ntmps48
  go_wp2
  clear hz hne
  go_loop [6, 7] (fun s i => ∃ k : Nat, k ≤ n ∧ i = .int .i64 k ∧ s = .int .i64 (dot (ncl f) (ncl f) k)) (fun _ i => n - (intOf i).toNat)
  case atStart => exact ⟨0, by omega, rfl, by rw [dot_zero]⟩
  case round =>
    obtain ⟨k, hk, rfl, rfl⟩ := hrel
    by_cases hlt : k < n
    · obtain ⟨b1, o1, rfl, h1⟩ := ha.one (by omega)
      have c1 := h1 k hlt
      have bk := BF.out k hlt
      have bc := ncl_bd f k
      have E := hidd (dot_succ (ncl f) (ncl f) k)
      have E' := hidd (dot_succ' (ncl f) (ncl f) k)
      have hnc : Hid (Fix.cl (f k) 16777216 = ncl f k) := rfl
      clear h1
      go_wp2_with fail
      refine (clamp_ref (f k) 16777216 _ bk.1 bk.2 (by omega) (by omega)).mono ?_
      rintro e w2 ⟨rfl, hw2⟩
      rw [hw2, hnc.out]
      clear hw2 hnc
      go_wp2
      go_round
      case rel => exact ⟨k + 1, by omega, by go_num, by first | rw [E.out] | rw [E'.out]⟩
      case measure => simp [intOf]; omega
    · have hkn : k = n := by omega
      subst hkn
      have hd := dot_bd (ncl f) (ncl f) k
      have hq := dv_bd (dot (ncl f) (ncl f) k) (k : Int) hd.1 hd.2
      have hr := rt_bd (Fix.dv (dot (ncl f) (ncl f) k) (k : Int)) hq.2
      have HR : Hid (nr f k = rt (Fix.dv (dot (ncl f) (ncl f) k) (k : Int)) + 1) := rfl
      go_wp2_with fail
      refine (div_ref _ _ _ hd.1 hd.2 (by omega) (by omega)).mono ?_
      rintro e w2 ⟨rfl, hw2⟩
      rw [hw2]
      clear hw2
      go_wp2_with fail
      refine (sqrt_rany _ _ hq.2).mono ?_
      rintro e w2 ⟨rfl, hw2⟩
      rw [hw2]
      clear hw2
      go_wp2
      generalize rt (Fix.dv (dot (ncl f) (ncl f) k) (k : Int)) = root at *
      clear hd hq
      go_loopw [11, 12] (fun v i wr => ∃ t : Nat, t ≤ k ∧ i = .int .i64 t ∧ Own wr w.heap.size 48 1 v t (fun j => .int .i8 (nrm f g k j)) ∧ Below w.heap.size w wr) (fun _ i _ => k - (intOf i).toNat)
      case atStart => exact ⟨0, by omega, rfl, own_nil _ _ _ _ _, Below.refl _ _⟩
      case round =>
        obtain ⟨t, ht, rfl, hown, hf1⟩ := hrel
        have hsz := hf1.size
        by_cases hlt : t < k
        · obtain ⟨b1, o1, rfl, h1⟩ := (ha.fresh hf1).one (by omega)
          obtain ⟨b2, o2, rfl, h2⟩ := (hb.fresh hf1).one (by omega)
          have c1 := h1 t hlt
          have c2 := h2 t hlt
          have bk := BF.out t hlt
          have bg := BG.out t hlt
          have bc := ncl_bd f t
          have hnc : Hid (Fix.cl (f t) 16777216 = ncl f t) := rfl
          have hp := wbd (ncl f t * g t)
          have hq := dv_bd (wrap64 (ncl f t * g t)) (root + 1) hp.1 hp.2
          have HN : Hid (Fix.cl (Fix.dv (wrap64 (ncl f t * g t)) (root + 1)) 127 = nrm f g k t) := by
            show _ = _
            unfold nrm
            rw [HR.out]
          clear h1 h2
          go_wp2_with fail
          refine (clamp_ref (f t) 16777216 _ bk.1 bk.2 (by omega) (by omega)).mono ?_
          rintro e w2 ⟨rfl, hw2⟩
          rw [hw2, hnc.out]
          clear hw2 hnc
          go_wp2_with fail
          refine (div_ref (wrap64 (ncl f t * g t)) (root + 1) _ hp.1 hp.2 (by omega) (by omega)).mono ?_
          rintro e w2 ⟨rfl, hw2⟩
          rw [hw2]
          clear hw2
          go_wp2_with fail
          refine (clamp8_ref _ _ hq.1 hq.2).mono ?_
          rintro e w2 ⟨rfl, hw2⟩
          rw [hw2, HN.out]
          clear hw2 hp hq
          go_wp2_with (at_builtin; refine wpList_app1 _ rfl _ _ 26 rfl _ 48 (.int .i8 0) 1 Tryd.underlying26 infoI8 rfl _ t _ rfl (hown.kept (fresh_alloc _ _)) _ 1 rfl (new_cell _ _ _) rfl (by omega) (by omega) (by simp; omega) ?_)
          intro v' w6 hown' happ
          have hf6 := happ.below (hf1.alloc hsz _) (hown.kept (fresh_alloc _ _)) (Nat.le_refl _) (by simp; omega)
          clear happ hown hf1 c1 c2
          go_wp2
          go_roundw
          case rel => exact ⟨t + 1, by omega, by go_num, hown', hf6⟩
          case measure => simp [intOf]; omega
        · have htk : t = k := by omega
          rw [htk] at hown
          go_wp2
          go_ret2
          exact ⟨_, rfl, hown, hf1⟩
end Go.Proofs.YtmcefgpejocjfaaDoor
