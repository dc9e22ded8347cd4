import Derived.Test.YtmcefgpejocjfaaDoorBldRef
namespace Go.Proofs.YtmcefgpejocjfaaDoor
open Go.RowKit
/-! The reference's Blend. -/
theorem dvr_bd (a b : Int) (h0 : -9223372036854775808 ≤ a) (h1 : a ≤ 9223372036854775807) : -9223372036854775808 ≤ Fix.dv a b ∧ Fix.dv a b ≤ 9223372036854775807 := by
  by_cases h : 0 < b
  · rw [Fix.dv_gt a b h]; exact Fix.quo_bd a b h h0 h1
  · rw [Fix.dv_le a b (by omega)]; omega
set_option maxHeartbeats 2000000 in
theorem blend_rok {w : World} {ao vo : Option Addr} {n ca cv : Nat} {f : Nat → Int} {A : Nat → Option Addr} {L K : Nat → Nat} {X : Nat → Nat → Int} (ha : RdA w ao 1 n ca (fun i => .int .i64 (f i))) (hv : Vs w vo n cv A L K X) (h : Fit f n L)
    (bf : ∀ i, i < n → -9223372036854775808 ≤ f i ∧ f i ≤ 9223372036854775807) (bX : ∀ i j, i < n → j < L 0 → -128 ≤ X i j ∧ X i j ≤ 127) (hL0 : L 0 ≤ 140737488351232) :
    Calls Tryd.prog 52 #[.slice ao n ca, .slice vo n cv] w fun e w' => ∃ v, e = .returned (.tuple #[v, .int .i64 0]) ∧ Own w' w.heap.size 48 1 v (L 0) (fun j => .int .i8 (bln f X n j)) ∧ Below w.heap.size w w' := by
  have hn : n ≤ 9223372036854775807 := by have := ha.le; have := ha.top; unfold maxLen at this; omega
  have hbo := blends_ok ha hv h bf
  have h0 := h.pos
  have hs := h.sum
  have hsb := tot_bd f n
  have HL := hidd h.len
  have BF := hidd bf
  have BX := hidd bX
  clear bf bX h
  go_enter Tryd.func52, Tryd.ntmps52
  go_wp2_with fail
  refine hbo.mono ?_
  rintro e w1 ⟨rfl, hf0⟩
  have hs0 := hf0.size
  replace ha := ha.fresh hf0
  replace hv := hv.fresh hf0
  clear hbo
  go_wp2
  go_loopw [8, 9] (fun v i wr => ∃ k : Nat, k ≤ L 0 ∧ i = .int .i64 k ∧ Own wr w1.heap.size 48 1 v k (fun j => .int .i8 (bln f X n j)) ∧ Below w1.heap.size w1 wr) (fun _ i _ => L 0 - (intOf i).toNat)
  case atStart => exact ⟨0, by omega, rfl, own_nil _ _ _ _ _, Below.refl _ _⟩
  case round =>
    obtain ⟨j, hj, rfl, hown, hf1⟩ := hrel
    have hsz := hf1.size
    obtain ⟨b2, o2, rfl, h2⟩ := (hv.top.fresh hf1).one h0
    have z0 := h2 0 h0
    simp only [Nat.add_zero] at z0
    have H2 := hidd h2
    clear h2
    by_cases hlt : j < L 0
    · have HR := hidd (fun i hi => (hv.row i hi).fresh hf1)
      obtain ⟨b1, o1, rfl, h1⟩ := (ha.fresh hf1).one h0
      have H1 := hidd h1
      clear h1
      go_wp2
      clear z0
      go_loopw [10, 11] (fun s i wc => ∃ t : Nat, t ≤ n ∧ i = .int .i64 t ∧ s = .int .i64 (dot f (fun i => X i j) t) ∧ Below wr.heap.size wr wc) (fun _ i _ => n - (intOf i).toNat)
      case atStart => exact ⟨0, by omega, rfl, by rw [dot_zero], Below.refl _ _⟩
      case round =>
        obtain ⟨t, ht, rfl, rfl, hfc⟩ := hrel
        by_cases hltt : t < n
        · obtain ⟨b3, o3, e3, h3⟩ := (HR.out t hltt).one (by rw [HL.out t hltt]; omega)
          have c1 := fresh_cell hfc (H1.out t hltt)
          have c2 := fresh_cell hfc (H2.out t hltt)
          have c3 := fresh_cell hfc (h3 j (by rw [HL.out t hltt]; omega))
          rw [e3, HL.out t hltt] at c2
          have bk := BF.out t hltt
          have bx := BX.out t j hltt hlt
          have E := hidd (dot_succ f (fun i => X i j) t)
          have E' := hidd (dot_succ' f (fun i => X i j) t)
          clear h3 e3
          go_wp2
          go_quiet (fail)
          go_wp2
          go_roundw
          case rel => exact ⟨t + 1, by omega, by go_num, by first | rw [E.out] | rw [E'.out], below_drewN hfc _⟩
          case measure => simp [intOf]; omega
        · have htn : t = n := by omega
          subst htn
          have bd := dot_bd f (fun i => X i j) t
          have hfd := fresh_trans hf1 hfc
          have ho := hown.kept hfc
          have hsd := hfd.size
          have bq := dvr_bd (dot f (fun i => X i j) t) (tot f t) bd.1 bd.2
          clear hown hf1 hfc
          go_wp2_with fail
          refine (div_ref _ _ _ bd.1 bd.2 (by omega) (by omega)).mono ?_
          rintro e w2 ⟨rfl, hw2⟩
          rw [hw2]
          clear hw2
          go_wp2_with fail
          refine (clamp8_ref _ _ bq.1 bq.2).mono ?_
          rintro e w2 ⟨rfl, hw2⟩
          rw [hw2]
          clear hw2
          go_wp2_with (at_builtin; refine wpList_app1 _ rfl _ _ 26 rfl _ 48 (.int .i8 0) 1 Tryd.underlying26 infoI8 rfl _ j _ rfl (ho.kept (fresh_alloc _ _)) _ 1 rfl (new_cell _ _ _) rfl (by omega) (by omega) (by simp; omega) ?_)
          intro v' w6 hown' happ
          have hf6 := happ.below (hfd.alloc hsd _) (ho.kept (fresh_alloc _ _)) (Nat.le_refl _) (by simp; omega)
          clear happ ho hfd
          go_wp2
          go_roundw
          case rel => exact ⟨j + 1, by omega, by go_num, hown', hf6⟩
          case measure => simp [intOf]; omega
    · have hjL : j = L 0 := by omega
      rw [hjL] at hown
      go_wp2
      go_ret2
      exact ⟨_, rfl, hown.weaken hs0, fresh_trans hf0 hf1⟩
end Go.Proofs.YtmcefgpejocjfaaDoor
