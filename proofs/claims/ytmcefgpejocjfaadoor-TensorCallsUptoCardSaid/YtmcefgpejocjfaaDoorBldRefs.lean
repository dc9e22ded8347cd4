import Derived.Test.YtmcefgpejocjfaaDoorBld
import Derived.Test.YtmcefgpejocjfaaDoorRefs1
namespace Go.Proofs.YtmcefgpejocjfaaDoor
open Go.RowKit
/-! Blend's refusals. -/
set_option maxHeartbeats 1000000 in
theorem blendable_ne {w : World} {ao vo : Option Addr} {n m ca cv : Nat} (h : n = 0 ∨ n ≠ m) :
    Calls Tryd.prog 65 #[.slice ao n ca, .slice vo m cv] w fun e w' => e = .returned (.bool false) ∧ w' = w := by
  by_cases h0 : n = 0
  · have hz : ((n : Int) == 0) = true := by simp [h0]
    clear h0 h
    go_enter Tryd.func65, Tryd.ntmps65
    go_wp2
    go_ret
    exact ⟨rfl, rfl⟩
  · have hz : ((n : Int) == 0) = false := by simp; omega
    have hne : ((n : Int) != (m : Int)) = true := by simp; omega
    clear h0 h
    go_enter Tryd.func65, Tryd.ntmps65
    go_wp2
    go_ret
    exact ⟨rfl, rfl⟩
set_option maxHeartbeats 1000000 in
theorem blendable_bad {w : World} {ao vo : Option Addr} {n ca cv : Nat} {f : Nat → Int} {A : Nat → Option Addr} {L K : Nat → Nat} {X : Nat → Nat → Int} (ha : RdA w ao 1 n ca (fun i => .int .i64 (f i))) (hv : Vs w vo n cv A L K X) (h0 : 0 < n) (h : ¬ Fit f n L) :
    Calls Tryd.prog 65 #[.slice ao n ca, .slice vo n cv] w fun e w' => e = .returned (.bool false) ∧ w' = w := by
  have hn : n ≤ 9223372036854775807 := by have := ha.le; have := ha.top; unfold maxLen at this; omega
  obtain ⟨m, rfl⟩ : ∃ m, n = m + 1 := ⟨n - 1, by omega⟩
  have hout : Hid ((∀ i, i < m + 1 → L i = L 0) → 0 ≤ imin f m → ¬ 1 ≤ tot f (m + 1)) := fun a b c => h ⟨h0, a, fun i hi => Int.le_trans b (imin_le (by omega)), c⟩
  have qm := min_any ha
  have qt := total_any ha
  clear h
  generalize hN : m + 1 = N at *
  obtain ⟨b1, o1, rfl, h1⟩ := hv.top.one (by omega)
  have k0 := h1 0 (by omega)
  simp only [Nat.add_zero] at k0
  have HH := hidd h1
  have hz : ((N : Int) == 0) = false := by simp; omega
  have hne : ((N : Int) != (N : Int)) = false := by simp
  clear h1 hN
  go_enter Tryd.func65, Tryd.ntmps65
  go_wp2
  clear hz hne
  go_loop [19] (fun i => ∃ k : Nat, k ≤ N ∧ i = .int .i64 k ∧ Hid (∀ j, j < k → L j = L 0)) (fun i => N - (intOf i).toNat)
  case atStart => exact ⟨0, by omega, rfl, fun j hj => absurd hj (by omega)⟩
  case round =>
    obtain ⟨k, hk, rfl, HK⟩ := hrel
    by_cases hlt : k < N
    · have c1 := HH.out k hlt
      by_cases hL : L k = L 0
      · have HK' : Hid (∀ j, j < k + 1 → L j = L 0) := fun j hj => by
          by_cases e : j = k
          · rw [e]; exact hL
          · exact HK.out j (by omega)
        rw [hL] at c1
        have hne : ((L 0 : Int) != (L 0 : Int)) = false := by simp
        clear hL HK
        go_wp2
        go_round
        case rel => exact ⟨k + 1, by omega, by go_num, HK'⟩
        case measure => simp [intOf]; omega
      · have hne : ((L k : Int) != (L 0 : Int)) = true := by simp; omega
        clear hL
        go_wp2
        go_ret
        exact ⟨rfl, rfl⟩
    · have hk' : k = N := by omega
      have hq := hout.out (fun i hi => HK.out i (by omega))
      by_cases hm0 : 0 ≤ imin f m
      · have ht := hq hm0
        clear hq
        go_wp2_with fail
        refine qm.mono ?_
        rintro e w1 ⟨rfl, hw1⟩
        rw [hw1]
        clear hw1 qm
        go_wp2_with fail
        refine qt.mono ?_
        rintro e w2 ⟨rfl, hw2⟩
        rw [hw2]
        clear hw2 qt
        go_wp2
        go_ret
        exact ⟨ret_bool (by simp; try omega), rfl⟩
      · clear hq
        go_wp2_with fail
        refine qm.mono ?_
        rintro e w1 ⟨rfl, hw1⟩
        rw [hw1]
        clear hw1 qm
        go_wp2
        go_ret
        exact ⟨ret_bool (by simp; try omega), rfl⟩
set_option maxHeartbeats 1000000 in
theorem blend_bad {w : World} {ao vo : Option Addr} {n m ca cv : Nat} {f : Nat → Int} {A : Nat → Option Addr} {L K : Nat → Nat} {X : Nat → Nat → Int} (ha : RdA w ao 1 n ca (fun i => .int .i64 (f i))) (hv : Vs w vo m cv A L K X) (h : n = 0 ∨ n ≠ m ∨ ¬ Fit f n L) :
    Calls Tryd.prog 26 #[.slice ao n ca, .slice vo m cv] w fun e w' => e = .returned (.tuple #[.slice none 0 0, .int .i64 30]) ∧ w' = w := by
  have hbo : Calls Tryd.prog 65 #[.slice ao n ca, .slice vo m cv] w fun e w' => e = .returned (.bool false) ∧ w' = w := by
    by_cases h1 : n = 0 ∨ n ≠ m
    · exact blendable_ne h1
    · have e : n = m := by omega
      have hF : ¬ Fit f n L := by
        rcases h with h | h | h
        · exact absurd (Or.inl h) h1
        · exact absurd (Or.inr h) h1
        · exact h
      subst e
      exact blendable_bad ha hv (by omega) hF
  go_enter Tryd.func26, Tryd.ntmps26
  go_wp2_with fail
  refine hbo.mono ?_
  rintro e w1 ⟨rfl, hw1⟩
  rw [hw1]
  clear hw1 hbo
  go_wp2
  go_ret2
  exact ⟨rfl, rfl⟩
end Go.Proofs.YtmcefgpejocjfaaDoor
namespace Go.Proofs.YtmcefgpejocjfaaDoor
open Go.RowKit
/-! The reference's Blend. -/
set_option maxHeartbeats 1000000 in
theorem blends_ok {w : World} {ao vo : Option Addr} {n ca cv : Nat} {f : Nat → Int} {A : Nat → Option Addr} {L K : Nat → Nat} {X : Nat → Nat → Int} (ha : RdA w ao 1 n ca (fun i => .int .i64 (f i))) (hv : Vs w vo n cv A L K X) (h : Fit f n L)
    (bf : ∀ i, i < n → -9223372036854775808 ≤ f i ∧ f i ≤ 9223372036854775807) :
    Calls Tryd.prog 77 #[.slice ao n ca, .slice vo n cv] w fun e w' => e = .returned (.tuple #[.bool true, .int .i64 (tot f n)]) ∧ Below w.heap.size w w' := by
  have hn : n ≤ 9223372036854775807 := by have := ha.le; have := ha.top; unfold maxLen at this; omega
  obtain ⟨h0, hL, hlow, hsum⟩ := h
  have HL := hidd hL
  have HW := hidd hlow
  have BF := hidd bf
  have hz : ((n : Int) == 0) = false := by simp; omega
  have hne : ((n : Int) != (n : Int)) = false := by simp
  clear hL hlow bf
  go_enter Tryd.func77, Tryd.ntmps77
  go_wp2
  clear hz hne
  go_loopw [6, 7] (fun s i wr => ∃ k : Nat, k ≤ n ∧ i = .int .i64 k ∧ s = .int .i64 (tot f k) ∧ Below w.heap.size w wr) (fun _ i _ => n - (intOf i).toNat)
  case atStart => exact ⟨0, by omega, rfl, by rw [tot_zero], Below.refl _ _⟩
  case round =>
    obtain ⟨k, hk, rfl, rfl, hf1⟩ := hrel
    by_cases hlt : k < n
    · obtain ⟨b1, o1, rfl, h1⟩ := (ha.fresh hf1).one (by omega)
      obtain ⟨b2, o2, rfl, h2⟩ := (hv.top.fresh hf1).one (by omega)
      have c1 := h1 k hlt
      have c2 := h2 k hlt
      have c3 := h2 0 h0
      simp only [Nat.add_zero] at c3
      rw [HL.out k hlt] at c2
      have bw := HW.out k hlt
      have bk := BF.out k hlt
      have hne : ((L 0 : Int) != (L 0 : Int)) = false := by simp
      have ES := hidd (tot_succ f k)
      clear h1 h2
      go_wp2
      go_quiet (fail)
      go_wp2
      go_roundw
      case rel => exact ⟨k + 1, by omega, by go_num, by rw [ES.out], below_drewN hf1 _⟩
      case measure => simp [intOf]; omega
    · obtain rfl : k = n := by omega
      go_wp2
      go_ret2
      exact ⟨rfl, hf1⟩
end Go.Proofs.YtmcefgpejocjfaaDoor
namespace Go.Proofs.YtmcefgpejocjfaaDoor
open Go.RowKit
/-! The reference's Blend. -/
theorem dvr_bd (a b : Int) (h0 : -9223372036854775808 ≤ a) (h1 : a ≤ 9223372036854775807) : -9223372036854775808 ≤ Fix.dv a b ∧ Fix.dv a b ≤ 9223372036854775807 := by
  by_cases h : 0 < b
  · rw [Fix.dv_gt a b h]; exact Fix.quo_bd a b h h0 h1
  · rw [Fix.dv_le a b (by omega)]; omega
set_option maxHeartbeats 2000000 in
theorem blend_rok {w : World} {ao vo : Option Addr} {n ca cv : Nat} {f : Nat → Int} {A : Nat → Option Addr} {L K : Nat → Nat} {X : Nat → Nat → Int} (ha : RdA w ao 1 n ca (fun i => .int .i64 (f i))) (hv : Vs w vo n cv A L K X) (h : Fit f n L)
    (bf : ∀ i, i < n → -9223372036854775808 ≤ f i ∧ f i ≤ 9223372036854775807) (bX : ∀ i j, i < n → j < L 0 → -128 ≤ X i j ∧ X i j ≤ 127) (hL0 : L 0 ≤ 140737488351232) :
    Calls Tryd.prog 52 #[.slice ao n ca, .slice vo n cv] w fun e w' => ∃ v, e = .returned (.tuple #[v, .int .i64 0]) ∧ Own w' w.heap.size 48 1 v (L 0) (fun j => .int .i8 (bln f X n j)) ∧ Below w.heap.size w w' := by
  have hn : n ≤ 9223372036854775807 := by have := ha.le; have := ha.top; unfold maxLen at this; omega
  have hbo := blends_ok ha hv h bf
  have h0 := h.pos
  have hs := h.sum
  have hsb := tot_bd f n
  have HL := hidd h.len
  have BF := hidd bf
  have BX := hidd bX
  clear bf bX h
  go_enter Tryd.func52, Tryd.ntmps52
  go_wp2_with fail
  refine hbo.mono ?_
  rintro e w1 ⟨rfl, hf0⟩
  have hs0 := hf0.size
  replace ha := ha.fresh hf0
  replace hv := hv.fresh hf0
  clear hbo
  go_wp2
  go_loopw [8, 9] (fun v i wr => ∃ k : Nat, k ≤ L 0 ∧ i = .int .i64 k ∧ Own wr w1.heap.size 48 1 v k (fun j => .int .i8 (bln f X n j)) ∧ Below w1.heap.size w1 wr) (fun _ i _ => L 0 - (intOf i).toNat)
  case atStart => exact ⟨0, by omega, rfl, own_nil _ _ _ _ _, Below.refl _ _⟩
  case round =>
    obtain ⟨j, hj, rfl, hown, hf1⟩ := hrel
    have hsz := hf1.size
    obtain ⟨b2, o2, rfl, h2⟩ := (hv.top.fresh hf1).one h0
    have z0 := h2 0 h0
    simp only [Nat.add_zero] at z0
    have H2 := hidd h2
    clear h2
    by_cases hlt : j < L 0
    · have HR := hidd (fun i hi => (hv.row i hi).fresh hf1)
      obtain ⟨b1, o1, rfl, h1⟩ := (ha.fresh hf1).one h0
      have H1 := hidd h1
      clear h1
      go_wp2
      clear z0
      go_loopw [10, 11] (fun s i wc => ∃ t : Nat, t ≤ n ∧ i = .int .i64 t ∧ s = .int .i64 (dot f (fun i => X i j) t) ∧ Below wr.heap.size wr wc) (fun _ i _ => n - (intOf i).toNat)
      case atStart => exact ⟨0, by omega, rfl, by rw [dot_zero], Below.refl _ _⟩
      case round =>
        obtain ⟨t, ht, rfl, rfl, hfc⟩ := hrel
        by_cases hltt : t < n
        · obtain ⟨b3, o3, e3, h3⟩ := (HR.out t hltt).one (by rw [HL.out t hltt]; omega)
          have c1 := fresh_cell hfc (H1.out t hltt)
          have c2 := fresh_cell hfc (H2.out t hltt)
          have c3 := fresh_cell hfc (h3 j (by rw [HL.out t hltt]; omega))
          rw [e3, HL.out t hltt] at c2
          have bk := BF.out t hltt
          have bx := BX.out t j hltt hlt
          have E := hidd (dot_succ f (fun i => X i j) t)
          have E' := hidd (dot_succ' f (fun i => X i j) t)
          clear h3 e3
          go_wp2
          go_quiet (fail)
          go_wp2
          go_roundw
          case rel => exact ⟨t + 1, by omega, by go_num, by first | rw [E.out] | rw [E'.out], below_drewN hfc _⟩
          case measure => simp [intOf]; omega
        · have htn : t = n := by omega
          subst htn
          have bd := dot_bd f (fun i => X i j) t
          have hfd := fresh_trans hf1 hfc
          have ho := hown.kept hfc
          have hsd := hfd.size
          have bq := dvr_bd (dot f (fun i => X i j) t) (tot f t) bd.1 bd.2
          clear hown hf1 hfc
          go_wp2_with fail
          refine (div_ref _ _ _ bd.1 bd.2 (by omega) (by omega)).mono ?_
          rintro e w2 ⟨rfl, hw2⟩
          rw [hw2]
          clear hw2
          go_wp2_with fail
          refine (clamp8_ref _ _ bq.1 bq.2).mono ?_
          rintro e w2 ⟨rfl, hw2⟩
          rw [hw2]
          clear hw2
          go_wp2_with (at_builtin; refine wpList_app1 _ rfl _ _ 26 rfl _ 48 (.int .i8 0) 1 Tryd.underlying26 infoI8 rfl _ j _ rfl (ho.kept (fresh_alloc _ _)) _ 1 rfl (new_cell _ _ _) rfl (by omega) (by omega) (by simp; omega) ?_)
          intro v' w6 hown' happ
          have hf6 := happ.below (hfd.alloc hsd _) (ho.kept (fresh_alloc _ _)) (Nat.le_refl _) (by simp; omega)
          clear happ ho hfd
          go_wp2
          go_roundw
          case rel => exact ⟨j + 1, by omega, by go_num, hown', hf6⟩
          case measure => simp [intOf]; omega
    · have hjL : j = L 0 := by omega
      rw [hjL] at hown
      go_wp2
      go_ret2
      exact ⟨_, rfl, hown.weaken hs0, fresh_trans hf0 hf1⟩
end Go.Proofs.YtmcefgpejocjfaaDoor
namespace Go.Proofs.YtmcefgpejocjfaaDoor
open Go.RowKit
/-! The reference's Blend: its refusals. -/
set_option maxHeartbeats 1000000 in
theorem blends_ne {w : World} {ao vo : Option Addr} {n m ca cv : Nat} (h : n = 0 ∨ n ≠ m) :
    Calls Tryd.prog 77 #[.slice ao n ca, .slice vo m cv] w fun e w' => (∃ x, e = .returned (.tuple #[.bool false, .int .i64 x])) ∧ Below w.heap.size w w' := by
  by_cases h0 : n = 0
  · have hz : ((n : Int) == 0) = true := by simp [h0]
    clear h0 h
    go_enter Tryd.func77, Tryd.ntmps77
    go_wp2
    go_ret2
    exact ⟨⟨_, rfl⟩, Below.refl _ _⟩
  · have hz : ((n : Int) == 0) = false := by simp; omega
    have hne : ((n : Int) != (m : Int)) = true := by simp; omega
    clear h0 h
    go_enter Tryd.func77, Tryd.ntmps77
    go_wp2
    go_ret2
    exact ⟨⟨_, rfl⟩, Below.refl _ _⟩
set_option maxHeartbeats 1000000 in
theorem blends_bad {w : World} {ao vo : Option Addr} {n ca cv : Nat} {f : Nat → Int} {A : Nat → Option Addr} {L K : Nat → Nat} {X : Nat → Nat → Int} (ha : RdA w ao 1 n ca (fun i => .int .i64 (f i))) (hv : Vs w vo n cv A L K X) (h0 : 0 < n) (h : ¬ Fit f n L)
    (bf : ∀ i, i < n → -9223372036854775808 ≤ f i ∧ f i ≤ 9223372036854775807) :
    Calls Tryd.prog 77 #[.slice ao n ca, .slice vo n cv] w fun e w' => (∃ x, e = .returned (.tuple #[.bool false, .int .i64 x])) ∧ Below w.heap.size w w' := by
  have hn : n ≤ 9223372036854775807 := by have := ha.le; have := ha.top; unfold maxLen at this; omega
  have hout : Hid ((∀ i, i < n → L i = L 0 ∧ 0 ≤ f i) → ¬ 1 ≤ tot f n) := fun a c => h ⟨h0, fun i hi => (a i hi).1, fun i hi => (a i hi).2, c⟩
  have BF := hidd bf
  have hz : ((n : Int) == 0) = false := by simp; omega
  have hne : ((n : Int) != (n : Int)) = false := by simp
  clear bf h
  go_enter Tryd.func77, Tryd.ntmps77
  go_wp2
  clear hz hne
  go_loopw [6, 7] (fun s i wr => ∃ k : Nat, k ≤ n ∧ i = .int .i64 k ∧ s = .int .i64 (tot f k) ∧ Hid (∀ i, i < k → L i = L 0 ∧ 0 ≤ f i) ∧ Below w.heap.size w wr) (fun _ i _ => n - (intOf i).toNat)
  case atStart => exact ⟨0, by omega, rfl, by rw [tot_zero], fun j hj => absurd hj (by omega), Below.refl _ _⟩
  case round =>
    obtain ⟨k, hk, rfl, rfl, HK, hf1⟩ := hrel
    by_cases hlt : k < n
    · obtain ⟨b1, o1, rfl, h1⟩ := (ha.fresh hf1).one (by omega)
      obtain ⟨b2, o2, rfl, h2⟩ := (hv.top.fresh hf1).one (by omega)
      have c1 := h1 k hlt
      have c2 := h2 k hlt
      have c3 := h2 0 h0
      simp only [Nat.add_zero] at c3
      have bk := BF.out k hlt
      have ES := hidd (tot_succ f k)
      clear h1 h2
      by_cases hw : f k < 0
      · go_wp2
        go_quiet (fail)
        go_wp2
        go_ret2
        exact ⟨⟨_, rfl⟩, below_drewN hf1 _⟩
      · by_cases hL : L k = L 0
        · have HK' : Hid (∀ j, j < k + 1 → L j = L 0 ∧ 0 ≤ f j) := fun j hj => by
            by_cases e : j = k
            · rw [e]; exact ⟨hL, by omega⟩
            · exact HK.out j (by omega)
          rw [hL] at c2
          have hne : ((L 0 : Int) != (L 0 : Int)) = false := by simp
          clear hL HK
          go_wp2
          go_quiet (fail)
          go_wp2
          go_roundw
          case rel => exact ⟨k + 1, by omega, by go_num, by rw [ES.out], HK', below_drewN hf1 _⟩
          case measure => simp [intOf]; omega
        · have hne : ((L k : Int) != (L 0 : Int)) = true := by simp; omega
          clear hL
          go_wp2
          go_quiet (fail)
          go_wp2
          go_ret2
          exact ⟨⟨_, rfl⟩, below_drewN hf1 _⟩
    · have hkn : k = n := by omega
      subst hkn
      have hq := hout.out HK.out
      have hd : decide (1 ≤ tot f k) = false := by simp; omega
      go_wp2
      go_ret2
      exact ⟨⟨_, rfl⟩, hf1⟩
set_option maxHeartbeats 1000000 in
theorem blend_rbad {w : World} {ao vo : Option Addr} {n m ca cv : Nat} {f : Nat → Int} {A : Nat → Option Addr} {L K : Nat → Nat} {X : Nat → Nat → Int} (ha : RdA w ao 1 n ca (fun i => .int .i64 (f i))) (hv : Vs w vo m cv A L K X) (h : n = 0 ∨ n ≠ m ∨ ¬ Fit f n L)
    (bf : ∀ i, i < n → -9223372036854775808 ≤ f i ∧ f i ≤ 9223372036854775807) :
    Calls Tryd.prog 52 #[.slice ao n ca, .slice vo m cv] w fun e w' => e = .returned (.tuple #[.slice none 0 0, .int .i64 30]) ∧ Below w.heap.size w w' := by
  have hbo : Calls Tryd.prog 77 #[.slice ao n ca, .slice vo m cv] w fun e w' => (∃ x, e = .returned (.tuple #[.bool false, .int .i64 x])) ∧ Below w.heap.size w w' := by
    by_cases h1 : n = 0 ∨ n ≠ m
    · exact blends_ne h1
    · have e : n = m := by omega
      have hF : ¬ Fit f n L := by
        rcases h with h | h | h
        · exact absurd (Or.inl h) h1
        · exact absurd (Or.inr h) h1
        · exact h
      subst e
      exact blends_bad ha hv (by omega) hF bf
  go_enter Tryd.func52, Tryd.ntmps52
  go_wp2_with fail
  refine hbo.mono ?_
  rintro e w1 ⟨⟨x, rfl⟩, hf1⟩
  clear hbo
  go_wp2
  go_ret2
  exact ⟨rfl, hf1⟩
end Go.Proofs.YtmcefgpejocjfaaDoor
