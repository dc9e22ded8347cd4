import Derived.Test.YtjjfbpjejhjdiabDoorRkA
namespace Go.Proofs.YtjjfbpjejhjdiabDoor
open Go.RowKit
/-! The reference's order: Rank, Order. -/
set_option maxRecDepth 20000 in
set_option maxHeartbeats 1600000 in
theorem rank_ref {w : World} {ao : Option Addr} {n cap : Nat} {f : Nat → Int} (h : RdA w ao 1 n cap (fun i => .int .i64 (f i))) (hn : n ≤ 1048576) {t : Nat} (ht : t < n) :
    Calls Tryd.prog 49 #[.slice ao n cap, .int .i64 (t : Int)] w fun e w' => e = .returned (.int .i64 (rkN f n t : Nat)) ∧ Below w.heap.size w w' := by
  have HA : Hid (∀ wr, Below w.heap.size w wr → ∀ k, k < n → Calls Tryd.prog 65 #[.slice ao n cap, .int .i64 (k : Int), .int .i64 (t : Int)] wr fun e w' => e = .returned (.bool (decide (AheadP ((k : Int), f k) ((t : Int), f t)))) ∧ Below wr.heap.size wr w') := fun wr hw k hk => ahead_ref (h.fresh hw) hk ht
  have hle := h.le
  have htop := h.top
  unfold maxLen at htop
  clear h
  go_enter Tryd.func49, Tryd.ntmps49
  go_wp2
  go_loopw [5, 6] (fun v i wr => ∃ k : Nat, k ≤ n ∧ i = .int .i64 (k : Int) ∧ v = .int .i64 (rkN f k t : Nat) ∧ Below w.heap.size w wr) (fun _ i _ => n - (intOf i).toNat)
  case atStart => exact ⟨0, Nat.zero_le _, by simp, rfl, Below.refl _ _⟩
  case round =>
    obtain ⟨k, hk, rfl, rfl, hw⟩ := hrel
    by_cases hlt : k < n
    · have HC := hidd (HA.out wr hw k hlt)
      have hs := rkN_succ f k t
      have hl := rkN_le f k t
      by_cases q : AheadP ((k : Int), f k) ((t : Int), f t)
      · rw [if_pos q] at hs
        rw [decide_eq_true q] at HC
        have HS := hidd hs
        clear hs q
        go_wp2_with fail
        refine HC.out.mono ?_
        rintro e w2 ⟨rfl, f2⟩
        go_wp2
        go_roundw
        case rel => exact ⟨k + 1, by omega, by go_num, by rw [HS.out]; simp, fresh_trans hw f2⟩
        case measure => simp [intOf]; omega
      · rw [if_neg q] at hs
        rw [decide_eq_false q] at HC
        have HS := hidd hs
        clear hs q
        go_wp2_with fail
        refine HC.out.mono ?_
        rintro e w2 ⟨rfl, f2⟩
        go_wp2
        go_roundw
        case rel => exact ⟨k + 1, by omega, by go_num, by rw [HS.out]; simp, fresh_trans hw f2⟩
        case measure => simp [intOf]; omega
    · obtain rfl : k = n := by omega
      go_wp2
      go_ret
      exact ⟨rfl, hw⟩
def ordF (f : Nat → Int) (n k : Nat) : Nat → Value := fun j => .int .i64 (if sg f n j < k then (sg f n j : Int) else 0)
set_option maxRecDepth 20000 in
set_option maxHeartbeats 1600000 in
theorem order_ref {w : World} {ao : Option Addr} {n cap : Nat} {f : Nat → Int} (h : RdA w ao 1 n cap (fun i => .int .i64 (f i))) (hn : n ≤ 1048576) :
    Calls Tryd.prog 33 #[.slice ao n cap] w fun e w' => ∃ u c, e = .returned (.slice u n c) ∧ Own w' w.heap.size 3 1 (.slice u n c) n (fun j => .int .i64 (sg f n j : Nat)) ∧ Below w.heap.size w w' := by
  have HR : Hid (∀ wr, Below w.heap.size w wr → ∀ k, k < n → Calls Tryd.prog 49 #[.slice ao n cap, .int .i64 (k : Int)] wr fun e w' => e = .returned (.int .i64 (rkN f n k : Nat)) ∧ Below wr.heap.size wr w') := fun wr hw k hk => rank_ref (h.fresh hw) hn hk
  have hle := h.le
  have htop := h.top
  unfold maxLen at htop
  clear h
  go_enter Tryd.func33, Tryd.ntmps33
  go_wp2
  go_loopw [3, 4] (fun v i wr => ∃ k : Nat, k ≤ n ∧ i = .int .i64 (k : Int) ∧ Own wr w.heap.size 3 1 v k (fun _ => .int .i64 0) ∧ Below w.heap.size w wr) (fun _ i _ => n - (intOf i).toNat)
  case atStart => exact ⟨0, Nat.zero_le _, by simp, own_nil _ _ _ _ _, Below.refl _ _⟩
  case round =>
    obtain ⟨k, hk, rfl, ho, hw⟩ := hrel
    have hsz := hw.size
    obtain ⟨v', c', rfl, hrd⟩ := ho.rd
    by_cases hlt : k < n
    · have HO := hidd ho
      clear ho hrd
      go_wp2_with (at_builtin; refine wpList_app1 _ rfl _ _ 26 rfl w.heap.size 3 (.int .i64 0) 8 Tryd.underlying26 infoI rfl _ k (fun _ => .int .i64 0) rfl (HO.out.kept (fresh_alloc _ _)) _ 1 rfl (new_cell _ _ _) rfl (by omega) (by omega) (by simp; omega) ?_)
      intro v9 w9 ho9 ha9
      have hw9 := ha9.below (hw.alloc hsz _) (HO.out.kept (fresh_alloc _ _)) (Nat.le_refl _) (by simp; omega)
      go_wp2
      go_roundw
      case rel => exact ⟨k + 1, by omega, by go_num, ho9, hw9⟩
      case measure => simp [intOf]; omega
    · obtain rfl : k = n := by omega
      have hls := Own.les ho
      have HO : Hid (Own wr w.heap.size 3 1 (.slice v' k c') k (ordF f k 0)) := ho.congr (fun j hj => by unfold ordF; rw [if_neg (by omega)])
      clear ho hrd
      go_wp2
      go_loopw [5] (fun i wz => ∃ t : Nat, t ≤ k ∧ i = .int .i64 (t : Int) ∧ Hid (Own wz w.heap.size 3 1 (.slice v' k c') k (ordF f k t)) ∧ Below w.heap.size w wz) (fun i _ => k - (intOf i).toNat)
      case atStart => exact ⟨0, Nat.zero_le _, by simp, HO.out, hw⟩
      case round =>
        obtain ⟨t, ht, rfl, HT, hz⟩ := hrel
        by_cases hlt : t < k
        · obtain ⟨pz, hp, ep⟩ := sg_surj (f := f) hlt
          have er : rkN f k t = pz := by rw [← ep]; exact rkN_sg hp
          have hc := HR.out _ hz t hlt
          rw [er] at hc
          have HC := hidd hc
          have HEP := hidd ep
          clear hc er ep
          go_wp2_with fail
          refine HC.out.mono ?_
          rintro e w2 ⟨rfl, f2⟩
          obtain ⟨g, rfl, g1, g2, g3, g4⟩ := Own.at_ (HT.out.kept f2) (by omega)
          have d := g3 pz (by omega)
          have fz := g4 pz
          have HT2 := hidd (HT.out.kept f2)
          have hz2 := fresh_trans hz f2
          clear g3 g4
          have i0 : (0 : Int) ≤ (pz : Int) := by omega
          have i1 : (pz : Int) < (k : Int) := by omega
          go_wp2
          go_roundw
          case rel =>
            refine ⟨t + 1, by omega, by go_num, ?_, hz2.setCell g1 _⟩
            refine (Own.put HT2.out pz (.int .i64 (t : Int))).congr fun j hj => ?_
            unfold ordF
            by_cases e : j = pz
            · rw [if_pos e, e, HEP.out, if_pos (by omega)]
            · rw [if_neg e]
              have hne : sg f k j ≠ t := fun q => e (sg_inj (f := f) (n := k) (by omega) hp (q.trans HEP.out.symm))
              by_cases q : sg f k j < t
              · rw [if_pos q, if_pos (by omega)]
              · rw [if_neg q, if_neg (by omega)]
          case measure => simp [intOf]; omega
        · obtain rfl : t = k := by omega
          go_wp2
          go_ret
          exact ⟨v', c', rfl, HT.out.congr (fun j hj => by unfold ordF; rw [if_pos (sg_lt (by omega))]), hz⟩
end Go.Proofs.YtjjfbpjejhjdiabDoor
