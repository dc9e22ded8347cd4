import Derived.Test.YtjjfbpjejhjdiabDoorRkC
import Derived.Test.YtjjfbpjejhjdiabDoorPkV
namespace Go.Proofs.YtjjfbpjejhjdiabDoor
open Go.RowKit
/-! The reference's Allowed, thin. -/
theorem ldP_take {L : List (Int × Int)} {k j : Nat} (h : j < k * 2) : ldP L j = ldP (L.take k) j := by
  unfold ldP
  have : (L.take k).getD (j / 2) (0, 0) = L.getD (j / 2) (0, 0) := by
    rw [List.getD_eq_getElem?_getD, List.getD_eq_getElem?_getD, List.getElem?_take, if_pos (by omega)]
  rw [this]
set_option maxRecDepth 20000 in
set_option maxHeartbeats 800000 in
theorem allowed_ref {w : World} {bo : Option Addr} {l cl : Nat} {b : Nat → Bool} (h2 : RdA w bo 1 l cl (fun i => .bool (b i))) (t : Nat) :
    Calls Tryd.prog 34 #[.slice bo l cl, .int .i64 (t : Int)] w fun e w' => e = .returned (.bool (mayB l b t)) ∧ w' = w := by
  have hle := h2.le
  have htop := h2.top
  unfold maxLen at htop
  by_cases h0 : l = 0
  · subst h0
    go_enter Tryd.func34, Tryd.ntmps34
    go_wp2
    go_ret
    exact ⟨ret_bool (by simp [mayB]), rfl⟩
  · have hd : ((l : Int) == 0) = false := by simpa using h0
    by_cases hlt : t < l
    · obtain ⟨b1, o1, rfl, hc⟩ := h2.one (by omega)
      have d := hc t hlt
      have t0 : (0 : Int) ≤ (t : Int) := by omega
      have t1 : (t : Int) < (l : Int) := by omega
      have e1 : mayB l b t = b t := by simp [mayB, h0, hlt]
      rw [e1]
      clear hc h2
      go_enter Tryd.func34, Tryd.ntmps34
      go_wp2
      go_ret
      exact ⟨rfl, rfl⟩
    · have t1 : ¬ (t : Int) < (l : Int) := by omega
      have e1 : mayB l b t = false := by simp [mayB, h0, hlt]
      rw [e1]
      go_enter Tryd.func34, Tryd.ntmps34
      go_wp2
      go_ret
      exact ⟨rfl, rfl⟩
set_option maxRecDepth 20000 in
set_option maxHeartbeats 1600000 in
theorem thin_ref {w : World} {base c : Nat} {u : Option Addr} {L : List (Int × Int)} (h : PL w base u c L) (hn : L.length ≤ 1048576) (hbd : ∀ x ∈ L, 0 ≤ x.2 ∧ x.2 ≤ 65536) (tp : Int) (t0 : 1 ≤ tp) (t1 : tp ≤ 1000) :
    Calls Tryd.prog 37 #[.slice u L.length c, .int .i64 tp] w fun e w' => ∃ v c', e = .returned (.slice v (L.take (cutN (goalOf tp L) L)).length c') ∧ PL w' w.heap.size v c' (L.take (cutN (goalOf tp L) L)) ∧ Below w.heap.size w w' := by
  have hles := Own.les h
  have HL := hidd h
  have hG := goal_le (tp := tp) hbd t1
  have HP : Hid (∀ k, k < L.length → pre L (k + 1) = pre L k + (L.getD k (0, 0)).2) := fun k hk => pre_succ L k hk
  have HB : Hid (∀ k, k ≤ L.length → 0 ≤ pre L k ∧ pre L k ≤ 68719476736) := fun k hk => by
    have := pre_bd hbd (k := k) hk
    omega
  have HW : Hid (∀ k, k < L.length → 0 ≤ (L.getD k (0, 0)).2 ∧ (L.getD k (0, 0)).2 ≤ 65536) := fun k hk => hbd _ (getD_mem hk)
  have HS : Hid (∀ k, k ≤ L.length → (∀ j, j < k → pre L j * 1000 < tp * pre L L.length) → (k = L.length ∨ tp * pre L L.length ≤ pre L k * 1000) → cutN (goalOf tp L) L = k) := fun k hk h1 h2 => by
    refine cutN_eq ⟨hk, h1, ?_⟩
    rcases h2 with rfl | h2
    · exact hG
    · exact h2
  have hS := HB.out L.length (Nat.le_refl _)
  have hGb : 0 ≤ tp * pre L L.length ∧ tp * pre L L.length ≤ 68719476736000 := by
    constructor
    · exact Int.mul_nonneg (by omega) hS.1
    · unfold goalOf at hG
      omega
  have wG : IntKind.i64.wrap (tp * pre L L.length) = tp * pre L L.length := by rw [IntKind.wrap_i64]; omega
  have hP0 : pre L 0 = 0 := pre_zero _
  have HLD : Hid (∀ k, ldP L (k * 2) = .int .i64 (L.getD k (0, 0)).1 ∧ ldP L (k * 2 + 1) = .int .i64 (L.getD k (0, 0)).2) := fun k => ldP_at L k
  clear h hbd hG
  generalize hSS : pre L L.length = S at *
  have HSS := hidd hSS
  clear hSS
  go_enter Tryd.func37, Tryd.ntmps37
  go_wp2
  go_loopw [5, 6] (fun v i wz => ∃ k : Nat, k ≤ L.length ∧ i = .int .i64 (k : Int) ∧ v = .int .i64 (pre L k) ∧ wz = w) (fun _ i _ => L.length - (intOf i).toNat)
  case atStart => exact ⟨0, Nat.zero_le _, by simp, by rw [hP0], rfl⟩
  case round =>
    obtain ⟨k, hk, rfl, rfl, hwe⟩ := hrel
    rw [hwe]
    clear hwe
    by_cases hlt : k < L.length
    · obtain ⟨g, rfl, g1, g2, g3, g4⟩ := PL.cells HL.out (by omega)
      obtain ⟨d0, d1⟩ := g3 k hlt
      have b1 := HW.out k hlt
      have b2 := HB.out k hk
      have hs := HP.out k hlt
      clear g3 g4
      generalize (L.getD k (0, 0)).1 = tk at *
      generalize (L.getD k (0, 0)).2 = wk at *
      have HQ := hidd hs
      clear hs
      have i0 : (0 : Int) ≤ (k : Int) := by omega
      have i1 : (k : Int) < (L.length : Int) := by omega
      go_wp2
      go_roundw
      case rel => exact ⟨k + 1, by omega, by go_num, by rw [HQ.out], by first | rfl | trivial⟩
      case measure => simp [intOf]; omega
    · obtain rfl : k = L.length := by omega
      rw [HSS.out]
      go_wp2
      go_loopw [7, 8, 9] (fun v x i wz => ∃ k : Nat, k ≤ L.length ∧ i = .int .i64 (k : Int) ∧ x = .int .i64 (pre L k) ∧ Hid (∀ j, j < k → pre L j * 1000 < tp * S) ∧ Own wz w.heap.size 36 2 v k (ldP L) ∧ Below w.heap.size w wz) (fun _ _ i _ => L.length - (intOf i).toNat)
      case atStart => exact ⟨0, Nat.zero_le _, by simp, by rw [hP0], fun j hj => absurd hj (by omega), own_nil _ _ _ _ _, Below.refl _ _⟩
      case round =>
        obtain ⟨k, hk2, rfl, rfl, HJ, ho, hz⟩ := hrel
        have b2 := HB.out k hk2
        obtain ⟨v', c', rfl, hrd⟩ := ho.rd
        have hsz := hz.size
        by_cases hlt : k < L.length
        · have i0 : (0 : Int) ≤ (k : Int) := by omega
          have i1 : (k : Int) < (L.length : Int) := by omega
          by_cases q : pre L k * 1000 < tp * S
          · obtain ⟨g, rfl, g1, g2, g3, g4⟩ := PL.cells (HL.out.kept hz) (by omega)
            obtain ⟨d0, d1⟩ := g3 k hlt
            obtain ⟨q0, q1⟩ := HLD.out k
            have b1 := HW.out k hlt
            have hs := HP.out k hlt
            clear g3 g4
            generalize (L.getD k (0, 0)).1 = tk at *
            generalize (L.getD k (0, 0)).2 = wk at *
            have HQ := hidd hs
            have HQ2 := hidd q
            have HO := hidd ho
            clear hs hrd
            have HX : Hid (∀ (w0 : World) (t : TypeId) (j : Nat), j < 1 * 2 → (w0.alloc (.cells #[.int .i64 tk, .int .i64 wk] t)).cell? ⟨w0.heap.size, j, none⟩ = some (ldP L (k * 2 + j))) := fun w0 t j hj => by
              match j, hj with
              | 0, _ => show _ = some (ldP L (k * 2)); rw [q0]; simp
              | 1, _ => rw [q1]; simp
            have HONE : Hid (∀ j, j < 1 * 2 → (ldP L (k * 2 + j)).oneCell' = true) := fun j hj => by
              match j, hj with
              | 0, _ => show (ldP L (k * 2)).oneCell' = true; rw [q0]; rfl
              | 1, _ => rw [q1]; rfl
            have HO3 : Hid (∀ o, Own ((wr).alloc o) w.heap.size 36 2 (.slice v' k c') k (ldP L)) := fun o => HO.out.kept (fresh_alloc _ _)
            clear q0 q1
            go_wp2_with (at_builtin; refine wpList_app _ rfl _ _ 29 rfl w.heap.size 36 (.agg #[.int .i64 0, .int .i64 0]) 2 16 Tryd.underlying29 infoCh rfl (by decide) _ k (ldP L) rfl (HO3.out _) _ 1 1 rfl (HX.out _ _) HONE.out (by decide) (by unfold maxLen; omega) (by omega) (by simp; omega) ?_)
            intro v9 w9 ho9 ha9
            have hw9 := ha9.below (hz.alloc hsz _) (HO3.out _) (Nat.le_refl _) (by simp; omega)
            go_wp2
            go_roundw
            case rel => exact ⟨k + 1, by omega, by go_num, by rw [HQ.out], fun j hj => (by
              by_cases e : j = k
              · rw [e]; exact HQ2.out
              · exact HJ.out j (by omega)), ho9, hw9⟩
            case measure => simp [intOf]; omega
          · have HM := hidd (HS.out k hk2 HJ.out (.inr (by omega)))
            clear HS
            go_wp2
            go_ret
            have e9 := HM.out
            rw [e9]
            simp only [Nat.min_eq_left hk2]
            refine ⟨v', c', rfl, ?_, hz⟩
            unfold PL
            rw [List.length_take, Nat.min_eq_left hk2]
            exact ho.congr (fun j hj => ldP_take hj)
        · have hkl : k = L.length := by omega
          have HM := hidd (HS.out k hk2 HJ.out (.inl hkl))
          have i1 : ¬ (k : Int) < (L.length : Int) := by omega
          clear HS hkl
          go_wp2
          go_ret
          have e9 := HM.out
          rw [e9]
          simp only [Nat.min_eq_left hk2]
          refine ⟨v', c', rfl, ?_, hz⟩
          unfold PL
          rw [List.length_take, Nat.min_eq_left hk2]
          exact ho.congr (fun j hj => ldP_take hj)
end Go.Proofs.YtjjfbpjejhjdiabDoor
