import Derived.Test.YtaalinlggjimcaaFD
namespace Go.Proofs.Ytaalinlggjimcaa
open Go.RowKit
/-! Keep, where all is known. -/
set_option maxRecDepth 100000 in
set_option maxHeartbeats 4000000 in
theorem keep_known {w : World} {c : Ca} {A : Nat → Prop} {L : List Nd} {N : Nat} (h : CacheAt w c A L N) (hN : N ≤ 4611686018427387904) {cb nb Y W S : Nat} {cnt : Nat → Nat} {num : Nat → Int} (hp : PoolAt w c.pg cb nb Y W c.B S cnt num)
    {to : Option Addr} {T cap : Nat} {t : Nat → Int} (ht : RdA w to 1 T cap (fun i => .int .i64 (t i))) (hfit : ∀ i, i < T → fits (t i)) {bo : Option Addr} {m bcap : Nat} {gn : Nat → Nat} (hb : RdA w bo 1 m bcap (fun i => .int .i64 (gn i : Int))) (hbo : bo = none → bcap = 0) (hbp : ∀ a, bo = some a → ∃ bb, a = ⟨bb, 0, none⟩)
    {n : Nat} (hn : n = T / c.S) (hnm : n ≤ m) (hnB : n ≤ c.B) (hblk : ∀ i, i < n → gn i < c.B) (hc0 : ∀ i, i < n → cnt (gn i) ≠ 0) (hk : ∀ k b o, Long c.C L (pcL t c.S n) k b o → k = n) :
    Calls Try.prog 12 #[.pointer (some ⟨c.C, 0, none⟩), .slice to T cap, .slice bo m bcap] w fun e w' => e = .returned (.int .i64 0) ∧ CacheAt w' c A (useL L (pcL t c.S n) (N + 1)) (N + 1) ∧ Chg w w' A := by
  obtain ⟨_, c1, _, _, _, c24, _⟩ := h.cells
  obtain ⟨hS1, hS2⟩ := h.well.hS
  obtain ⟨hB1, hB2⟩ := h.well.hB
  have hT : T ≤ 9223372036854775807 := by have := ht.le; have := ht.top; unfold maxLen at this; omega
  have hbc := hb.le
  have hbt : bcap ≤ 9223372036854775807 := by have := hb.top; unfold maxLen at this; omega
  have hnS : n * c.S ≤ T := by rw [hn]; exact Nat.div_mul_le_self T c.S
  have hz : ¬ (c.S : Int) = 0 := by omega
  have hq : ((T : Int).tdiv (c.S : Int)) = (n : Int) := by rw [Int.tdiv_eq_ediv_of_nonneg (by omega), hn]; push_cast; rfl
  have hdiv : n ≤ T := by rw [hn]; exact Nat.div_le_self _ _
  have HIN : Hid (Calls Try.prog 39 #[.pointer (some ⟨c.C, 0, none⟩), .slice bo n bcap] w fun e w' => e = .returned (.bool true) ∧ w' = w) := by
    refine (areInUse_any h hp (bo := bo) (m := n) (cap := bcap) (g := fun i => (gn i : Int)) ⟨by omega, hb.top, fun hn0 => ?_⟩).mono ?_
    · obtain ⟨b, off, e, hc⟩ := hb.one (by omega)
      exact ⟨b, off, e, fun j hj => by have := hc j (by omega); simpa using this⟩
    · rintro e w' ⟨⟨r, rfl, hr⟩, hw⟩
      refine ⟨?_, hw⟩
      rw [hr.2 (fun i hi => by rw [cntI_nat cnt (hblk i hi)]; exact hc0 i hi)]
  have HCUT := hidd (cut_any (most := n) ht h.well.hS (by omega) (show n = min (T / c.S) n by rw [← hn]; omega))
  have HNB : Hid (∀ (Z : World) (ao : Option Addr) (cc : Nat), cc ≤ bcap → Below w.heap.size w Z → Calls Try.prog 40 #[.pointer (some ⟨c.C, 0, none⟩), .slice ao 0 cc] Z fun e w' => e = .returned (.bool true) ∧ Below Z.heap.size Z w') := fun Z ao cc hcc hZ => by
    refine (areNobodys_any (h.fresh hZ) (bo := ao) (m := 0) (cap := cc) (g := fun i => gn i) ⟨by omega, by unfold maxLen; omega, fun h0 => absurd h0 (by omega)⟩ (fun i hi => absurd hi (by omega))).mono ?_
    rintro e w' ⟨⟨r, rfl, hr⟩, hf⟩
    exact ⟨by rw [hr.2 ⟨fun i hi => absurd hi (by omega), fun i j _ hj => absurd hj (by omega)⟩], hf⟩
  have HH := hidd h
  have HK := hidd hk
  have HF := hidd hfit
  have d1 : ¬ (m : Int) < (n : Int) := by omega
  have d2 : ¬ (c.B : Int) < (n : Int) := by omega
  have e1 : decide ((m : Int) < (n : Int)) = false := by simpa using d1
  have e2 : decide ((c.B : Int) < (n : Int)) = false := by simpa using d2
  have k2 : (n : Int) ≤ (bcap : Int) := by omega
  have k0 : (0 : Int) ≤ (n : Int) := by omega
  clear h hp hk hn ht
  cases bo with
  | none =>
    have hb0 : bcap = 0 := hbo rfl
    obtain rfl : m = 0 := by omega
    obtain rfl : bcap = 0 := hb0
    obtain rfl : n = 0 := by omega
    go_enter Try.func12, Try.ntmps12
    go_wp2_with (first
      | (go_at_call 39; refine HIN.out.mono ?_; rintro e w9 ⟨rfl, h9⟩; rw [h9]; clear h9)
      | (go_at_call 36; refine HCUT.out.mono ?_; rintro e w5 ⟨g5, rfl, r5, hg5, f5⟩; have LGC := longest_any (HH.out.fresh f5) (pcL_len t c.S 0).symm (pcL_text HF.out hnS r5) (by omega) ⟨Nat.le_refl _, by unfold maxLen; omega⟩)
      | (go_at_call 35; refine LGC.mono ?_; rintro e w6 ⟨⟨k, b, o, rfl, hkn, hadr, hno⟩, f6⟩; obtain rfl : k = 0 := HK.out k b o ⟨by rw [pcL_len]; exact hkn, hadr, fun j h1 h2 => hno j h1 (by rw [pcL_len] at h2; exact h2)⟩; have f56 := fresh_trans f5 f6; obtain ⟨a0, _, _⟩ := (HH.out.fresh f56).adr hadr; rw [List.length_take, pcL_len, Nat.min_self] at a0; have HNB6 := HNB.out w6; have HAD := hidd hadr; clear hadr hno)
      | (go_at_call 40; refine (HNB6 _ _ (by omega) f56).mono ?_; rintro e w7 ⟨rfl, f7⟩; have a07 := fresh_cell f7 a0; have HUSE := hidd (use_any (HH.out.fresh (fresh_trans f56 f7)) hN HAD.out)))
    clear HIN HCUT LGC HNB6 HNB a0 r5
    go_loopw [9, 10] (fun v vi wr => v = .pointer (some ⟨b, o, none⟩) ∧ vi = .int .i64 0 ∧ wr = w7) (fun _ _ _ => 0)
    case atStart => exact ⟨rfl, rfl, rfl⟩
    case round =>
      obtain ⟨rfl, rfl, rfl⟩ := hrel
      go_wp2_with (go_at_call 37; refine HUSE.out.mono ?_; rintro e w8 ⟨rfl, C8, G8⟩)
      go_ret
      refine ⟨rfl, ?_, Chg.pre (fresh_trans f56 f7) G8⟩
      have : (pcL t c.S 0).take 0 = pcL t c.S 0 := by rw [pcL_take _ _ (Nat.le_refl _)]
      rw [this] at C8
      exact C8
  | some a =>
    obtain ⟨bb, rfl⟩ := hbp a rfl
    by_cases k3 : bcap = n
    · obtain rfl : n = bcap := k3.symm
      go_enter Try.func12, Try.ntmps12
      go_wp2_with (first
        | (go_at_call 39; refine HIN.out.mono ?_; rintro e w9 ⟨rfl, h9⟩; rw [h9]; clear h9)
        | (go_at_call 36; refine HCUT.out.mono ?_; rintro e w5 ⟨g5, rfl, r5, hg5, f5⟩; have LGC := longest_any (HH.out.fresh f5) (pcL_len t c.S n).symm (pcL_text HF.out hnS r5) (by omega) ⟨Nat.le_refl _, by unfold maxLen; omega⟩)
        | (go_at_call 35; refine LGC.mono ?_; rintro e w6 ⟨⟨k, b, o, rfl, hkn, hadr, hno⟩, f6⟩; obtain rfl : k = n := HK.out k b o ⟨by rw [pcL_len]; exact hkn, hadr, fun j h1 h2 => hno j h1 (by rw [pcL_len] at h2; exact h2)⟩; have f56 := fresh_trans f5 f6; obtain ⟨a0, _, _⟩ := (HH.out.fresh f56).adr hadr; rw [List.length_take, pcL_len, Nat.min_self] at a0; have HNB6 := HNB.out w6; have HAD := hidd hadr; clear hadr hno)
        | (go_at_call 40; refine (HNB6 _ _ (by omega) f56).mono ?_; rintro e w7 ⟨rfl, f7⟩; have a07 := fresh_cell f7 a0; have HUSE := hidd (use_any (HH.out.fresh (fresh_trans f56 f7)) hN HAD.out)))
      clear HIN HCUT LGC HNB6 HNB a0 r5
      go_loopw [9, 10] (fun v vi wr => v = .pointer (some ⟨b, o, none⟩) ∧ vi = .int .i64 (k : Int) ∧ wr = w7) (fun _ _ _ => 0)
      case atStart => exact ⟨rfl, rfl, rfl⟩
      case round =>
        obtain ⟨rfl, rfl, rfl⟩ := hrel
        go_wp2_with (go_at_call 37; refine HUSE.out.mono ?_; rintro e w8 ⟨rfl, C8, G8⟩)
        go_ret
        refine ⟨rfl, ?_, Chg.pre (fresh_trans f56 f7) G8⟩
        have : (pcL t c.S k).take k = pcL t c.S k := by rw [pcL_take _ _ (Nat.le_refl _)]
        rw [this] at C8
        exact C8
    · have k4 : ¬ n = bcap := fun e => k3 e.symm
      go_enter Try.func12, Try.ntmps12
      go_wp2_with (first
        | (go_at_call 39; refine HIN.out.mono ?_; rintro e w9 ⟨rfl, h9⟩; rw [h9]; clear h9)
        | (go_at_call 36; refine HCUT.out.mono ?_; rintro e w5 ⟨g5, rfl, r5, hg5, f5⟩; have LGC := longest_any (HH.out.fresh f5) (pcL_len t c.S n).symm (pcL_text HF.out hnS r5) (by omega) ⟨Nat.le_refl _, by unfold maxLen; omega⟩)
        | (go_at_call 35; refine LGC.mono ?_; rintro e w6 ⟨⟨k, b, o, rfl, hkn, hadr, hno⟩, f6⟩; obtain rfl : k = n := HK.out k b o ⟨by rw [pcL_len]; exact hkn, hadr, fun j h1 h2 => hno j h1 (by rw [pcL_len] at h2; exact h2)⟩; have f56 := fresh_trans f5 f6; obtain ⟨a0, _, _⟩ := (HH.out.fresh f56).adr hadr; rw [List.length_take, pcL_len, Nat.min_self] at a0; have HNB6 := HNB.out w6; have HAD := hidd hadr; clear hadr hno)
        | (go_at_call 40; refine (HNB6 _ _ (by omega) f56).mono ?_; rintro e w7 ⟨rfl, f7⟩; have a07 := fresh_cell f7 a0; have HUSE := hidd (use_any (HH.out.fresh (fresh_trans f56 f7)) hN HAD.out)))
      clear HIN HCUT LGC HNB6 HNB a0 r5
      go_loopw [9, 10] (fun v vi wr => v = .pointer (some ⟨b, o, none⟩) ∧ vi = .int .i64 (k : Int) ∧ wr = w7) (fun _ _ _ => 0)
      case atStart => exact ⟨rfl, rfl, rfl⟩
      case round =>
        obtain ⟨rfl, rfl, rfl⟩ := hrel
        go_wp2_with (go_at_call 37; refine HUSE.out.mono ?_; rintro e w8 ⟨rfl, C8, G8⟩)
        go_ret
        refine ⟨rfl, ?_, Chg.pre (fresh_trans f56 f7) G8⟩
        have : (pcL t c.S k).take k = pcL t c.S k := by rw [pcL_take _ _ (Nat.le_refl _)]
        rw [this] at C8
        exact C8
end Go.Proofs.Ytaalinlggjimcaa
