import Derived.Test.YtdceahebkohbjabScMk
namespace Go.Proofs.Ytdceahebkohbjab
open Go.RowKit
/-! The law's eqSeats. -/
set_option maxRecDepth 20000 in
set_option maxHeartbeats 4000000 in
theorem eqSeats_same {w : World} {ao bo : Option Addr} {n ca cb : Nat} {A B : Nat → Se} (ha : SeA w ao n ca A) (hb : SeA w bo n cb B) (he : ∀ i, i < n → er (A i) = er (B i)) :
    Calls Try.prog 16 #[.slice ao n ca, .slice bo n cb] w fun e w' => e = .returned (.bool true) ∧ Below w.heap.size w w' := by
  have hn : n ≤ 9223372036854775807 := by have := ha.rd.le; have := ha.rd.top; unfold maxLen at this; omega
  have HA := hidd ha
  have HB := hidd hb
  have HE := hidd he
  clear ha hb he
  go_enter Try.func16, Try.ntmps16
  go_wp2
  go_loopw [5] (fun i wr => ∃ k : Nat, k ≤ n ∧ i = .int .i64 k ∧ Hid (Below w.heap.size w wr)) (fun i _ => n - (intOf i).toNat)
  case atStart => exact ⟨0, by omega, rfl, Below.refl _ _⟩
  case round =>
    obtain ⟨k, hk, rfl, HF⟩ := hrel
    by_cases hlt : k < n
    · have k0 : (0 : Int) ≤ (k : Int) := by omega
      have k1 : (k : Int) < (n : Int) := by omega
      obtain ⟨b1, o1, rfl, hc1⟩ := (HA.out.fresh HF.out).rd.seat (by omega)
      obtain ⟨b2, o2, rfl, hc2⟩ := (HB.out.fresh HF.out).rd.seat (by omega)
      obtain ⟨x0, x1, x2, x3, x4⟩ := hc1 k hlt
      obtain ⟨z0, z1, z2, z3, z4⟩ := hc2 k hlt
      clear hc1 hc2
      have e := HE.out k hlt
      have q1 := (HA.out.fresh HF.out).hd k hlt
      have q2 := (HB.out.fresh HF.out).hd k hlt
      rw [← er_id e] at z0
      rw [← er_kn e] at z1
      rw [← er_ca e] at z2
      rw [← er_wa e] at z3
      rw [← er_hn e] at z4 q2
      rw [← er_H e] at q2
      have EQ := hidd (fun z : Later wr => eqI_same (q1.fresh z.fresh) (q2.fresh z.fresh))
      clear q1 q2 e
      generalize (A k).id = y0 at *
      generalize (A k).kn = y1 at *
      generalize (A k).ca = y2 at *
      generalize (A k).wa = y3 at *
      generalize (A k).hn = yn at *
      generalize (A k).ho = yo at *
      generalize (A k).hc = yc at *
      generalize (B k).ho = vo at *
      generalize (B k).hc = vc at *
      go_upto_region 6 with fail
      have l4 := later_cell x4
      have m4 := later_cell z4
      have ne := later_some wr
      refine wp_region_later (by kernel_rfl) (by kernel_rfl) ?_
      repeat (go_big_quiet_step (fail))
      go_big_quiet_step (exact later_of (EQ.out _))
      repeat (go_big_quiet_step (fail))
      refine wpQuiet_nil ?_
      rintro _ ⟨z, rfl⟩
      have HF2 := hidd (HF.out.trans (z.fresh.mono HF.out.size))
      replace x0 := later_cell x0 z
      replace x1 := later_cell x1 z
      replace x2 := later_cell x2 z
      replace x3 := later_cell x3 z
      replace z0 := later_cell z0 z
      replace z1 := later_cell z1 z
      replace z2 := later_cell z2 z
      replace z3 := later_cell z3 z
      clear l4 m4 ne EQ x4 z4 HF
      generalize z.val = w3 at *
      go_upto_region 7 with fail
      have l0 := later_cell x0
      have l1 := later_cell x1
      have l2 := later_cell x2
      have l3 := later_cell x3
      have m0 := later_cell z0
      have m1 := later_cell z1
      have m2 := later_cell z2
      have m3 := later_cell z3
      have ne := later_some w3
      refine wp_region_later (by kernel_rfl) (by kernel_rfl) ?_
      repeat (go_big_quiet_step (fail))
      refine wpQuiet_nil ?_
      rintro _ ⟨z, rfl⟩
      have HF4 := hidd (HF2.out.trans (z.fresh.mono HF2.out.size))
      clear l0 l1 l2 l3 m0 m1 m2 m3 ne x0 x1 x2 x3 z0 z1 z2 z3 HF2
      generalize z.val = w4 at *
      go_wp2
      go_roundw
      case rel => exact ⟨k + 1, by omega, by go_num, HF4⟩
      case measure => simp [intOf]; omega
    · obtain rfl : n = k := by omega
      go_wp2
      go_ret
      exact ⟨rfl, HF.out⟩
end Go.Proofs.Ytdceahebkohbjab
