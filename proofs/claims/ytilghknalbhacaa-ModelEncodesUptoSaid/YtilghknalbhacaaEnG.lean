import Derived.Test.YtilghknalbhacaaEnE
namespace Go.Proofs.Ytilghknalbhacaa
open Go.RowKit
/-! Turns as bytes. -/
set_option maxRecDepth 20000 in
set_option maxHeartbeats 4000000 in
theorem turnR_any {w : World} {ao : Option Addr} {n cap : Nat} {C S : Nat → Int} (hr : RdA w ao 2 n cap (tcs C S)) (hn : n ≤ 1048576) :
    Calls Try.prog 80 #[.slice ao n cap] w fun e w' => ∃ v', e = .returned v' ∧ OwB w' w.heap.size v' (trL C S n) ∧ Below w.heap.size w w' := by
  have HR := hidd hr
  have hrl := hr.le
  have hrt := hr.top
  unfold maxLen at hrt
  clear hr
  have HO0 : Hid (OwB w w.heap.size (.slice none 0 0) (trL C S 0)) := own_nilB w w.heap.size
  have HF0 := hidd (Below.refl w.heap.size w)
  go_enter Try.func80, Try.ntmps80
  go_wp2
  go_loopw [3, 4] (fun v1 i wr => ∃ k : Nat, k ≤ n ∧ i = .int .i64 (k : Int) ∧ Hid (OwB wr w.heap.size v1 (trL C S k)) ∧ Hid (Below w.heap.size w wr)) (fun v1 i _ => n - (intOf i).toNat)
  case atStart => exact ⟨0, Nat.zero_le _, by simp, HO0.out, HF0.out⟩
  case round =>
    clear HO0 HF0
    obtain ⟨k, hk, rfl, HO, HB⟩ := hrel
    obtain ⟨p, uc, ev, _⟩ := HO.out.rd
    by_cases hlt : k < n
    · have i0 : (0 : Int) ≤ (k : Int) := by omega
      have i1 : (k : Int) < (n : Int) := by omega
      obtain ⟨b1, o1, rfl, hc⟩ := (HR.out.fresh HB.out).two (by omega)
      obtain ⟨d0, d1⟩ := hc k hlt
      have hw0 := u64of_wrap (C k)
      have hw1 := u64of_wrap (S k)
      have hl4 : (trL C S k).length ≤ 4194304 := by rw [trL_len]; omega
      have HO1 := HO
      have HB1 := HB
      have g1 := HB1.out.size
      have HL1 := hidd (addnum_any HO1.out g1 (by omega) (u64of_lt (C k)) (k := 2) (by decide))
      clear hc
      subst ev
      go_wp2_with fail
      refine HL1.out.mono ?_
      rintro e w2 ⟨v2, rfl, ho2, ha2⟩
      have HO2 := hidd ho2
      have HB2 := hidd (ha2.below HB1.out HO1.out (Nat.le_refl _) g1)
      have g2 := HB2.out.size
      have HL2 := hidd (addnum_any (w := w2) HO2.out g2 (by rw [List.length_append, num_len]; omega) (u64of_lt (S k)) (k := 2) (by decide))
      have d2 : w2.cell? ⟨b1, o1 + k * 2 + 1, none⟩ = some (.int .i64 (S k)) := by
        have hlt9 := lt_of_cell d1
        have hb9 := ha2.grown.block b1 hlt9 (fun q => by
          obtain ⟨b7, o7, e7, h7⟩ := HR.out.two (by omega)
          have h8 := lt_of_cell (h7 0 (by omega)).1
          injection e7 with e7
          injection e7 with e7 _
          have := (HO.out.lt b1 q.symm).1
          omega)
        exact (World.cell?_of_block (w := wr) (a := ⟨b1, o1 + k * 2 + 1, none⟩) hb9).trans d1
      clear ho2 ha2 HL1 HO1 HB1 d0 d1 hw0
      go_wp2_with fail
      refine HL2.out.mono ?_
      rintro e w3 ⟨v3, rfl, ho3, ha3⟩
      have ho9 : OwB w3 w.heap.size v3 (trL C S (k + 1)) := by rw [trL_succ]; exact ho3
      have HO3 := hidd ho9
      have HB3 := hidd (ha3.below HB2.out HO2.out (Nat.le_refl _) g2)
      clear ho3 ho9 ha3 HL2 HO2 HB2 d2 hw1
      go_wp2
      go_roundw
      case rel => exact ⟨k + 1, by omega, by go_num, HO3.out, HB3.out⟩
      case measure => simp [intOf]; omega
    · obtain rfl : k = n := by omega
      have hnl : ¬ ((k : Int) < (k : Int)) := by omega
      subst ev
      go_wp2
      go_ret
      exact ⟨_, rfl, HO.out, HB.out⟩
end Go.Proofs.Ytilghknalbhacaa
