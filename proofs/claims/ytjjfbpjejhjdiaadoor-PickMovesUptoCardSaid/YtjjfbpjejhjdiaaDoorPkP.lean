import Derived.Test.YtjjfbpjejhjdiaaDoorPkO
namespace Go.Proofs.YtjjfbpjejhjdiaaDoor
open Go.RowKit
/-! PickMoves: the law. -/
set_option maxRecDepth 20000 in
set_option maxHeartbeats 3200000 in
theorem moves_law (p : Prm) {w : World} {ao so bo : Option Addr} {n ca m cb l cl : Nat} {f s : Nat → Int} {b : Nat → Bool} (h : In3 w ao so bo n ca m cb l cl f s b) (hD : Dw.Holds w) (y : Int) :
    Calls Tryd.prog 5 #[.agg #[.int .i64 p.temp, .int .i64 p.topk, .int .i64 p.topp, .int .i64 p.pen, .int .u64 (p.seed : Int)], .slice ao n ca, .slice so m cb, .int .i64 y, .slice bo l cl] w fun e w' => e = .returned (.bool true) ∧ Below w.heap.size w w' := by
  have f1 := fresh_alloc w (.cells #[.int .i64 p.temp, .int .i64 p.topk, .int .i64 p.topp, .int .i64 p.pen, .int .u64 (p.seed : Int)] 24)
  have HWK := hidd (works_any (h.ta.fresh f1) (hD.fresh f1))
  have HP0 := hidd (PrmAt.new w p 24)
  have HI := hidd h
  have hn := h.hn
  have hle := h.lo.le
  have htop := h.lo.top
  unfold maxLen at htop
  have y0 := Int.lt_tmod_of_pos y (show (0 : Int) < 8388608 by decide)
  have y1 := Int.tmod_lt_of_pos y (show (0 : Int) < 8388608 by decide)
  have wy : IntKind.i64.wrap (y.tmod 8388608) = y.tmod 8388608 := by rw [IntKind.wrap_i64]; omega
  clear h hD
  go_enter Tryd.func5, Tryd.ntmps5
  go_wp2_with fail
  refine HWK.out.mono ?_
  rintro e w1 ⟨rfl, f2⟩
  have hp1 := HP0.out.fresh f2
  have F1 := hidd (fresh_trans f1 f2)
  have z0 := hp1.c3
  have z1 := hp1.fz 3
  have HP2 : Hid (PrmAt (w1.setCell ⟨w.heap.size, 3, none⟩ (.int .i64 256)) w.heap.size { p with pen := 256 }) := hp1.pen 256
  have F2 : Hid (Below w.heap.size w (w1.setCell ⟨w.heap.size, 3, none⟩ (.int .i64 256))) := F1.out.setCell (Nat.le_refl _) _
  clear hp1 f1 f2 HWK HP0 F1
  go_wp2
  obtain ⟨p', hp'⟩ : ∃ p' : Prm, p' = { p with pen := 256 } := ⟨_, rfl⟩
  have HPN : Hid (p'.pen = 256) := by rw [hp']; rfl
  rw [← hp'] at HP2
  clear z0 z1 hp'
  generalize w1.setCell ⟨w.heap.size, 3, none⟩ (.int .i64 256) = W at *
  go_loopw [12, 13] (fun v i wr => ∃ k : Nat, k ≤ n ∧ i = .int .i64 (k : Int) ∧ Own wr W.heap.size 2 1 v k (fun j => .int .i64 (f j + y.tmod 8388608)) ∧ Hid (∀ j, j < k → -8388608 ≤ f j ∧ f j ≤ 8388608) ∧ Below W.heap.size W wr) (fun _ i _ => n - (intOf i).toNat)
  case atStart => exact ⟨0, Nat.zero_le _, by simp, own_nil _ _ _ _ _, fun j hj => absurd hj (by omega), Below.refl _ _⟩
  case round =>
    obtain ⟨k, hk, rfl, ho, HJ, hw⟩ := hrel
    have hsz := hw.size
    obtain ⟨v', c', rfl, hrd⟩ := ho.rd
    by_cases hlt : k < n
    · obtain ⟨b1, o1, rfl, h1⟩ := (HI.out.lo.fresh (fresh_trans F2.out hw)).one (by omega)
      have d := h1 k hlt
      have i0 : (0 : Int) ≤ (k : Int) := by omega
      have i1 : (k : Int) < (n : Int) := by omega
      have HO := hidd ho
      clear h1 ho hrd
      by_cases q1 : 8388608 < f k
      · go_wp2
        go_ret
        exact ⟨rfl, fresh_trans F2.out hw⟩
      · by_cases q2 : f k < -8388608
        · go_wp2
          go_ret
          exact ⟨rfl, fresh_trans F2.out hw⟩
        · have HQ := hidd (show -8388608 ≤ f k ∧ f k ≤ 8388608 by omega)
          have ws : IntKind.i64.wrap (f k + y.tmod 8388608) = f k + y.tmod 8388608 := by rw [IntKind.wrap_i64]; omega
          go_wp2_with (at_builtin; refine wpList_app1 _ rfl _ _ 25 rfl W.heap.size 2 (.int .i64 0) 8 Tryd.underlying25 infoW rfl _ k (fun j => .int .i64 (f j + y.tmod 8388608)) rfl (HO.out.kept (fresh_alloc _ _)) _ 1 rfl (new_cell _ _ _) rfl (by omega) (by omega) (by simp; omega) ?_)
          intro v9 w9 ho9 ha9
          have hw9 := ha9.below (hw.alloc hsz _) (HO.out.kept (fresh_alloc _ _)) (Nat.le_refl _) (by simp; omega)
          go_wp2
          go_roundw
          case rel => exact ⟨k + 1, by omega, by go_num, ho9, fun j hj => (by
            by_cases e : j = k
            · rw [e]; exact HQ.out
            · exact HJ.out j (by omega)), hw9⟩
          case measure => simp [intOf]; omega
    · obtain rfl : k = n := by omega
      have hrr := HP2.out.fresh hw
      have r0 := hrr.c0
      have r1 := hrr.c1
      have r2 := hrr.c2
      have r3 := hrr.c3
      have r4 := hrr.c4
      have FW := hidd (fresh_trans F2.out hw)
      have HOW := hidd ho
      have E2 : Hid (chA p' k 0 l (fun j => f j + y.tmod 8388608) (fun _ => 0) b = chA p' k 0 l f (fun _ => 0) b) := chA_moves p' HPN.out b HJ.out (by omega) (by omega)
      have E3 : Hid (chA p' k m l f s b = chA p' k 0 l f (fun _ => 0) b) := chA_seen p' HPN.out b
      have hI1 : In3 wr ao none bo k ca 0 0 l cl f (fun _ => 0) b := ⟨(HI.out.fresh FW.out).lo, rd_nil, (HI.out.fresh FW.out).al, HI.out.fb, hn, by omega, (HI.out.fresh FW.out).ta⟩
      have HI1 := hidd hI1
      have HJB : Hid (∀ i, i < k → -9223372036854775808 ≤ f i + y.tmod 8388608 ∧ f i + y.tmod 8388608 ≤ 9223372036854775807) := fun i hi => by
        have := HJ.out i hi
        omega
      clear hrr hw ho hrd hI1 y0 y1 wy
      go_wp2_with fail
      refine (chances_any p' HI1.out).mono ?_
      rintro e w2 ⟨u1, c1, rfl, hp1, f3⟩
      replace r0 := fresh_cell f3 r0
      replace r1 := fresh_cell f3 r1
      replace r2 := fresh_cell f3 r2
      replace r3 := fresh_cell f3 r3
      replace r4 := fresh_cell f3 r4
      have FW2 := hidd (fresh_trans FW.out f3)
      have hI2 : In3 w2 v' none bo k c' 0 0 l cl (fun j => f j + y.tmod 8388608) (fun _ => 0) b := ⟨Own.rda' (HOW.out.kept f3), rd_nil, (HI.out.fresh FW2.out).al, HJB.out, hn, by omega, (HI.out.fresh FW2.out).ta⟩
      have HI2 := hidd hI2
      have HP1 := hidd hp1
      clear hI2 hp1 f3
      go_wp2_with fail
      refine (chances_any p' HI2.out).mono ?_
      rintro e w3 ⟨u2, c2, rfl, hp2, f4⟩
      rw [E2.out] at hp2 ⊢
      replace r0 := fresh_cell f4 r0
      replace r1 := fresh_cell f4 r1
      replace r2 := fresh_cell f4 r2
      replace r3 := fresh_cell f4 r3
      replace r4 := fresh_cell f4 r4
      have HP1' := hidd (HP1.out.kept f4)
      have FW3 := hidd (fresh_trans FW2.out f4)
      have HPB := hidd hp2
      have HI3 := hidd (HI.out.fresh FW3.out)
      clear hp2 f4 HP1
      go_wp2_with fail
      refine (chances_any p' HI3.out).mono ?_
      rintro e w4 ⟨u3, c3, rfl, hp3, f5⟩
      rw [E3.out] at hp3 ⊢
      have HPA4 := hidd (HP1'.out.kept f5)
      have HPB4 := hidd (HPB.out.kept f5)
      have HPC4 := hidd hp3
      have FW4 := hidd (fresh_trans FW3.out f5)
      clear hp3 f5
      go_wp2_with fail
      refine (eqc_any HPA4.out HPB4.out).mono ?_
      rintro e w5 ⟨rfl, f6⟩
      have HPA5 := hidd (HPA4.out.kept f6)
      have HPC5 := hidd (HPC4.out.kept f6)
      have FW5 := hidd (fresh_trans FW4.out f6)
      clear f6
      go_wp2_with fail
      refine (eqc_any HPA5.out HPC5.out).mono ?_
      rintro e w6 ⟨rfl, f7⟩
      go_wp2
      go_ret
      exact ⟨rfl, fresh_trans FW5.out f7⟩
end Go.Proofs.YtjjfbpjejhjdiaaDoor
