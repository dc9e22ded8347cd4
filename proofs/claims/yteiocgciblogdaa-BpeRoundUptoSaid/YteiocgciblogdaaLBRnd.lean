import Derived.Test.YteiocgciblogdaaVStr
import Derived.Test.YteiocgciblogdaaVLiv
import Derived.Test.YteiocgciblogdaaVBulk
namespace Go.Proofs.Yteiocgciblogdaa
open Go.RowKit
/-! BpeRound. -/
theorem RdA.map {w : World} {ao : Option Addr} {n cap : Nat} {X : Nat → Int} (h : RdA w ao 1 n cap (fun i => .int .u8 (X i))) : RdA w ao 1 ((List.range n).map X).length cap (fun j => .int .u8 (((List.range n).map X).getD j 0)) := by
  rw [show ((List.range n).map X).length = n by simp]
  exact h.congr (fun j hj => by simp [show j < n by omega])
set_option maxRecDepth 20000 in
set_option maxHeartbeats 8000000 in
theorem round_walk {w : World} {d : VD} {bo po ao : Option Addr} {cb cp n ca : Nat} {X : Nat → Int} (hb : RdA w bo 1 d.nb cb (fun i => .int .u8 (d.B i))) (hp : RdA w po 2 d.np cp (tcs d.P d.Q)) (hB : ∀ i, i < d.nb → 0 ≤ d.B i ∧ d.B i ≤ 255)
    (ha : RdA w ao 1 n ca (fun i => .int .u8 (X i))) (hX : ∀ i, i < n → 0 ≤ X i ∧ X i ≤ 255) (hn : n ≤ 1048576) (n1 : d.nb ≤ 1048576) (n2 : d.np ≤ 1048576) :
    Calls Try.prog 8 #[.agg #[.slice bo d.nb cb, .slice po d.np cp], .slice ao n ca] w fun e w' => e = .returned (.bool true) ∧ Below w.heap.size w w' := by
  obtain ⟨x, l, hx⟩ := d.encOut_some X n
  obtain ⟨y, hy⟩ : ∃ y, d.told y := by
    by_cases h : d.Right
    · exact ⟨0, .inl ⟨h, rfl⟩⟩
    · exact ⟨50, .inr ⟨h, rfl⟩⟩
  have HX := hidd hx
  have HY := hidd hy
  have HB := hidd hB
  have HXb := hidd hX
  clear hx hy hB hX
  have hf0 := fresh_alloc w (.cells #[.slice bo d.nb cb, .slice po d.np cp] 25)
  have r0 := row2_new w 25 (.slice bo d.nb cb) (.slice po d.np cp)
  go_enter Try.func8, Try.ntmps8
  go_wp2_with fail
  generalize w.alloc (.cells #[.slice bo d.nb cb, .slice po d.np cp] 25) = w1 at *
  refine (lives_any w1).mono ?_
  rintro e w2 ⟨rfl, hf2⟩
  have hF2 := fresh_trans hf0 hf2
  have r2 := r0.of_block (hf2.block _ r0.lt)
  clear r0 hf0 hf2
  obtain ⟨x0, x1⟩ := row2 r2
  go_wp2_with fail
  clear x0 x1
  refine (copyV_any (hb.fresh hF2) (hp.fresh hF2) (by omega) (by omega)).mono ?_
  rintro e w3 ⟨vb, vp, rfl, ob, op, _, hf3⟩
  obtain ⟨ab, kb, rfl, rb⟩ := ob.rd
  obtain ⟨ap, kp, rfl, rp⟩ := op.rd
  have hF3 := fresh_trans hF2 hf3
  have r3 := r2.of_block (hf3.block _ r2.lt)
  clear ob op r2 hf3 hF2
  go_wp2_with fail
  refine (pcheck_any rb rp y HY.out).mono ?_
  rintro e w4 ⟨rfl, hf4⟩
  have hF4 := fresh_trans hF3 hf4
  have r4 := r3.of_block (hf4.block _ r3.lt)
  clear rb rp r3 hf4 hF3
  obtain ⟨x0, x1⟩ := row2 r4
  go_wp2_with fail
  clear x0 x1
  refine (copyV_any (hb.fresh hF4) (hp.fresh hF4) (by omega) (by omega)).mono ?_
  rintro e w5 ⟨vb, vp, rfl, ob, op, _, hf5⟩
  obtain ⟨ab5, kb5, rfl, rb⟩ := ob.rd
  obtain ⟨ap5, kp5, rfl, rp⟩ := op.rd
  have hF5 := fresh_trans hF4 hf5
  have r5 := r4.of_block (hf5.block _ r4.lt)
  clear ob op r4 hf5 hF4
  go_wp2_with fail
  refine (copyB_any (ha.fresh hF5) (by omega)).mono ?_
  rintro e w6 ⟨vt, rfl, ot, hf6⟩
  obtain ⟨at6, kt6, rfl, rt⟩ := ot.rd
  have hF6 := fresh_trans hF5 hf6
  have r6 := r5.of_block (hf6.block _ r5.lt)
  have rb6 := rb.fresh hf6
  have rp6 := rp.fresh hf6
  clear ot r5 hf6 hF5 rb rp
  go_wp2_with fail
  refine (penc_any rb6 rp6 HB.out rt HXb.out hn x l HX.out).mono ?_
  rintro e w7 ⟨v7, rfl, hO7, hf7⟩
  have hF7 := fresh_trans hF6 hf7
  have r7 := r6.of_block (hf7.block _ r6.lt)
  obtain ⟨a7, k7, rfl, rd7⟩ := hO7.get
  clear r6 hf7 hF6 rb6 rp6 rt hO7
  obtain ⟨x0, x1⟩ := row2 r7
  go_wp2_with fail
  clear x0 x1
  refine (rcheck_any (hb.fresh hF7) (hp.fresh hF7) (by omega) y HY.out).mono ?_
  rintro e w8 ⟨rfl, hf8⟩
  have hF8 := fresh_trans hF7 hf8
  have r8 := r7.of_block (hf8.block _ r7.lt)
  have rd8 := rd7.fresh hf8
  clear r7 hf8 hF7 rd7
  obtain ⟨x0, x1⟩ := row2 r8
  rcases HX.out with ⟨hR, rfl, rfl⟩ | ⟨hR, hbad, rfl, rfl⟩ | ⟨hR, hok, rfl, rfl⟩
  · obtain rfl : y = 50 := by
      rcases HY.out with ⟨h, _⟩ | ⟨_, e⟩
      · exact absurd h hR
      · exact e
    clear rd8
    go_wp2
    go_ret
    exact ⟨rfl, hF8⟩
  · obtain rfl : y = 0 := by
      rcases HY.out with ⟨_, e⟩ | ⟨h, _⟩
      · exact e
      · exact absurd hR h
    have HS : Hid (∃ i, i < n ∧ d.odd (X i)) := by
      obtain ⟨i, hi, e⟩ := hbad
      exact ⟨i, hi, (d.tok_zero (HXb.out i hi).1).1 e⟩
    clear rd8 hbad hR
    go_wp2_with fail
    refine (strange_any (po := po) (cp := cp) (hb.fresh hF8) (ha.fresh hF8) hn n1 true ⟨fun _ => HS.out, fun _ => rfl⟩).mono ?_
    rintro e w9 ⟨rfl, hf9⟩
    have hF9 := fresh_trans hF8 hf9
    clear x0 x1
    go_wp2
    go_ret
    exact ⟨rfl, hF9⟩
  · obtain rfl : y = 0 := by
      rcases HY.out with ⟨_, e⟩ | ⟨h, _⟩
      · exact e
      · exact absurd hR h
    have HS : Hid (¬ ∃ i, i < n ∧ d.odd (X i)) := fun ⟨i, hi, h⟩ => hok i hi ((d.tok_zero (HXb.out i hi).1).2 h)
    have HD := hidd (d.enc_dec hR HXb.out hok)
    have hlen : (d.encL (d.first X n) d.np).length ≤ 1048576 := by
      have := d.encL_len (d.first X n) d.np
      rw [d.first_len] at this
      omega
    clear hR hok HX
    generalize d.encL (d.first X n) d.np = L at *
    have EM := hidd (show ((List.range n).map X).length = n by simp)
    go_wp2_with fail
    clear x0 x1
    refine (copyV_any (hb.fresh hF8) (hp.fresh hF8) (by omega) (by omega)).mono ?_
    rintro e w9 ⟨vb, vp, rfl, ob, op, _, hf9⟩
    obtain ⟨ab9, kb9, rfl, rb⟩ := ob.rd
    obtain ⟨ap9, kp9, rfl, rp⟩ := op.rd
    have hF9 := fresh_trans hF8 hf9
    have r9 := r8.of_block (hf9.block _ r8.lt)
    have rd9 := rd8.fresh hf9
    clear ob op r8 hf9 hF8 rd8
    go_wp2_with fail
    refine (pdec_any rb rp rd9 hlen 0 _ HD.out).mono ?_
    rintro e w10 ⟨v10, rfl, hO10, hf10⟩
    have hF10 := fresh_trans hF9 hf10
    have r10 := r9.of_block (hf10.block _ r9.lt)
    obtain ⟨a10, k10, rfl, re10⟩ := hO10.get
    clear rb rp r9 hf10 hF9 rd9 hO10
    obtain ⟨x0, x1⟩ := row2 r10
    go_wp2_with fail
    clear x0 x1
    refine (strange_any (po := po) (cp := cp) (hb.fresh hF10) (ha.fresh hF10) hn n1 false ⟨(fun h => nomatch h), fun h => absurd h HS.out⟩).mono ?_
    rintro e w11 ⟨rfl, hf11⟩
    have hF11 := fresh_trans hF10 hf11
    have re11 := re10.fresh hf11
    clear r10 hf11 hF10 re10
    have ht11 := (ha.fresh hF11).map
    rw [EM.out] at re11 ht11
    go_wp2_with fail
    refine (eqBytes_same re11 ht11 (fun _ _ => rfl)).mono ?_
    rintro e w12 ⟨rfl, hf12⟩
    have hF12 := fresh_trans hF11 hf12
    clear re11 ht11 hf12 hF11
    go_wp2
    go_ret
    exact ⟨rfl, hF12⟩
end Go.Proofs.Yteiocgciblogdaa
