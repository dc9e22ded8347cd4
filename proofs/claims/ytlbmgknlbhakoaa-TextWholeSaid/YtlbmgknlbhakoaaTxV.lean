import Derived.Test.YtlbmgknlbhakoaaTxU
namespace Go.Proofs.Ytlbmgknlbhakoaa
open Go.RowKit
set_option maxRecDepth 100000 in
set_option maxHeartbeats 16000000 in
theorem whole_bad {w : World} {d : VD} {bo po ao ko : Option Addr} {cb cp ca ck n C : Nat} {X U : Nat → Int} (hb : RdA w bo 1 d.nb cb (fun i => .int .u8 (d.B i))) (hp : RdA w po 2 d.np cp (tcs d.P d.Q)) (hB : ∀ i, i < d.nb → 0 ≤ d.B i ∧ d.B i ≤ 255)
    (hl : RdA w ao 1 n ca (fun i => .int .u8 (X i))) (hX : ∀ i, i < n → 0 ≤ X i ∧ X i ≤ 255) (hk : RdA w ko 1 C ck (fun i => .int .i64 (U i))) (hU : ∀ i, i < C → -9223372036854775808 ≤ U i ∧ U i ≤ 9223372036854775807) (hR : ¬ d.Right) :
    Calls Try.prog 6 #[.agg #[.slice bo d.nb cb, .slice po d.np cp], .slice ao n ca, .slice ko C ck] w fun e w' => e = .returned (.bool true) ∧ Below w.heap.size w w' := by
  have hf0 := fresh_alloc w (.cells #[.slice bo d.nb cb, .slice po d.np cp] 25)
  have q0 := row2_new w 25 (.slice bo d.nb cb) (.slice po d.np cp)
  have hn1 := Nat.le_trans hl.le hl.top
  have hckC := hk.le
  have hckT := hk.top
  unfold maxLen at hn1 hckT
  have HL1 := hidd (fun w' => long_any n hn1 w')
  have HB := hidd hb
  have HP := hidd hp
  have HBB := hidd hB
  have HL := hidd hl
  have HX := hidd hX
  have HK := hidd hk
  have HU := hidd hU
  clear hb hp hB hl hX hk hU
  obtain ⟨w0, ew0⟩ : ∃ w0, w0 = w.alloc (.cells #[.slice bo d.nb cb, .slice po d.np cp] 25) := ⟨_, rfl⟩
  by_cases hn : 2147483647 < n
  · rw [decide_eq_true hn] at HL1
    go_enter Try.func6, Try.ntmps6
    go_wp2_with fail
    refine (HL1.out _).mono ?_
    rintro e w1 ⟨rfl, hw⟩
    rw [hw]
    clear hw
    go_wp2
    go_ret
    exact ⟨rfl, hf0⟩
  rw [decide_eq_false hn] at HL1
  obtain ⟨x, l, hx⟩ := d.encOut_some X n
  have HEN : Hid (∀ w', Below w.heap.size w w' → Calls Try.prog 19 #[.agg #[.slice bo d.nb cb, .slice po d.np cp], .slice ao n ca] w' fun e w'' => ∃ v, e = .returned (.tuple #[v, .int .i64 x]) ∧ OwnI w'' w'.heap.size v l ∧ Below w'.heap.size w' w'') := fun w' f => penc_any (HB.out.fresh f) (HP.out.fresh f) HBB.out (HL.out.fresh f) HX.out (by omega) x l hx
  have HNW : Hid (∀ w', Below w.heap.size w w' → Calls Try.prog 11 #[.agg #[.slice bo d.nb cb, .slice po d.np cp], .slice none 0 0] w' fun e w'' => e = .returned (.tuple #[.pointer none, .int .i64 50]) ∧ Below w'.heap.size w' w'') := fun w' f => new_bad0 (HB.out.fresh f) (HP.out.fresh f) hR
  have hx50 : x = 50 := by
    rcases hx with ⟨_, e, _⟩ | ⟨h, _⟩ | ⟨h, _⟩
    · exact e
    · exact absurd h hR
    · exact absurd h hR
  subst hx50
  clear hR hx
  go_enter Try.func6, Try.ntmps6
  go_wp2_with fail
  refine (HL1.out _).mono ?_
  rintro e w1 ⟨rfl, hw⟩
  rw [hw]
  clear hw
  go_wp2_with fail
  rw [← ew0] at hf0 q0 ⊢
  clear ew0
  refine (fixed_any w0).mono ?_
  rintro e w1 ⟨rfl, f1⟩
  have hF1 := fresh_trans hf0 f1
  have q1 := q0.of_block (f1.block _ q0.lt)
  clear q0 f1 hf0
  obtain ⟨y0, y1⟩ := row2 q1
  go_wp2_with fail
  refine (HEN.out w1 hF1).mono ?_
  rintro e wE ⟨vE, rfl, hOE, fE⟩
  have hFE := fresh_trans hF1 fE
  have qE := q1.of_block (fE.block _ q1.lt)
  obtain ⟨z0, z1⟩ := row2 qE
  obtain ⟨aE, cE, rfl, _⟩ := Own.rd hOE
  obtain ⟨m, em⟩ : ∃ m, m = l.length := ⟨_, rfl⟩
  rw [← em]
  clear y0 y1 q1 hOE em
  go_wp2_with fail
  refine (HNW.out wE hFE).mono ?_
  rintro e w2 ⟨rfl, f2⟩
  have hF2 := fresh_trans hFE f2
  have q2 := qE.of_block (f2.block _ qE.lt)
  obtain ⟨y0, y1⟩ := row2 q2
  clear z0 z1 qE
  go_wp2_with fail
  refine (HNW.out w2 hF2).mono ?_
  rintro e w3 ⟨rfl, f3⟩
  have hF3 := fresh_trans hF2 f3
  clear y0 y1
  go_wp2
  go_ret
  exact ⟨rfl, hF3⟩
end Go.Proofs.Ytlbmgknlbhakoaa
