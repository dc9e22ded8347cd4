import Derived.Test.YtlbmgknlbhakoaaTxK
namespace Go.Proofs.Ytlbmgknlbhakoaa
open Go.RowKit
/-! A stream behind its making; TextLate. -/
theorem vd_byt {d : VD} (hB : ∀ i, i < d.nb → 0 ≤ d.B i ∧ d.B i ≤ 255) : ∀ k, Byt (d.pc k) := by
  intro k
  induction k using Nat.strongRecOn with
  | _ k ih =>
    rw [VD.pc]
    split
    · exact byt_nil
    · split
      · rename_i h0 h
        intro x hx
        simp at hx
        subst hx
        exact hB (k - 1) (by omega)
      · split
        · rename_i h1 h2 h3
          exact (ih _ h3.1).app (ih _ h3.2)
        · exact byt_nil
theorem feed_any {w : World} {S : Nat} {K : Nat → Prop} {d : VD} {sts : List (List Int)} {wv : Value} {x : List Int} {o : Bool} (hC : Cst d sts) (hS : StA w S K d sts wv x o) (st : Stl sts x o)
    {ko : Option Addr} {ck n : Nat} {ts : List Nat} (en : ts.length = n) (hk : RdA w ko 1 n ck (fun i => .int .i64 ((ts.getD i 0 : Nat) : Int))) (hko : ∀ b off, ko = some ⟨b, off, none⟩ → wv.ownBlock ≠ some b ∧ b ≠ S) (hgd : ∀ i, i < n → ts.getD i 0 < d.nb + 1 + d.np) (hn : n ≤ 2147483700) :
    Calls Try.prog 12 #[.pointer (some ⟨S, 0, none⟩), .slice ko n ck] w fun e w' => ∃ v, e = .returned (.tuple #[v, .int .i64 0]) ∧ Fed w S K d sts wv x o ts v w' := by
  subst en
  cases o with
  | true =>
    refine (feed_over hC hS hk hgd hn).mono ?_
    rintro e w' ⟨rfl, rfl⟩
    exact ⟨_, rfl, ⟨by simpa [fdO] using ownB_nil _ _, fun b hb => by simp [Value.ownBlock] at hb, ⟨wv, by simpa [fdX, fdE] using hS, fun _ => rfl, fun h => nomatch h⟩, Chg.refl _ _⟩⟩
  | false =>
    have h18 := waN_18 hC.ok x
    have hx : waN sts x = x.length ∧ Byt x := st
    exact feed_ok hC hS hx.2 (by omega) hk hko hgd hn
/-- A stream that was made behind w1. -/
structure Sit (w1 wX : World) (S : Nat) (K : Nat → Prop) (d : VD) (sts : List (List Int)) (wv : Value) (x : List Int) (o : Bool) : Prop where
  st : StA wX S K d sts wv x o
  low : Below w1.heap.size w1 wX
  hS : w1.heap.size ≤ S
  hw : ∀ b, wv.ownBlock = some b → w1.heap.size ≤ b
theorem Sit.fresh {w1 wX wY : World} {S : Nat} {K : Nat → Prop} {d : VD} {sts : List (List Int)} {wv : Value} {x : List Int} {o : Bool} (h : Sit w1 wX S K d sts wv x o) (f : Below wX.heap.size wX wY) : Sit w1 wY S K d sts wv x o :=
  ⟨h.st.fresh f, fresh_trans h.low f, h.hS, h.hw⟩
theorem Sit.fed {w1 wX wY : World} {S : Nat} {K : Nat → Prop} {d : VD} {sts : List (List Int)} {wv v : Value} {x : List Int} {o : Bool} {ts : List Nat} (h : Sit w1 wX S K d sts wv x o) (f : Fed wX S K d sts wv x o ts v wY) : ∃ wv', Sit w1 wY S K d sts wv' (fdX d sts x o ts) (fdE d sts x o ts) ∧ (o = true → wv' = wv) ∧ (o = false → ∀ b, wv'.ownBlock = some b → wX.heap.size ≤ b ∧ v.ownBlock ≠ some b) := by
  obtain ⟨wv', hS, h1, h2⟩ := f.st
  refine ⟨wv', ⟨hS, f.below h.low h.low.size h.hS h.hw, h.hS, fun b hb => ?_⟩, h1, h2⟩
  cases o with
  | true => rw [h1 rfl] at hb; exact h.hw b hb
  | false => exact Nat.le_trans h.low.size (h2 rfl b hb).1
theorem Sit.closed {w1 wX wY : World} {S : Nat} {K : Nat → Prop} {d : VD} {sts : List (List Int)} {wv : Value} {x : List Int} {o : Bool} (h : Sit w1 wX S K d sts wv x o) (h2 : StA wY S K d sts (.slice none 0 0) [] true) (c : Chg wX wY (fun b => b = S)) : Sit w1 wY S K d sts (.slice none 0 0) [] true :=
  ⟨h2, c.below h.low h.low.size (fun b e => by have := h.hS; omega), h.hS, fun b hb => by simp [Value.ownBlock] at hb⟩
theorem stl_nil (sts : List (List Int)) : Stl sts [] true := rfl
theorem rt_good {d : VD} (hR : d.Right) (may : Bool) (T : Nat → Int) (n : Nat) : ∀ i, i < n → (rtL d may T n).getD i 0 < d.nb + 1 + d.np := fun i hi => by
  obtain ⟨z1, z2, z3⟩ := hR.cnt
  rw [rtL_get d may T hi]
  exact rtN_lt (by omega) may (T i)
set_option maxRecDepth 100000 in
set_option maxHeartbeats 8000000 in
theorem late_law {w : World} {d : VD} {bo po so lo ko : Option Addr} {cb cp cs cl ck n m : Nat} {sb : List ByteArray} {T U : Nat → Int} (hb : RdA w bo 1 d.nb cb (fun i => .int .u8 (d.B i))) (hp : RdA w po 2 d.np cp (tcs d.P d.Q)) (hB : ∀ i, i < d.nb → 0 ≤ d.B i ∧ d.B i ≤ 255)
    (hs : RdA w so 1 sb.length cs (fun i => .string (sb.getD i ByteArray.empty))) (hlen : ∀ i, i < sb.length → (sb.getD i ByteArray.empty).size ≤ 9223372036854775807)
    (hl : RdA w lo 1 n cl (fun i => .int .i64 (T i))) (hT : ∀ i, i < n → -9223372036854775808 ≤ T i ∧ T i ≤ 9223372036854775807) (hk : RdA w ko 1 m ck (fun i => .int .i64 (U i))) (hU : ∀ i, i < m → -9223372036854775808 ≤ U i ∧ U i ≤ 9223372036854775807) :
    Calls Try.prog 3 #[.agg #[.slice bo d.nb cb, .slice po d.np cp], .slice so sb.length cs, .slice lo n cl, .slice ko m ck] w fun e w' => e = .returned (.bool true) ∧ Below w.heap.size w w' := by
  have hf0 := fresh_alloc w (.cells #[.slice bo d.nb cb, .slice po d.np cp] 25)
  have q0 := row2_new w 25 (.slice bo d.nb cb) (.slice po d.np cp)
  have hn1 := Nat.le_trans hl.le hl.top
  have hm1 := Nat.le_trans hk.le hk.top
  unfold maxLen at hn1 hm1
  have HL1 := hidd (fun w' => long_any n hn1 w')
  have HL2 := hidd (fun w' => long_any m hm1 w')
  have HB := hidd hb
  have HP := hidd hp
  have HBB := hidd hB
  have HS := hidd hs
  have HLEN := hidd hlen
  have HL := hidd hl
  have HT := hidd hT
  have HK := hidd hk
  have HU := hidd hU
  clear hb hp hB hs hlen hl hT hk hU
  obtain ⟨w0, ew0⟩ : ∃ w0, w0 = w.alloc (.cells #[.slice bo d.nb cb, .slice po d.np cp] 25) := ⟨_, rfl⟩
  by_cases hn : 2147483647 < n
  · rw [decide_eq_true hn] at HL1
    go_enter Try.func3, Try.ntmps3
    go_wp2_with fail
    refine (HL1.out _).mono ?_
    rintro e w1 ⟨rfl, hw⟩
    rw [hw]
    clear hw
    go_wp2
    go_ret
    exact ⟨rfl, hf0⟩
  rw [decide_eq_false hn] at HL1
  by_cases hm : 2147483647 < m
  · rw [decide_eq_true hm] at HL2
    go_enter Try.func3, Try.ntmps3
    go_wp2_with fail
    refine (HL1.out _).mono ?_
    rintro e w1 ⟨rfl, hw⟩
    rw [hw]
    clear hw
    go_wp2_with fail
    refine (HL2.out _).mono ?_
    rintro e w1 ⟨rfl, hw⟩
    rw [hw]
    clear hw
    go_wp2
    go_ret
    exact ⟨rfl, hf0⟩
  rw [decide_eq_false hm] at HL2
  obtain ⟨k, ek⟩ : ∃ k, k = sb.length := ⟨_, rfl⟩
  have EK := hidd ek
  by_cases hRM : d.Right ∧ MaySt sb
  · have HR := hidd hRM.1
    have HM := hidd hRM.2
    have HCST : Hid (Cst d (sb.map bys)) := ⟨hRM.1, maySt_ok hRM.2, vd_byt HBB.out⟩
    have HNW : Hid (∀ w', Below w.heap.size w w' → Calls Try.prog 11 #[.agg #[.slice bo d.nb cb, .slice po d.np cp], .slice so k cs] w' fun e w'' => ∃ S K, e = .returned (.tuple #[.pointer (some ⟨S, 0, none⟩), .int .i64 0]) ∧ StA w'' S K d (sb.map bys) (.slice none 0 0) [] false ∧ Below w'.heap.size w' w'' ∧ w'.heap.size ≤ S ∧ (∀ b, K b → w'.heap.size ≤ b)) := fun w' f => by
      have := new_ok (HB.out.fresh f) (HP.out.fresh f) HR.out (HS.out.fresh f) HM.out
      rwa [← ek] at this
    rw [← ek]
    clear ek hRM
    go_enter Try.func3, Try.ntmps3
    go_wp2_with fail
    refine (HL1.out _).mono ?_
    rintro e w1 ⟨rfl, hw⟩
    rw [hw]
    clear hw
    go_wp2_with fail
    refine (HL2.out _).mono ?_
    rintro e w1 ⟨rfl, hw⟩
    rw [hw]
    clear hw
    go_wp2_with fail
    rw [← ew0] at hf0 q0 ⊢
    clear ew0
    refine (fixed_any w0).mono ?_
    rintro e w1 ⟨rfl, f1⟩
    have hF1 := fresh_trans hf0 f1
    have q1 := q0.of_block (f1.block _ q0.lt)
    clear q0 f1 hf0
    obtain ⟨y0, y1⟩ := row2 q1
    go_wp2_with fail
    refine (HNW.out w1 hF1).mono ?_
    rintro e w2 ⟨S, K, rfl, hS2, f2, hSl, _⟩
    have hsit : Sit w1 w2 S K d (sb.map bys) (.slice none 0 0) [] false := ⟨hS2, f2, hSl, fun b hb => by simp [Value.ownBlock] at hb⟩
    have q2 := q1.of_block (f2.block _ q1.lt)
    obtain ⟨x0, x1⟩ := row2 q2
    have hF2 := fresh_trans hF1 f2
    clear y0 y1 HNW hS2
    have HRT := hidd (right_any (HB.out.fresh hF2) (HP.out.fresh hF2) HR.out (HL.out.fresh hF2) HT.out (by omega) true)
    go_wp2_with fail
    refine HRT.out.mono ?_
    rintro e w3 ⟨v3, rfl, hO3, f3⟩
    have hs3 := hsit.fresh f3
    obtain ⟨a3, c3, rfl, r3⟩ := hO3.rd
    have hSlt := hsit.st.p.lt
    have HFD := hidd (feed_any HCST.out hs3.st (stl_start _) (rtL_len d true T n) r3 (fun b off e => by subst e; exact ⟨by simp [Value.ownBlock], by have := (hO3.lt b rfl).1; omega⟩) (rt_good HR.out true T n) (by omega))
    clear x0 x1 hsit HRT
    go_wp2_with fail
    refine HFD.out.mono ?_
    rintro e w4 ⟨v4, rfl, hfd⟩
    obtain ⟨wv4, hs4, _, _⟩ := hs3.fed hfd
    obtain ⟨a4, c4, rfl, _⟩ := OwnB.rda hfd.out
    have HCL := hidd (close_any hs4.st)
    obtain ⟨l4, el4⟩ : ∃ l4, l4 = (fdO d (sb.map bys) [] false (rtL d true T n)).length := ⟨_, rfl⟩
    rw [← el4]
    clear el4 HFD hfd hs3 f3 r3 hO3
    obtain ⟨aw, kw, ewv, _⟩ := OwnB.rda hs4.st.wt
    go_wp2_with fail
    refine HCL.out.mono ?_
    rintro e w5 ⟨rfl, hS5, _, hc5⟩
    have hs5 := hs4.closed hS5 hc5
    have q5 := q1.of_block (hs5.low.block _ q1.lt)
    obtain ⟨x0, x1⟩ := row2 q5
    have hF5 := fresh_trans hF1 hs5.low
    clear HCL hs4 hS5 hc5
    have HRT := hidd (right_any (HB.out.fresh hF5) (HP.out.fresh hF5) HR.out (HK.out.fresh hF5) HU.out (by omega) true)
    rw [ewv]
    obtain ⟨lw, elw⟩ : ∃ lw, lw = (fdX d (sb.map bys) [] false (rtL d true T n)).length := ⟨_, rfl⟩
    rw [← elw]
    clear elw ewv
    go_wp2_with fail
    refine HRT.out.mono ?_
    rintro e w6 ⟨v6, rfl, hO6, f6⟩
    have hs6 := hs5.fresh f6
    obtain ⟨a6, c6, rfl, r6⟩ := hO6.rd
    have hSlt5 := hs5.st.p.lt
    have HFD := hidd (feed_any HCST.out hs6.st (stl_nil _) (rtL_len d true U m) r6 (fun b off e => by subst e; exact ⟨by simp [Value.ownBlock], by have := (hO6.lt b rfl).1; omega⟩) (rt_good HR.out true U m) (by omega))
    clear x0 x1 HRT hs5
    go_wp2_with fail
    refine HFD.out.mono ?_
    rintro e w7 ⟨v7, rfl, hfd⟩
    obtain ⟨wv7, hs7, hwe, _⟩ := hs6.fed hfd
    obtain rfl := hwe rfl
    have ho7 := hfd.out
    have e7 : fdO d (sb.map bys) [] true (rtL d true U m) = [] := rfl
    rw [e7] at ho7
    have hs7' : Sit w1 w7 S K d (sb.map bys) (.slice none 0 0) [] true := hs7
    obtain ⟨a7, c7, rfl, _⟩ := OwnB.rda ho7
    have q7 := q1.of_block (hs7'.low.block _ q1.lt)
    obtain ⟨x0, x1⟩ := row2 q7
    have hF7 := fresh_trans hF1 hs7'.low
    have HSZ := hidd (psize_any (HB.out.fresh hF7) (HP.out.fresh hF7) _ (.inl ⟨HR.out, rfl⟩))
    clear HFD hfd hs6 f6 r6 hO6 hs7 ho7 e7
    go_wp2_with fail
    refine HSZ.out.mono ?_
    rintro e w8 ⟨rfl, f8⟩
    obtain ⟨Z, eZ⟩ : ∃ Z : Int, Z = ((d.nb + 1 + d.np : Nat) : Int) := ⟨_, rfl⟩
    rw [← eZ]
    have fA := fresh_alloc w8 (.cells #[.int .i64 Z] 3)
    have hs8 := (hs7'.fresh f8).fresh fA
    have HFB := hidd (feed_bad HCST.out hs8.st.p (T := fun _ => Z) (n := 1) (one_rd w8 3 (.int .i64 Z) (fun i => .int .i64 ((fun _ => Z) i)) rfl) ⟨0, by decide, by rw [eZ]; omega⟩ (by decide))
    clear x0 x1 HSZ eZ hs7' f8 fA
    go_wp2_with fail
    refine HFB.out.mono ?_
    rintro e w9 ⟨rfl, hw9⟩
    rw [hw9]
    clear hw9
    have HCL := hidd (close_any hs8.st)
    go_wp2_with fail
    refine HCL.out.mono ?_
    rintro e w10 ⟨rfl, hS10, _, hc10⟩
    have hs10 := hs8.closed hS10 hc10
    have HOV := hidd (over_any hs10.st.p)
    have hF10 := fresh_trans hF1 hs10.low
    clear HCL HFB hs8 hS10 hc10
    go_wp2_with fail
    refine HOV.out.mono ?_
    rintro e w11 ⟨rfl, hw11⟩
    rw [hw11]
    clear hw11
    go_wp2
    go_ret
    exact ⟨rfl, hF10⟩
  · have HNW : Hid (∀ w', Below w.heap.size w w' → Calls Try.prog 11 #[.agg #[.slice bo d.nb cb, .slice po d.np cp], .slice so k cs] w' fun e w'' => (∃ x, e = .returned (.tuple #[.pointer none, .int .i64 x]) ∧ x ≠ 0 ∧ (¬ d.Right → x = 50) ∧ (d.Right → x = 180)) ∧ Below w'.heap.size w' w'') := fun w' f => by
      have := new_bad (HB.out.fresh f) (HP.out.fresh f) (HS.out.fresh f) HLEN.out hRM
      rwa [← ek] at this
    rw [← ek]
    clear ek hRM
    go_enter Try.func3, Try.ntmps3
    go_wp2_with fail
    refine (HL1.out _).mono ?_
    rintro e w1 ⟨rfl, hw⟩
    rw [hw]
    clear hw
    go_wp2_with fail
    refine (HL2.out _).mono ?_
    rintro e w1 ⟨rfl, hw⟩
    rw [hw]
    clear hw
    go_wp2_with fail
    rw [← ew0] at hf0 q0 ⊢
    clear ew0
    refine (fixed_any w0).mono ?_
    rintro e w1 ⟨rfl, f1⟩
    have hF1 := fresh_trans hf0 f1
    have q1 := q0.of_block (f1.block _ q0.lt)
    clear q0 f1 hf0
    obtain ⟨y0, y1⟩ := row2 q1
    go_wp2_with fail
    refine (HNW.out w1 hF1).mono ?_
    rintro e w2 ⟨⟨x, rfl, hx, _⟩, f2⟩
    have hF2 := fresh_trans hF1 f2
    have hx1 : (x != 0) = true := by simpa using hx
    go_wp2
    go_ret
    exact ⟨rfl, hF2⟩
end Go.Proofs.Ytlbmgknlbhakoaa
