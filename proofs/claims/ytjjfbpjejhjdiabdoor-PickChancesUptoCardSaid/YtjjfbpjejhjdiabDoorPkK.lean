import Derived.Test.YtjjfbpjejhjdiabDoorPkJ
namespace Go.Proofs.YtjjfbpjejhjdiabDoor
open Go.RowKit
/-! Chances. -/
theorem canL_mem {g : Nat → Int} {n : Nat} {M : Nat → Bool} {x : Int × Int} (h : x ∈ canL g n M) : ∃ i : Nat, i < n ∧ x = ((i : Int), g i) ∧ M i = true := by
  unfold canL at h
  obtain ⟨h1, h2⟩ := List.mem_filter.1 h
  obtain ⟨i, hi, rfl⟩ := ordL_mem.1 h1
  exact ⟨i, hi, rfl, by simpa using h2⟩
theorem canL_len (g : Nat → Int) (n : Nat) (M : Nat → Bool) : (canL g n M).length ≤ n := by
  unfold canL
  have := List.length_filter_le (fun x : Int × Int => M x.1.toNat) (ordL g n)
  rw [ordL_len] at this
  exact this
theorem topL_mem {k : Int} {A : List (Int × Int)} {x : Int × Int} (h : x ∈ topL k A) : x ∈ A := by
  unfold topL at h
  split at h
  · exact h
  · exact List.mem_of_mem_take h
theorem getD_mem {A : List (Int × Int)} {i : Nat} (h : i < A.length) : A.getD i (0, 0) ∈ A := by
  rw [List.getD_eq_getElem?_getD, List.getElem?_eq_getElem h]
  exact List.getElem_mem h
theorem thin_any (p : Prm) (ok : p.Ok) {w : World} {base c : Nat} {u : Option Addr} {A : List (Int × Int)} {wf : Nat → Int} {g : Nat → Int} {n : Nat} {M : Nat → Bool} (hA : A = canL g n M) (h : CL w base u c A wf) (hb : base ≤ w.heap.size) (hH : Holds w) (hG : 1 < base) (hn : n ≤ 1048576) (hg : ∀ i, -67108864 ≤ g i ∧ g i ≤ 67108864) :
    Calls Tryd.prog 27 #[.agg #[.int .i64 p.temp, .int .i64 p.topk, .int .i64 p.topp, .int .i64 p.pen, .int .u64 (p.seed : Int)], .slice u A.length c] w fun e w' => ∃ A' wf', e = .returned (.slice u (List.length A') c) ∧ CL w' base u c A' wf' ∧ Hid (lst A' wf' = chL p g n M) ∧ Hid (A'.length ≤ 1048576) ∧ Below base w w' := by
  have hl : A.length ≤ 1048576 := by rw [hA]; have := canL_len g n M; omega
  have fin : ∀ {Q : List (Int × Int)}, Q = chL p g n M → (Calls Tryd.prog 27 #[.agg #[.int .i64 p.temp, .int .i64 p.topk, .int .i64 p.topp, .int .i64 p.pen, .int .u64 (p.seed : Int)], .slice u A.length c] w fun e w' => ∃ A' wf', e = .returned (.slice u (List.length A') c) ∧ CL w' base u c A' wf' ∧ Hid (lst A' wf' = Q) ∧ Hid (A'.length ≤ A.length) ∧ Below base w w') → (Calls Tryd.prog 27 #[.agg #[.int .i64 p.temp, .int .i64 p.topk, .int .i64 p.topp, .int .i64 p.pen, .int .u64 (p.seed : Int)], .slice u A.length c] w fun e w' => ∃ A' wf', e = .returned (.slice u (List.length A') c) ∧ CL w' base u c A' wf' ∧ Hid (lst A' wf' = chL p g n M) ∧ Hid (A'.length ≤ 1048576) ∧ Below base w w') := fun hQ hc => hc.mono fun e w' ⟨A', wf', h1, h2, h3, h4, h5⟩ => ⟨A', wf', h1, h2, h3.out.trans hQ, Nat.le_trans h4.out hl, h5⟩
  by_cases ht : p.temp = 0
  · exact fin (by unfold chL; rw [if_pos ht, hA]) (thin_zero p ht h hb hl)
  · have hbd : ∀ i, i < (topL p.topk A).length → -67108864 ≤ ((topL p.topk A).getD i (0, 0)).2 ∧ ((topL p.topk A).getD i (0, 0)).2 ≤ 67108864 := fun i hi => by
      have h1 := topL_mem (getD_mem hi)
      rw [hA] at h1
      obtain ⟨j, _, e, _⟩ := canL_mem h1
      rw [hA, e]
      exact hg j
    have hQ : (weL p.temp (topL p.topk A)).take (cutN (goalOf p.topp (weL p.temp (topL p.topk A))) (weL p.temp (topL p.topk A))) = chL p g n M := by unfold chL; rw [if_neg ht, hA]
    by_cases hk : p.topk = 0
    · exact fin hQ (thin_all p ok ht hk rfl h hb hH hG hl hbd)
    · exact fin hQ (thin_top p ok ht hk rfl h hb hH hG hl hbd)
/-- what Chances is handed -/
structure In3 (w : World) (ao so bo : Option Addr) (n ca m cb l cl : Nat) (f s : Nat → Int) (b : Nat → Bool) : Prop where
  lo : RdA w ao 1 n ca (fun i => .int .i64 (f i))
  se : RdA w so 1 m cb (fun i => .int .i64 (s i))
  al : RdA w bo 1 l cl (fun i => .bool (b i))
  fb : ∀ i, i < n → -9223372036854775808 ≤ f i ∧ f i ≤ 9223372036854775807
  hn : n ≤ 1048576
  hm : m ≤ 4194304
  ta : Holds w
theorem In3.fresh {w w' : World} {ao so bo : Option Addr} {n ca m cb l cl : Nat} {f s : Nat → Int} {b : Nat → Bool} (h : In3 w ao so bo n ca m cb l cl f s b) (k : Below w.heap.size w w') : In3 w' ao so bo n ca m cb l cl f s b :=
  ⟨h.lo.fresh k, h.se.fresh k, h.al.fresh k, h.fb, h.hn, h.hm, h.ta.fresh k⟩
noncomputable def chOf (p : Prm) (n m l : Nat) (f s : Nat → Int) (b : Nat → Bool) : List (Int × Int) := chL p (scF p.pen f (seenB s m)) n (mayB l b)
set_option maxRecDepth 20000 in
set_option maxHeartbeats 1600000 in
theorem chances_bad (p : Prm) (bad : ¬ p.Ok) (w : World) (ao so bo : Value) :
    Calls Tryd.prog 8 #[.agg #[.int .i64 p.temp, .int .i64 p.topk, .int .i64 p.topp, .int .i64 p.pen, .int .u64 (p.seed : Int)], ao, so, bo] w fun e w' => e = .returned (.tuple #[.slice none 0 0, .int .i64 100]) ∧ Below w.heap.size w w' := by
  have HC : Hid (∀ w1, Calls Tryd.prog 22 #[.agg #[.int .i64 p.temp, .int .i64 p.topk, .int .i64 p.topp, .int .i64 p.pen, .int .u64 (p.seed : Int)]] w1 fun e w' => e = .returned (.int .i64 100) ∧ Below w1.heap.size w1 w') := fun w1 => (check_any p w1).mono fun e w' ⟨⟨er, h1, h2⟩, h3⟩ => by
    rcases h2 with ⟨o, _⟩ | ⟨_, rfl⟩
    · exact absurd o bad
    · exact ⟨h1, h3⟩
  have f1 := fresh_alloc w (.cells #[.int .i64 p.temp, .int .i64 p.topk, .int .i64 p.topp, .int .i64 p.pen, .int .u64 (p.seed : Int)] 24)
  go_enter Tryd.func8, Tryd.ntmps8
  go_wp2_with (go_at_call 22; with_reducible refine (HC.out _).mono ?_; rintro e w1 ⟨rfl, f2⟩)
  go_ret2
  exact ⟨rfl, fresh_trans f1 f2⟩
set_option maxRecDepth 20000 in
set_option maxHeartbeats 3200000 in
theorem chances_ok (p : Prm) (ok : p.Ok) {w : World} {ao so bo : Option Addr} {n ca m cb l cl : Nat} {f s : Nat → Int} {b : Nat → Bool} (h : In3 w ao so bo n ca m cb l cl f s b) :
    Calls Tryd.prog 8 #[.agg #[.int .i64 p.temp, .int .i64 p.topk, .int .i64 p.topp, .int .i64 p.pen, .int .u64 (p.seed : Int)], .slice ao n ca, .slice so m cb, .slice bo l cl] w fun e w' => ∃ u c, e = .returned (.tuple #[.slice u (chOf p n m l f s b).length c, .int .i64 0]) ∧ PL w' w.heap.size u c (chOf p n m l f s b) ∧ Below w.heap.size w w' := by
  have HC : Hid (∀ w1, Calls Tryd.prog 22 #[.agg #[.int .i64 p.temp, .int .i64 p.topk, .int .i64 p.topp, .int .i64 p.pen, .int .u64 (p.seed : Int)]] w1 fun e w' => e = .returned (.int .i64 0) ∧ Below w1.heap.size w1 w') := fun w1 => (check_any p w1).mono fun e w' ⟨⟨er, h1, h2⟩, h3⟩ => by
    rcases h2 with ⟨_, rfl⟩ | ⟨o, _⟩
    · exact ⟨h1, h3⟩
    · exact absurd ok o
  have f1 := fresh_alloc w (.cells #[.int .i64 p.temp, .int .i64 p.topk, .int .i64 p.topp, .int .i64 p.pen, .int .u64 (p.seed : Int)] 24)
  have hnl := h.lo.le
  have q0 : (w.alloc (.cells #[.int .i64 p.temp, .int .i64 p.topk, .int .i64 p.topp, .int .i64 p.pen, .int .u64 (p.seed : Int)] 24)).cell? ⟨w.heap.size, 0, none⟩ = some (.int .i64 p.temp) := by simp
  have q1 : (w.alloc (.cells #[.int .i64 p.temp, .int .i64 p.topk, .int .i64 p.topp, .int .i64 p.pen, .int .u64 (p.seed : Int)] 24)).cell? ⟨w.heap.size, 1, none⟩ = some (.int .i64 p.topk) := by simp
  have q2 : (w.alloc (.cells #[.int .i64 p.temp, .int .i64 p.topk, .int .i64 p.topp, .int .i64 p.pen, .int .u64 (p.seed : Int)] 24)).cell? ⟨w.heap.size, 2, none⟩ = some (.int .i64 p.topp) := by simp
  have q3 : (w.alloc (.cells #[.int .i64 p.temp, .int .i64 p.topk, .int .i64 p.topp, .int .i64 p.pen, .int .u64 (p.seed : Int)] 24)).cell? ⟨w.heap.size, 3, none⟩ = some (.int .i64 p.pen) := by simp
  have q4 : (w.alloc (.cells #[.int .i64 p.temp, .int .i64 p.topk, .int .i64 p.topp, .int .i64 p.pen, .int .u64 (p.seed : Int)] 24)).cell? ⟨w.heap.size, 4, none⟩ = some (.int .u64 (p.seed : Int)) := by simp
  have HI := hidd h
  have hgb : ∀ i, -67108864 ≤ scF p.pen f (seenB s m) i ∧ scF p.pen f (seenB s m) i ≤ 67108864 := fun i => scF_bd ok.n0 ok.n1 f _ i
  have hsz : 0 < w.heap.size := by have := h.ta.lt; omega
  have hnn := h.hn
  have HG := hidd hgb
  clear h hgb
  go_enter Tryd.func8, Tryd.ntmps8
  go_wp2_with (first
    | (go_at_call 22; with_reducible refine (HC.out _).mono ?_; rintro e w1 ⟨rfl, f2⟩; have F1 := hidd (fresh_trans f1 f2); have r0 := fresh_cell f2 q0; have r1 := fresh_cell f2 q1; have r2 := fresh_cell f2 q2; have r3 := fresh_cell f2 q3; have r4 := fresh_cell f2 q4; clear q0 q1 q2 q3 q4 f1 f2)
    | fail)
  refine (scores_any (HI.out.lo.fresh F1.out) (HI.out.se.fresh F1.out) HI.out.fb HI.out.hn HI.out.hm p.pen ok.n0 ok.n1).mono ?_
  rintro e w2 ⟨rfl, hrow, f3⟩
  have F2 := hidd (fresh_trans F1.out f3)
  replace r0 := fresh_cell f3 r0
  replace r1 := fresh_cell f3 r1
  replace r2 := fresh_cell f3 r2
  replace r3 := fresh_cell f3 r3
  replace r4 := fresh_cell f3 r4
  have HR := hidd hrow
  clear hrow f3
  go_wp2_with fail
  refine (allowing_any (HI.out.al.fresh F2.out)).mono ?_
  rintro e w3 ⟨rfl, hal, hlt3, f4⟩
  have F3 := hidd (fresh_trans F2.out f4)
  replace r0 := fresh_cell f4 r0
  replace r1 := fresh_cell f4 r1
  replace r2 := fresh_cell f4 r2
  replace r3 := fresh_cell f4 r3
  replace r4 := fresh_cell f4 r4
  have HR3 := hidd (HR.out.of_block (f4.block _ HR.out.lt))
  have HAL := hidd hal
  clear HR hal f4
  go_wp2_with fail
  refine (cands_any (f := scF p.pen f (seenB s m)) (rowIs_rd HR3.out (by unfold maxLen; omega)) HI.out.hn HAL.out).mono ?_
  rintro e w4 ⟨u, c, rfl, hown, f5⟩
  have F4 := hidd (fresh_trans F3.out f5)
  replace r0 := fresh_cell f5 r0
  replace r1 := fresh_cell f5 r1
  replace r2 := fresh_cell f5 r2
  replace r3 := fresh_cell f5 r3
  replace r4 := fresh_cell f5 r4
  have HCL : Hid (CL w4 w3.heap.size u c (canL (scF p.pen f (seenB s m)) n (mayB l b)) (fun _ => 0)) := hown
  have hs34 := f5.size
  clear hown f5 HR3 HAL
  go_wp2_with fail
  refine (thin_any p ok (g := scF p.pen f (seenB s m)) (n := n) (M := mayB l b) rfl HCL.out hs34 (HI.out.ta.fresh F4.out) (by have := (HI.out.ta.fresh F3.out).lt; omega) HI.out.hn HG.out).mono ?_
  rintro e w5 ⟨A', wf', rfl, hcl, HQ, HL, hb5⟩
  have hs03 := F3.out.size
  have F5 := hidd (F4.out.trans (hb5.mono hs03))
  have HCL5 := hidd hcl
  clear hcl hb5 HCL
  go_wp2_with fail
  refine (outs_any HCL5.out HL.out).mono ?_
  rintro e w6 ⟨v, c', rfl, hpl, f6⟩
  have F6 := hidd (fresh_trans F5.out f6)
  have hs05 := F5.out.size
  have e9 : lst A' wf' = chOf p n m l f s b := HQ.out
  rw [e9] at hpl ⊢
  have HPL := hidd (hpl.weaken hs05)
  clear hpl f6
  go_wp2
  go_ret2
  exact ⟨v, c', rfl, HPL.out, F6.out⟩
end Go.Proofs.YtjjfbpjejhjdiabDoor
