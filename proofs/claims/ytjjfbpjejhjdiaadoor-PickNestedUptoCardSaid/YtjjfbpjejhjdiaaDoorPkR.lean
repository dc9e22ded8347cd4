import Derived.Test.YtjjfbpjejhjdiaaDoorPkQ
namespace Go.Proofs.YtjjfbpjejhjdiaaDoor
open Go.RowKit
/-! PickNested: the law. -/
theorem erOf_ok {p : Prm} (h : p.Ok) : erOf p = 0 := by unfold erOf; rw [if_pos h]
theorem erOf_bad {p : Prm} (h : ¬ p.Ok) : erOf p = 100 := by unfold erOf; rw [if_neg h]
theorem chA_ok {p : Prm} (h : p.Ok) (n m l : Nat) (f s : Nat → Int) (b : Nat → Bool) : chA p n m l f s b = chOf p n m l f s b := by unfold chA; rw [if_pos h]
theorem chA_bad {p : Prm} (h : ¬ p.Ok) (n m l : Nat) (f s : Nat → Int) (b : Nat → Bool) : chA p n m l f s b = [] := by unfold chA; rw [if_neg h]
set_option maxRecDepth 20000 in
set_option maxHeartbeats 3200000 in
theorem nested_law (p : Prm) {w : World} {ao so bo : Option Addr} {n ca m cb l cl : Nat} {f s : Nat → Int} {b : Nat → Bool} (h : In3 w ao so bo n ca m cb l cl f s b) (hD : Dw.Holds w) (k part : Int) :
    Calls Tryd.prog 7 #[.agg #[.int .i64 p.temp, .int .i64 p.topk, .int .i64 p.topp, .int .i64 p.pen, .int .u64 (p.seed : Int)], .slice ao n ca, .slice so m cb, .int .i64 k, .int .i64 part, .slice bo l cl] w fun e w' => e = .returned (.bool true) ∧ Below w.heap.size w w' := by
  have f1 := fresh_alloc w (.cells #[.int .i64 p.temp, .int .i64 p.topk, .int .i64 p.topp, .int .i64 p.pen, .int .u64 (p.seed : Int)] 24)
  have HWK := hidd (works_any (h.ta.fresh f1) (hD.fresh f1))
  have HP0 := hidd (PrmAt.new w p 24)
  have HI := hidd h
  obtain ⟨q, hq⟩ : ∃ q : Prm, q = ⟨p.temp, k, part, p.pen, p.seed⟩ := ⟨_, rfl⟩
  have HQN : Hid (∀ w0 : World, PrmAt (w0.alloc (.cells #[.int .i64 p.temp, .int .i64 k, .int .i64 part, .int .i64 p.pen, .int .u64 (p.seed : Int)] 24)) w0.heap.size q) := fun w0 => by
    rw [hq]
    exact PrmAt.new w0 ⟨p.temp, k, part, p.pen, p.seed⟩ 24
  have HQT : Hid (q.temp = p.temp ∧ q.pen = p.pen) := by rw [hq]; exact ⟨rfl, rfl⟩
  clear hq
  clear h hD
  go_enter Tryd.func7, Tryd.ntmps7
  go_wp2_with fail
  refine HWK.out.mono ?_
  rintro e w1 ⟨rfl, f2⟩
  have hp1 := HP0.out.fresh f2
  have F1 := hidd (fresh_trans f1 f2)
  have r0 := hp1.c0
  have r1 := hp1.c1
  have r2 := hp1.c2
  have r3 := hp1.c3
  have r4 := hp1.c4
  have n0 : w.heap.size < w1.heap.size := lt_of_cell r0
  clear hp1 f1 f2 HWK HP0
  go_wp2_with fail
  have fq := fresh_alloc w1 (.cells #[.int .i64 p.temp, .int .i64 k, .int .i64 part, .int .i64 p.pen, .int .u64 (p.seed : Int)] 24)
  have hq0 := HQN.out w1
  have F2 := hidd (fresh_trans F1.out fq)
  refine (chances_any p (HI.out.fresh F2.out)).mono ?_
  rintro e w2 ⟨u1, c1, rfl, hpa, f3⟩
  replace r0 := fresh_cell f3 (fresh_cell fq r0)
  replace r1 := fresh_cell f3 (fresh_cell fq r1)
  replace r2 := fresh_cell f3 (fresh_cell fq r2)
  replace r3 := fresh_cell f3 (fresh_cell fq r3)
  replace r4 := fresh_cell f3 (fresh_cell fq r4)
  have hq2 := hq0.fresh f3
  have t0 := hq2.c0
  have t1 := hq2.c1
  have t2 := hq2.c2
  have t3 := hq2.c3
  have t4 := hq2.c4
  have FW2 := hidd (fresh_trans F2.out f3)
  have HPA0 := hidd hpa
  have HA : Hid ((erOf p = 0 ∧ p.Ok ∧ chA p n m l f s b = chOf p n m l f s b) ∨ (erOf p = 100 ∧ chA p n m l f s b = [])) := by
    by_cases op : p.Ok
    · exact .inl ⟨erOf_ok op, op, chA_ok op _ _ _ _ _ _⟩
    · exact .inr ⟨erOf_bad op, chA_bad op _ _ _ _ _ _⟩
  have HB : Hid ((erOf q = 0 ∧ q.Ok ∧ chA q n m l f s b = chOf q n m l f s b) ∨ (erOf q = 100 ∧ chA q n m l f s b = [])) := by
    by_cases op : q.Ok
    · exact .inl ⟨erOf_ok op, op, chA_ok op _ _ _ _ _ _⟩
    · exact .inr ⟨erOf_bad op, chA_bad op _ _ _ _ _ _⟩
  clear hpa f3 hq0 hq2 fq HQN n0
  go_wp2_with fail
  refine (chances_any q (HI.out.fresh FW2.out)).mono ?_
  rintro e w3 ⟨u2, c2, rfl, hpb, f4⟩
  replace r1 := fresh_cell f4 r1
  replace r2 := fresh_cell f4 r2
  replace t1 := fresh_cell f4 t1
  replace t2 := fresh_cell f4 t2
  have HPA := hidd (HPA0.out.kept f4)
  have HPB := hidd hpb
  have FW3 := hidd (fresh_trans FW2.out f4)
  have hbl := Own.les hpb
  clear hpb f4 HPA0 r0 r3 r4 t0 t3 t4
  have HN : Hid (p.Ok → q.Ok → p.topp ≤ q.topp → (q.topk = 0 ∨ (p.topk ≠ 0 ∧ p.topk ≤ q.topk)) → (chOf p n m l f s b).length ≤ (chOf q n m l f s b).length ∧ chOf p n m l f s b = (chOf q n m l f s b).take (chOf p n m l f s b).length) := fun op oq h1 h2 => by
    have := nested op oq HQT.out.1 h1 h2 (scF p.pen f (seenB s m)) n (mayB l b)
    unfold chOf
    rw [HQT.out.2]
    exact this
  rcases HA.out with ⟨ea, op, eA⟩ | ⟨ea, eA⟩
  · rcases HB.out with ⟨eb, oq, eB⟩ | ⟨eb, eB⟩
    · rw [← eA, ← eB] at HN
      generalize chA p n m l f s b = La at *
      generalize chA q n m l f s b = Lb at *
      generalize erOf p = ep at *
      generalize erOf q = eq at *
      subst ea eb
      have HO := hidd (And.intro op oq)
      clear HA HB eA eB op oq
      by_cases g1 : q.topp < p.topp
      · go_wp2
        go_ret
        exact ⟨rfl, FW3.out⟩
      · by_cases g2 : q.topk = 0
        · have hle := HN.out HO.out.1 HO.out.2 (by omega) (.inl g2)
          clear HN
          rw [g2] at t1
          have HPK := hidd (HPB.out.take hle.1 hle.2)
          have hli : (La.length : Int) ≤ (Lb.length : Int) := by have := hle.1; omega
          have hlc : La.length ≤ c2 := by have := hle.1; omega
          clear hle
          go_wp2_with fail
          refine (eqc_any HPA.out HPK.out).mono ?_
          rintro e w4 ⟨rfl, f5⟩
          go_wp2
          go_ret
          exact ⟨rfl, fresh_trans FW3.out f5⟩
        · have d2 : (q.topk == 0) = false := by simpa using g2
          have d3 : (q.topk != 0) = true := by simpa using g2
          by_cases g3 : p.topk = 0
          · rw [g3] at r1
            clear HN
            go_wp2
            go_ret
            exact ⟨rfl, FW3.out⟩
          · have d4 : (p.topk == 0) = false := by simpa using g3
            by_cases g4 : q.topk < p.topk
            · clear HN
              go_wp2
              go_ret
              exact ⟨rfl, FW3.out⟩
            · have hle := HN.out HO.out.1 HO.out.2 (by omega) (.inr ⟨g3, by omega⟩)
              clear HN
              have HPK := hidd (HPB.out.take hle.1 hle.2)
              have hli : (La.length : Int) ≤ (Lb.length : Int) := by have := hle.1; omega
              have hlc : La.length ≤ c2 := by have := hle.1; omega
              clear hle
              go_wp2_with fail
              refine (eqc_any HPA.out HPK.out).mono ?_
              rintro e w4 ⟨rfl, f5⟩
              go_wp2
              go_ret
              exact ⟨rfl, fresh_trans FW3.out f5⟩
    · clear HN
      generalize chA p n m l f s b = La at *
      generalize chA q n m l f s b = Lb at *
      generalize erOf p = ep at *
      generalize erOf q = eq at *
      subst ea eb eB
      clear HA HB eA op
      go_wp2
      go_ret
      exact ⟨rfl, FW3.out⟩
  · clear HN
    generalize chA p n m l f s b = La at *
    generalize erOf p = ep at *
    rcases HB.out with ⟨eb, oq, eB⟩ | ⟨eb, eB⟩
    · generalize chA q n m l f s b = Lb at *
      generalize erOf q = eq at *
      subst ea eb eA
      clear HA HB eB oq
      go_wp2
      go_ret
      exact ⟨rfl, FW3.out⟩
    · generalize chA q n m l f s b = Lb at *
      generalize erOf q = eq at *
      subst ea eb eA eB
      clear HA HB
      go_wp2
      go_ret
      exact ⟨rfl, FW3.out⟩
end Go.Proofs.YtjjfbpjejhjdiaaDoor
