import Derived.Test.YtemmghneohnigaaDoorRA
namespace Go.Proofs.YtemmghneohnigaaDoor
open Go.RowKit
/-! Print of a line whose word is known, of kind A: the ways to the error. -/
set_option maxRecDepth 20000 in
set_option maxHeartbeats 4000000 in
theorem print_badA {w : World} {k : Nat} (hk : k < 6) {c : Nat} (hc : c ≤ 6) (hW : wWd k = #[.string (strOfNums (wNm k)), .int .i64 (c : Int), .func (.func 59) #[] #[], .func (.func 60) #[] #[], .func (.func 61) #[] #[]])
    {n : Int} {t g nums : List Int} {u : Nat} {st : List (List Int)} {ao bo co : Option Addr} {ac bc cc : Nat} (_ : Byt g) (hgl : g.length ≤ 140737488351232) (htl : t.length ≤ 140737488351232) (hsl : st.length ≤ 140737488351232) (hE : Env w)
    (hbad : ¬ ((0 ≤ n ∧ n ≤ 2147483647) ∧ nums.length = c ∧ True ∧ ¬ (8192 < t.length ∨ 8192 < g.length ∨ 2730 < st.length))) :
    Calls Tryd.prog 14 #[.agg (lnA (strOfNums (wNm k)) n ao t.length ac bo nums.length bc (u : Int) (strOfNums g) co st.length cc)] w fun e w' => e = .returned (.tuple #[.string ⟨#[]⟩, .int .i64 220]) ∧ Below w.heap.size w w' := by
  have HWO := hidd (fun w => wordOf_ok (k := k) hk w)
  have HISI := hidd (isid_any n)
  have HTO := hidd (fun w1 => aonly_gen (wd := strOfNums (wNm k)) (n := n) (ao := ao) (am := t.length) (ac := ac) (bo := bo) (bm := nums.length) (bc := bc) (sd := (u : Int)) (gd := strOfNums g) (co := co) (cm := st.length) (cc := cc) w1)
  have HTM := hidd (fun w1 => toom_gen (wd := strOfNums (wNm k)) (n := n) (ao := ao) (am := t.length) (ac := ac) (bo := bo) (bm := nums.length) (bc := bc) (sd := (u : Int)) (gd := strOfNums g) (co := co) (cm := st.length) (cc := cc) (by omega) (by rw [strOfNums_size]; omega) (by omega) w1)
  rw [strOfNums_size] at HTM
  have SW5 : Hid ((Tryd.prog.info? 63).map (·.size) = some (wWd k).size) := by
    show _ = _
    rw [(wWd_facts hk).1]; exact sizeWd
  have SO5 : Hid ((#[.string ⟨#[]⟩, .int .i64 0, .nilFunc, .nilFunc, .nilFunc] : Array Value).size = (wWd k).size) := by
    show _ = _
    rw [(wWd_facts hk).1]; rfl
  have S15 := hidd ((wWd_facts hk).2.1)
  have HW4 := hidd hW
  generalize hT : wWd k = T at *
  have hbig := hE.big
  have HE := hidd hE
  have HB0 := hidd (Blk.new w 38 (lnA (strOfNums (wNm k)) n ao t.length ac bo nums.length bc (u : Int) (strOfNums g) co st.length cc))
  have HF0 := hidd (fresh_alloc w (.cells (lnA (strOfNums (wNm k)) n ao t.length ac bo nums.length bc (u : Int) (strOfNums g) co st.length cc) 38))
  clear hT hE hW
  obtain ⟨tm, etm⟩ : ∃ x, x = t.length := ⟨_, rfl⟩
  obtain ⟨nm, enm⟩ : ∃ x, x = nums.length := ⟨_, rfl⟩
  obtain ⟨sm, esm⟩ : ∃ x, x = st.length := ⟨_, rfl⟩
  rw [← etm, ← enm, ← esm] at HTO HTM HB0 HF0 hbad ⊢
  rw [← etm] at htl
  rw [← esm] at hsl
  clear etm enm esm
  generalize strOfNums (wNm k) = wn at *
  generalize strOfNums g = gd at *
  go_enter Tryd.func14, Tryd.ntmps14
  go_upto_region 1 with fail
  generalize w.alloc (.cells (lnA wn n ao tm ac bo nm bc (u : Int) gd co sm cc) 38) = w1 at *
  obtain ⟨R, eR⟩ : ∃ R, R = w.heap.size := ⟨_, rfl⟩
  have ER := hidd eR
  rw [← eR] at HB0 ⊢
  have hR6 : 6 ≤ R := by omega
  clear eR
  have x0 := HB0.out.cell 0
  simp at x0
  go_upto_region 2 with (first | (go_at_call 29; with_reducible refine (HWO.out _).mono ?_; rintro e w4 ⟨rfl, f4⟩) | refine wpList_store_row rfl 63 _ _ rfl w4.heap.size T rfl rfl 63 _ (Blk.new _ _ _) SW5.out SO5.out S15.out ?_)
  have hB5 := (Blk.new w4 63 #[.string ⟨#[]⟩, .int .i64 0, .nilFunc, .nilFunc, .nilFunc]).set T
  have hF5 := below_setRow (fresh_alloc w4 (.cells #[.string ⟨#[]⟩, .int .i64 0, .nilFunc, .nilFunc, .nilFunc] 63)) (Nat.le_refl _) T
  generalize (w4.alloc (.cells #[.string ⟨#[]⟩, .int .i64 0, .nilFunc, .nilFunc, .nilFunc] 63)).setRow w4.heap.size T = w5 at *
  rw [HW4.out] at hB5
  have HF5 := hidd (fresh_trans f4 hF5)
  obtain ⟨wb, ewb⟩ : ∃ wb, wb = w4.heap.size := ⟨_, rfl⟩
  rw [← ewb] at hB5 ⊢
  clear ewb f4 hF5 x0 SW5 SO5 S15 HWO
  have hL5 := HB0.out.fresh HF5.out
  have q0 := hL5.cell 0
  have q1 := hL5.cell 1
  have q2 := hL5.cell 2
  have q3 := hL5.cell 3
  have q4 := hL5.cell 4
  have q5 := hL5.cell 5
  have q6 := hL5.cell 6
  have u0 := hB5.cell 0
  have u1 := hB5.cell 1
  have u3 := hB5.cell 3
  have u4 := hB5.cell 4
  simp at q0 q1 q2 q3 q4 q5 q6 u0 u1 u3 u4
  have HL5 := hidd hL5
  have HB5 := hidd hB5
  have HF05 := hidd (fresh_trans HF0.out HF5.out)
  clear hL5 hB5
  by_cases h1 : 0 ≤ n ∧ n ≤ 2147483647
  · have hd1 : decide (0 ≤ n ∧ n ≤ 2147483647) = true := decide_eq_true h1
    rw [hd1] at HISI
    by_cases h2 : nm = c
    · have hd2 : ((nm : Int) == (c : Int)) = true := by simp; omega
      subst h2
      have h3 : True := trivial
      · have _u := h3
        have h4 : (8192 < tm ∨ 8192 < g.length ∨ 2730 < sm) := by
          by_cases h : (8192 < tm ∨ 8192 < g.length ∨ 2730 < sm)
          · exact h
          · exact absurd ⟨h1, rfl, h3, h⟩ hbad
        have hd4 : decide (8192 < tm ∨ 8192 < g.length ∨ 2730 < sm) = true := decide_eq_true h4
        rw [hd4] at HTM
        clear h1 h3 h4 hbad hd1 hd4
        go_upto_region 3 with (first | (go_at_call 30; with_reducible refine (HISI.out _).mono ?_; rintro e w6 ⟨rfl, hw6⟩; rw [hw6]; clear hw6) | (go_at_call 61; with_reducible refine (HTO.out _).mono ?_; rintro e w6 ⟨rfl, f6⟩; have g6 := (HL5.out.fresh f6); have p0 := g6.cell 0; have p1 := g6.cell 1; have p2 := g6.cell 2; have p3 := g6.cell 3; have p4 := g6.cell 4; have p5 := g6.cell 5; have p6 := g6.cell 6; simp at p0 p1 p2 p3 p4 p5 p6) | (go_at_call 31; with_reducible refine (HTM.out _).mono ?_; rintro e w7 ⟨rfl, f7⟩))
        go_wp2
        go_ret2
        exact ⟨rfl, fresh_trans HF05.out (fresh_trans f6 f7)⟩
    · have hd2 : ((nm : Int) == (c : Int)) = false := by simp; omega
      have hd2' : ¬ (nm : Int) = (c : Int) := by omega
      clear h1 hbad hd1
      go_upto_region 3 with (go_at_call 30; with_reducible refine (HISI.out _).mono ?_; rintro e w6 ⟨rfl, hw6⟩; rw [hw6]; clear hw6)
      go_wp2
      go_ret2
      exact ⟨rfl, HF05.out⟩
  · have hd1 : decide (0 ≤ n ∧ n ≤ 2147483647) = false := decide_eq_false h1
    rw [hd1] at HISI
    clear h1 hbad hd1
    go_upto_region 3 with (go_at_call 30; with_reducible refine (HISI.out _).mono ?_; rintro e w6 ⟨rfl, hw6⟩; rw [hw6]; clear hw6)
    go_wp2
    go_ret2
    exact ⟨rfl, HF05.out⟩
end Go.Proofs.YtemmghneohnigaaDoor
