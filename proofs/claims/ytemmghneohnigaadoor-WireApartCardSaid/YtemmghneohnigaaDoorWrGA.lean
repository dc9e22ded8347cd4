import Derived.Test.YtemmghneohnigaaDoorRA
namespace Go.Proofs.YtemmghneohnigaaDoor
open Go.RowKit
/-! Print of a line whose word is known, of kind A, where nothing is amiss but maybe its length. -/
set_option maxRecDepth 20000 in
set_option maxHeartbeats 4000000 in
theorem print_goodA {w : World} {k : Nat} (hk : k < 6) {c : Nat} (hc : c ≤ 6) (hW : wWd k = #[.string (strOfNums (wNm k)), .int .i64 (c : Int), .func (.func 59) #[] #[], .func (.func 60) #[] #[], .func (.func 61) #[] #[]])
    {n : Int} {t g nums : List Int} {u : Nat} {st : List (List Int)} {ao bo co : Option Addr} {ac bc cc : Nat} (hg : Byt g) (hgl : g.length ≤ 140737488351232) (ht : Byt t) (htl : t.length ≤ 140737488351232) (hst : ∀ s ∈ st, Byt s ∧ s.length ≤ 140737488351232) (hsl : st.length ≤ 140737488351232) (hu64 : u < 18446744073709551616) (hnr : ∀ x ∈ nums, -9223372036854775808 ≤ x ∧ x ≤ 9223372036854775807) (hE : Env w)
    (hr : RdA w ao 1 t.length ac (byc t)) (hn : RdA w bo 1 nums.length bc (fun j => .int .i64 (nums.getD j 0))) (hs : RdA w co 1 st.length cc (stc st))
    (h1 : 0 ≤ n ∧ n ≤ 2147483647) (h2 : nums.length = c) (h3 : True) (h4 : ¬ (8192 < t.length ∨ 8192 < g.length ∨ 2730 < st.length)) :
    Calls Tryd.prog 14 #[.agg (lnA (strOfNums (wNm k)) n ao t.length ac bo nums.length bc (u : Int) (strOfNums g) co st.length cc)] w fun e w' => PrR (pAsk (hdL k n nums) u g t st) e ∧ Below w.heap.size w w' := by
  have _u : True := by
    have _ := ht; have _ := htl; have _ := hst; have _ := hsl; have _ := hu64; have _ := hg; have _ := hgl; have _ := h3
    trivial
  clear _u
  obtain ⟨hnb, hnl⟩ := nm_byt hk
  have hh0 : (wNm k ++ 32 :: numL n).length ≤ 28 := by
    have := numL_len (n := n) (by omega) (by omega)
    simp
    omega
  have HLEN : Hid (∀ j, ((nums.take j).foldl pn (wNm k ++ 32 :: numL n)).length ≤ 28 + 22 * nums.length) := fun j => by
    have h' := foldn_len (nums.take j) (fun x hx => hnr x (List.mem_of_mem_take hx)) (wNm k ++ 32 :: numL n)
    rw [List.length_take] at h'
    omega
  have hhd : (hdL k n nums).length ≤ 200 := by
    have h' := HLEN.out nums.length
    rw [List.take_length] at h'
    unfold hdL
    omega
  have HWO := hidd (fun w => wordOf_ok (k := k) hk w)
  have HISI := hidd (isid_any n)
  have HTO := hidd (fun w1 => aonly_gen (wd := strOfNums (wNm k)) (n := n) (ao := ao) (am := t.length) (ac := ac) (bo := bo) (bm := nums.length) (bc := bc) (sd := (u : Int)) (gd := strOfNums g) (co := co) (cm := st.length) (cc := cc) w1)
  have HTM := hidd (fun w1 => toom_gen (wd := strOfNums (wNm k)) (n := n) (ao := ao) (am := t.length) (ac := ac) (bo := bo) (bm := nums.length) (bc := bc) (sd := (u : Int)) (gd := strOfNums g) (co := co) (cm := st.length) (cc := cc) (by omega) (by rw [strOfNums_size]; omega) (by omega) w1)
  rw [strOfNums_size] at HTM
  have SW5 : Hid ((Tryd.prog.info? 63).map (·.size) = some (wWd k).size) := by
    show _ = _
    rw [(wWd_facts hk).1]; exact sizeWd
  have SO5 : Hid ((#[.string ⟨#[]⟩, .int .i64 0, .nilFunc, .nilFunc, .nilFunc] : Array Value).size = (wWd k).size) := by
    show _ = _
    rw [(wWd_facts hk).1]; rfl
  have S15 := hidd ((wWd_facts hk).2.1)
  have HW4 := hidd hW
  generalize hT : wWd k = T at *
  have hbig := hE.big
  have HE := hidd hE
  have HB0 := hidd (Blk.new w 38 (lnA (strOfNums (wNm k)) n ao t.length ac bo nums.length bc (u : Int) (strOfNums g) co st.length cc))
  have HF0 := hidd (fresh_alloc w (.cells (lnA (strOfNums (wNm k)) n ao t.length ac bo nums.length bc (u : Int) (strOfNums g) co st.length cc) 38))
  have HR := hidd hr
  have HN := hidd hn
  have HS := hidd hs
  have HPF := hidd (fun (w0 w1 : World) pb base v (h : Prt w1 pb base v (hdL k n nums)) (hE1 : Env w1) (h6 : 6 ≤ base) (f0 : Below w0.heap.size w0 w1) (hz0 : w0.heap.size ≤ base) (hr1 : RdA w0 ao 1 t.length ac (byc t)) (hs1 : RdA w0 co 1 st.length cc (stc st)) => pask_fine (wd := strOfNums (wNm k)) (n := n) (bo := bo) (bm := nums.length) (bc := bc) h (by omega) hu64 hE1 h6 hg hgl ht htl hst f0 hz0 hr1 hs1)
  have HCV := hidd (fun w7 => conv_txg w7 hnb (by omega))
  have HNI := hidd (fun (w1 : World) pb base v (h : Prt w1 pb base v (wNm k)) (hE1 : Env w1) => pnum_any h (n := n) (by omega) (by omega) hE1 (by omega))
  have HNU := hidd (fun (w1 : World) pb base v (j : Nat) (hj : j < nums.length) (h : Prt w1 pb base v ((nums.take j).foldl pn (wNm k ++ 32 :: numL n))) (hE1 : Env w1) => pnum_any h (n := nums.getD j 0) (by rw [List.getD_eq_getElem?_getD, List.getElem?_eq_getElem hj]; exact (hnr _ (List.getElem_mem _)).1) (by rw [List.getD_eq_getElem?_getD, List.getElem?_eq_getElem hj]; exact (hnr _ (List.getElem_mem _)).2) hE1 (by have := HLEN.out j; omega))
  have HNS : Hid (∀ j, j < nums.length → (nums.take (j + 1)).foldl pn (wNm k ++ 32 :: numL n) = (nums.take j).foldl pn (wNm k ++ 32 :: numL n) ++ 32 :: numL (nums.getD j 0)) := fun j hj => foldn_take hj _
  obtain ⟨TX, eTX⟩ : ∃ TX, TX = pAsk (hdL k n nums) u g t st := ⟨_, rfl⟩
  have ETX := hidd eTX
  have HH : Hid ((nums.take nums.length).foldl pn (wNm k ++ 32 :: numL n) = hdL k n nums) := by show _ = _; rw [List.take_length]; rfl
  rw [← eTX]
  have HFU := hidd (fun (w1 : World) pb base v (h : Prt w1 pb base v TX) => full_any h)
  have hd1 : decide (0 ≤ n ∧ n ≤ 2147483647) = true := decide_eq_true h1
  rw [hd1] at HISI
  have hwl : (wNm k).length ≤ 6 := hnl
  obtain ⟨wl, ewl⟩ : ∃ wl, wl = (wNm k).length := ⟨_, rfl⟩
  rw [← ewl] at HCV
  clear hT hE hW hd1 hr hn hs hst hnr hhd hh0 eTX hnl
  obtain ⟨tm, etm⟩ : ∃ x, x = t.length := ⟨_, rfl⟩
  obtain ⟨nm, enm⟩ : ∃ x, x = nums.length := ⟨_, rfl⟩
  obtain ⟨sm, esm⟩ : ∃ x, x = st.length := ⟨_, rfl⟩
  have ETM := hidd etm
  have ENM := hidd enm
  have ESM := hidd esm
  simp only [← etm, ← enm, ← esm] at HTO HTM HPF HB0 HF0 h2 h3 h4 htl HR HN HNU HNS HLEN hsl HS HH ⊢
  clear etm enm esm
  have hd4 : decide (8192 < tm ∨ 8192 < g.length ∨ 2730 < sm) = false := decide_eq_false h4
  rw [hd4] at HTM
  clear hd4 h3 h4
  subst h2
  generalize strOfNums (wNm k) = wn at *
  generalize strOfNums g = gd at *
  go_enter Tryd.func14, Tryd.ntmps14
  go_upto_region 1 with fail
  generalize w.alloc (.cells (lnA wn n ao tm ac bo nm bc (u : Int) gd co sm cc) 38) = w1 at *
  obtain ⟨R, eR⟩ : ∃ R, R = w.heap.size := ⟨_, rfl⟩
  have ER := hidd eR
  rw [← eR] at HB0 ⊢
  have hR6 : 6 ≤ R := by omega
  clear eR
  have x0 := HB0.out.cell 0
  simp at x0
  go_upto_region 2 with (first | (go_at_call 29; with_reducible refine (HWO.out _).mono ?_; rintro e w4 ⟨rfl, f4⟩) | refine wpList_store_row rfl 63 _ _ rfl w4.heap.size T rfl rfl 63 _ (Blk.new _ _ _) SW5.out SO5.out S15.out ?_)
  have hB5 := (Blk.new w4 63 #[.string ⟨#[]⟩, .int .i64 0, .nilFunc, .nilFunc, .nilFunc]).set T
  have hF5 := below_setRow (fresh_alloc w4 (.cells #[.string ⟨#[]⟩, .int .i64 0, .nilFunc, .nilFunc, .nilFunc] 63)) (Nat.le_refl _) T
  generalize (w4.alloc (.cells #[.string ⟨#[]⟩, .int .i64 0, .nilFunc, .nilFunc, .nilFunc] 63)).setRow w4.heap.size T = w5 at *
  rw [HW4.out] at hB5
  have HF5 := hidd (fresh_trans f4 hF5)
  obtain ⟨wb, ewb⟩ : ∃ wb, wb = w4.heap.size := ⟨_, rfl⟩
  rw [← ewb] at hB5 ⊢
  clear ewb f4 hF5 x0 SW5 SO5 S15 HWO
  have hL5 := HB0.out.fresh HF5.out
  have q0 := hL5.cell 0
  have q1 := hL5.cell 1
  have q2 := hL5.cell 2
  have q3 := hL5.cell 3
  have q4 := hL5.cell 4
  have q5 := hL5.cell 5
  have q6 := hL5.cell 6
  have u0 := hB5.cell 0
  have u1 := hB5.cell 1
  have u3 := hB5.cell 3
  have u4 := hB5.cell 4
  simp at q0 q1 q2 q3 q4 q5 q6 u0 u1 u3 u4
  have HL5 := hidd hL5
  have HB5 := hidd hB5
  have HF05 := hidd (fresh_trans HF0.out HF5.out)
  clear hL5 hB5
  go_upto_region 4 with (first | (go_at_call 30; with_reducible refine (HISI.out _).mono ?_; rintro e w6 ⟨rfl, hw6⟩; rw [hw6]; clear hw6) | (go_at_call 61; with_reducible refine (HTO.out _).mono ?_; rintro e w6 ⟨rfl, f6⟩; have g6 := (HL5.out.fresh f6); have p0 := g6.cell 0; have p1 := g6.cell 1; have p2 := g6.cell 2; have p3 := g6.cell 3; have p4 := g6.cell 4; have p5 := g6.cell 5; have p6 := g6.cell 6; simp at p0 p1 p2 p3 p4 p5 p6) | (go_at_call 31; with_reducible refine (HTM.out _).mono ?_; rintro e w7 ⟨rfl, f7⟩))
  have f57 := fresh_trans f6 f7
  have hL7 := HL5.out.fresh f57
  have hB7 := HB5.out.fresh f57
  have HF07 := hidd (fresh_trans HF05.out f57)
  have HE7 := hidd (HE.out.fresh HF07.out)
  have HR7 := hidd (HR.out.fresh HF07.out)
  have HN7 := hidd (HN.out.fresh HF07.out)
  have HS7 := hidd (HS.out.fresh HF07.out)
  obtain ⟨k8, w8, hcv, ht8, hf8, hz8⟩ := HCV.out w7
  have a0 := hB7.cell 0
  simp at a0
  clear f6 f7 f57 q0 q1 q2 q3 q4 q5 q6 u0 u1 u3 u4 g6 p0 p1 p2 p3 p4 p5 p6 HTO HTM HISI HL5 HB5 HCV
  have hRw : R < w7.heap.size := hL7.lt
  have hwbw : wb < w7.heap.size := hB7.lt
  have fa := fresh_alloc w8 (.cells #[.slice (some ⟨w7.heap.size, 0, none⟩) wl k8] 69)
  have HP9 : Hid (Prt (w8.alloc (.cells #[.slice (some ⟨w7.heap.size, 0, none⟩) wl k8] 69)) w8.heap.size w7.heap.size (.slice (some ⟨w7.heap.size, 0, none⟩) wl k8) (wNm k)) := ⟨Blk.new _ _ _, ht8.fresh fa, by simp [Value.ownBlock]; omega, by omega⟩
  have HF79 := hidd (fresh_trans hf8 fa)
  have HL7 := hidd hL7
  have HB7 := hidd hB7
  clear ht8 hf8 fa hL7 hB7 ewl
  have HZ8 := hidd hz8
  clear hz8
  go_upto_region 5 with fail
  generalize w8.alloc (.cells #[.slice (some ⟨w7.heap.size, 0, none⟩) wl k8] 69) = w9 at *
  obtain ⟨pb, epb⟩ : ∃ pb, pb = w8.heap.size := ⟨_, rfl⟩
  rw [← epb] at HP9 ⊢
  clear epb hcv a0
  have HE9 := hidd (HE7.out.fresh HF79.out)
  have b1 := (HL7.out.fresh HF79.out).cell 1
  simp at b1
  go_upto_region 6 with (go_at_call 32; with_reducible refine (HNI.out _ _ _ _ HP9.out HE9.out).mono ?_; rintro e w10 ⟨rfl, hp10, hk10⟩)
  have hk7 : Chg w7 w10 (fun b => w7.heap.size ≤ b) := Chg.pre HF79.out hk10
  have HK7 := hidd hk7
  have HP10 := hidd hp10
  have c3 := (HL7.out.chg hk7 (by omega)).cell 3
  simp at c3
  clear hk10 hk7 hp10 b1 HNI HP9 HE9 HF79
  have hnm6 : nm ≤ 6 := hc
  go_wp2
  go_loopw [54] (fun i wr => ∃ j : Nat, j ≤ nm ∧ i = .int .i64 j ∧ Hid (∃ vr, Prt wr pb w7.heap.size vr ((nums.take j).foldl pn (wNm k ++ 32 :: numL n))) ∧ Hid (Chg w7 wr (fun b => w7.heap.size ≤ b))) (fun i _ => nm - (intOf i).toNat)
  case atStart => exact ⟨0, by omega, rfl, HP10.out, HK7.out⟩
  case round =>
    obtain ⟨j, hj, rfl, hP, hKr⟩ := hrel
    have HF7r : Hid (Below w7.heap.size w7 wr) := hKr.out.below (Below.refl _ _) (Nat.le_refl _) (fun x hx => hx)
    have j0 : (0 : Int) ≤ (j : Int) := Int.natCast_nonneg _
    obtain ⟨vr, hpr⟩ := hP.out
    by_cases hlt : j < nm
    · obtain ⟨bb, oo, rfl, hcell⟩ := (HN7.out.fresh HF7r.out).one (by omega)
      have c1 := hcell j hlt
      have HC := hidd (HNU.out _ _ _ _ j hlt hpr (HE7.out.fresh HF7r.out))
      have HNJ := hidd (HNS.out j hlt)
      generalize nums.getD j 0 = xj at *
      clear hcell hP hpr
      go_wp2_with (go_at_call 32; with_reducible refine (HC.out).mono ?_; rintro e w10b ⟨rfl, hp10b, hk10b⟩)
      go_roundw
      case rel => exact ⟨j + 1, by omega, by go_num, by rw [HNJ.out]; exact hp10b, hKr.out.trans hk10b (fun _ _ h => h)⟩
      case measure => simp [intOf]; omega
    · obtain rfl : j = nm := by omega
      rw [HH.out] at hpr
      have HPv := hidd hpr
      have hLr := HL7.out.chg hKr.out (by omega)
      have hBr := HB7.out.chg hKr.out (by omega)
      have c0 := hLr.cell 0
      have c1 := hLr.cell 1
      have c2 := hLr.cell 2
      have c3' := hLr.cell 3
      have c4 := hLr.cell 4
      have c5 := hLr.cell 5
      have c6 := hLr.cell 6
      have d3 := hBr.cell 3
      simp at c0 c1 c2 c3' c4 c5 c6 d3
      clear hLr hBr hpr hP HNU HNS
      go_upto_region 12 with (go_at_call 60; with_reducible refine (HPF.out _ _ _ _ _ HPv.out (HE7.out.fresh HF7r.out) (by omega) HF7r.out (Nat.le_refl _) HR7.out HS7.out).mono ?_; rintro e w11 ⟨rfl, v11, p11⟩)
      have hp11 := p11.prt
      have hk11 := Pst.coarse HPv.out p11
      have HF11 : Hid (Below w.heap.size w w11) := by
        have h7 := fresh_trans HF07.out HF7r.out
        exact hk11.below h7 h7.size (fun x hx => Nat.le_trans HF07.out.size hx)
      rw [← ETX.out] at hp11
      have HC := hidd (HFU.out _ _ _ _ hp11)
      obtain ⟨gg, kc, e11, _⟩ := hp11.txt
      subst e11
      obtain ⟨_, hrd⟩ := hp11.txt.rd
      have hcv := conv_str hrd
      have e0 := hp11.blk.cell 0
      simp only [List.getElem?_toArray, List.getElem?_cons_zero] at e0
      clear hp11 hk11 hrd c0 c1 c2 c3' c4 c5 c6 d3
      obtain ⟨LL, eLL⟩ : ∃ LL, LL = TX.length := ⟨_, rfl⟩
      rw [← eLL] at hcv e0
      clear eLL
      by_cases hfu : 8192 < TX.length
      · rw [decide_eq_true hfu] at HC
        have HFL := hidd hfu
        clear hfu
        go_wp2_with (go_at_call 33; with_reducible refine (HC.out).mono ?_; rintro e w12 ⟨rfl, hw12⟩; rw [hw12]; clear hw12)
        go_ret2
        exact ⟨.inl ⟨HFL.out, rfl⟩, HF11.out⟩
      · rw [decide_eq_false hfu] at HC
        have HFL := hidd hfu
        clear hfu
        generalize hst : strOfNums TX = stx at *
        have HST := hidd hst
        clear hst
        go_wp2_with (go_at_call 33; with_reducible refine (HC.out).mono ?_; rintro e w12 ⟨rfl, hw12⟩; rw [hw12]; clear hw12)
        go_ret2
        exact ⟨.inr ⟨HFL.out, by rw [HST.out]; rfl⟩, HF11.out⟩
end Go.Proofs.YtemmghneohnigaaDoor
