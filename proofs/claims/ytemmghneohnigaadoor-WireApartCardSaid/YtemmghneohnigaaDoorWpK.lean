import Derived.Test.YtemmghneohnigaaDoorPE
namespace Go.Proofs.YtemmghneohnigaaDoor
open Go.RowKit
/-! Print of a text's line; works. -/
theorem conv_txg (w : World) {s : List Int} (hs : Byt s) (hn : s.length ≤ 100000) : ∃ cap w1, (convert 9 22 (.string (strOfNums s))).run Tryd.prog w = .ok (.slice (some ⟨w.heap.size, 0, none⟩) s.length cap) w1 ∧ TxG w1 w.heap.size (.slice (some ⟨w.heap.size, 0, none⟩) s.length cap) s ∧ Below w.heap.size w w1 ∧ w1.heap.size = w.heap.size + 1 := by
  have hsz : (strOfNums s).size = s.length := strOfNums_size s
  have hr := run_bytes_of_string (P := Tryd.prog) w 9 22 5 (strOfNums s) Tryd.underlying9 Tryd.underlying22 Tryd.underlying5
  rw [hsz] at hr
  have hge := grownCap_ge w s.length 0 5
  have hcm : grownCap w s.length 0 5 ≤ maxLen := grownCap_le_maxLen _ _ _ _ (by unfold maxLen; omega)
  generalize grownCap w s.length 0 5 = cap at *
  have hrs : (bytesRow (strOfNums s) cap).size = cap := by
    unfold bytesRow
    have : (strOfNums s).data.size = s.length := hsz
    simp only [Array.size_append, Array.size_map, Array.size_replicate, hsz, this]
    omega
  refine ⟨cap, _, hr, ⟨w.heap.size, cap, rfl, Nat.le_refl _, by simp, hge, hcm, fun j hj => ?_, fun j x hj => ?_⟩, fresh_trans ((Below.refl _ _).drew) (fresh_alloc w.drew _), by simp⟩
  · rw [Nat.zero_add]
    refine ⟨?_, ?_⟩
    · have := World.cell?_alloc_mark w.drew (bytesRow (strOfNums s) cap) 5 ((bytesRow (strOfNums s) cap).size, (bytesRow (strOfNums s) cap).size + 1) j
      refine (congrArg Option.isSome this).trans ?_
      rw [Array.getElem?_eq_getElem (by omega)]; rfl
    · have := World.frozen?_alloc_mark w.drew (bytesRow (strOfNums s) cap) 5 (bytesRow (strOfNums s) cap).size ((bytesRow (strOfNums s) cap).size + 1) j
      refine this.trans ?_
      rw [hrs]
      have : ¬ cap ≤ j := by omega
      simp [this]
  · rw [Nat.zero_add]
    have hjl : j < s.length := by
      have := (List.getElem?_eq_some_iff.1 hj).1
      simpa using this
    have := World.cell?_alloc_mark w.drew (bytesRow (strOfNums s) cap) 5 ((bytesRow (strOfNums s) cap).size, (bytesRow (strOfNums s) cap).size + 1) j
    refine this.trans ?_
    have hjd : j < (strOfNums s).data.size := by show j < (strOfNums s).size; omega
    rw [bytesRow_at (strOfNums s) cap j hjd]
    have hbb := byt_get hs hjl
    have hat := str_at hs hjl (by rw [hsz]; exact hjl)
    have e1 : (strOfNums s).data[j].toNat = (s.getD j 0).toNat := hat
    rw [e1]
    have e2 : (s.map fun x => Value.int .u8 x)[j]? = some (.int .u8 (s.getD j 0)) := by
      rw [List.getElem?_map, List.getD_eq_getElem?_getD, List.getElem?_eq_getElem hjl]; rfl
    rw [e2] at hj
    rw [← hj]
    have e3 : ((s.getD j 0).toNat : Int) = s.getD j 0 := by omega
    rw [e3]
theorem TxG.rd {w : World} {base g n cap : Nat} {l : List Int} (h : TxG w base (.slice (some ⟨g, 0, none⟩) n cap) l) : n = l.length ∧ RdA w (some ⟨g, 0, none⟩) 1 l.length cap (fun j => .int .u8 (l.getD j 0)) := by
  obtain ⟨g', cap', e, _, _, h1, h2, _, hr⟩ := h
  cases e
  refine ⟨rfl, h1, h2, fun _ => ⟨g, 0, rfl, fun j hj => ?_⟩⟩
  have hjl : j < l.length := by omega
  have := hr j (.int .u8 (l.getD j 0)) (by rw [List.getElem?_map, List.getD_eq_getElem?_getD, List.getElem?_eq_getElem hjl]; rfl)
  exact this
theorem snm4 : strOfNums (wNm 4) = ⟨#[116, 101, 120, 116]⟩ := rfl
set_option maxRecDepth 20000 in
set_option maxHeartbeats 4000000 in
theorem print_text {w : World} {n : Int} {b : List Int} {ao : Option Addr} {cap : Nat} (h0 : 0 ≤ n) (h1 : n ≤ 2147483647) (hb : Byt b) (hl : (wNm 4 ++ 32 :: (numL n ++ 32 :: lit b)).length ≤ 8192) (hr : RdA w ao 1 b.length cap (byc b)) (hE : Env w) :
    Calls Tryd.prog 14 #[.agg #[.string ⟨#[116, 101, 120, 116]⟩, .int .i64 n, .slice ao b.length cap, .slice none 0 0, .int .u64 0, .string ⟨#[]⟩, .slice none 0 0]] w fun e w' => e = .returned (.tuple #[.string (strOfNums (wNm 4 ++ 32 :: (numL n ++ 32 :: lit b))), .int .i64 0]) ∧ Below w.heap.size w w' := by
  have hpl := pies_len b
  have hll := lit_len b
  have hbl : b.length ≤ 8192 := by simp at hl; omega
  have hl2 : (wNm 4 ++ 32 :: numL n).length ≤ 8192 := by simp at hl ⊢; omega
  have hl4 : (wNm 4).length = 4 := rfl
  have HWO := hidd (fun w => wordOf_ok (k := 4) (by omega) w)
  rw [snm4] at HWO
  have HISI := hidd (isid_any n)
  have hid : decide (0 ≤ n ∧ n ≤ 2147483647) = true := by simp; omega
  rw [hid] at HISI
  have HTO := hidd (fun w => tonly_any (n := n) (ao := ao) (m := b.length) (cap := cap) w)
  have HTM := hidd (fun w => toom_any (n := n) (ao := ao) (m := b.length) (cap := cap) hbl w)
  have HNU := hidd (fun (w1 : World) pb base v (h : Prt w1 pb base v (wNm 4)) (hE1 : Env w1) => pnum_any h (n := n) (by omega) (by omega) hE1 (by omega))
  have HPT := hidd (fun (w1 : World) pb base v (h : Prt w1 pb base v (wNm 4 ++ 32 :: numL n)) (hr1 : RdA w1 ao 1 b.length cap (byc b)) => ptext_any h (n := n) hb hl2 hbl hr1)
  have HFU := hidd (fun (w1 : World) pb base v (h : Prt w1 pb base v (wNm 4 ++ 32 :: (numL n ++ 32 :: lit b))) => full_any h)
  have hfd : decide (8192 < (wNm 4 ++ 32 :: (numL n ++ 32 :: lit b)).length) = false := by simp only [decide_eq_false_iff_not]; omega
  rw [hfd] at HFU
  have hcat : wNm 4 ++ 32 :: numL n ++ 32 :: lit b = wNm 4 ++ 32 :: (numL n ++ 32 :: lit b) := by simp
  rw [hcat] at HPT
  have SW5 : Hid ((Tryd.prog.info? 63).map (·.size) = some (wWd 4).size) := by
    show _ = _
    rw [(wWd_facts (k := 4) (by omega)).1]; exact sizeWd
  have SO5 : Hid ((#[.string ⟨#[]⟩, .int .i64 0, .nilFunc, .nilFunc, .nilFunc] : Array Value).size = (wWd 4).size) := by
    show _ = _
    rw [(wWd_facts (k := 4) (by omega)).1]; rfl
  have S15 := hidd ((wWd_facts (k := 4) (by omega)).2.1)
  have HW4 : Hid (wWd 4 = #[.string ⟨#[116, 101, 120, 116]⟩, .int .i64 0, .func (.func 65) #[] #[], .func (.func 66) #[] #[], .func (.func 67) #[] #[]]) := rfl
  generalize hT : wWd 4 = T at *
  have HR := hidd hr
  have HE := hidd hE
  have hbig := hE.big
  clear hT hr hE hid hfd hcat hl2 hpl hll hl4 hl
  have HB0 := hidd (Blk.new w 38 #[.string ⟨#[116, 101, 120, 116]⟩, .int .i64 n, .slice ao b.length cap, .slice none 0 0, .int .u64 0, .string ⟨#[]⟩, .slice none 0 0])
  have HF0 := hidd (fresh_alloc w (.cells #[.string ⟨#[116, 101, 120, 116]⟩, .int .i64 n, .slice ao b.length cap, .slice none 0 0, .int .u64 0, .string ⟨#[]⟩, .slice none 0 0] 38))
  obtain ⟨m, em⟩ : ∃ m, m = b.length := ⟨_, rfl⟩
  have EM := hidd em
  rw [← em] at HTO HTM HB0 HF0 hbl ⊢
  clear em
  go_enter Tryd.func14, Tryd.ntmps14
  go_upto_region 1 with fail
  generalize w.alloc (.cells #[.string ⟨#[116, 101, 120, 116]⟩, .int .i64 n, .slice ao m cap, .slice none 0 0, .int .u64 0, .string ⟨#[]⟩, .slice none 0 0] 38) = w1 at *
  obtain ⟨R, eR⟩ : ∃ R, R = w.heap.size := ⟨_, rfl⟩
  have ER := hidd eR
  rw [← eR] at HB0 ⊢
  have hR6 : 6 ≤ R := by omega
  clear eR
  have x0 := HB0.out.cell 0
  simp at x0
  go_upto_region 2 with (first | (go_at_call 29; with_reducible refine (HWO.out _).mono ?_; rintro e w4 ⟨rfl, f4⟩) | refine wpList_store_row rfl 63 _ _ rfl w4.heap.size T rfl rfl 63 _ (Blk.new _ _ _) SW5.out SO5.out S15.out ?_)
  have hB5 := (Blk.new w4 63 #[.string ⟨#[]⟩, .int .i64 0, .nilFunc, .nilFunc, .nilFunc]).set T
  have hF5 := below_setRow (fresh_alloc w4 (.cells #[.string ⟨#[]⟩, .int .i64 0, .nilFunc, .nilFunc, .nilFunc] 63)) (Nat.le_refl _) T
  generalize (w4.alloc (.cells #[.string ⟨#[]⟩, .int .i64 0, .nilFunc, .nilFunc, .nilFunc] 63)).setRow w4.heap.size T = w5 at *
  rw [HW4.out] at hB5
  have HF5 := hidd (fresh_trans f4 hF5)
  obtain ⟨wb, ewb⟩ : ∃ wb, wb = w4.heap.size := ⟨_, rfl⟩
  rw [← ewb] at hB5 ⊢
  clear ewb f4 hF5 x0 SW5 SO5 S15 HWO
  have hL5 := HB0.out.fresh HF5.out
  have q0 := hL5.cell 0
  have q1 := hL5.cell 1
  have q2 := hL5.cell 2
  have q3 := hL5.cell 3
  have q4 := hL5.cell 4
  have q5 := hL5.cell 5
  have q6 := hL5.cell 6
  have u0 := hB5.cell 0
  have u1 := hB5.cell 1
  have u3 := hB5.cell 3
  have u4 := hB5.cell 4
  simp at q0 q1 q2 q3 q4 q5 q6 u0 u1 u3 u4
  have HL5 := hidd hL5
  have HB5 := hidd hB5
  have SL7 : Hid ((Tryd.prog.info? 38).map (·.size) = some (#[.string ⟨#[116, 101, 120, 116]⟩, .int .i64 n, .slice ao m cap, .slice none 0 0, .int .u64 0, .string ⟨#[]⟩, .slice none 0 0] : Array Value).size) := sizeLn
  go_upto_region 4 with (first | (go_at_call 30; with_reducible refine (HISI.out _).mono ?_; rintro e w6 ⟨rfl, hw6⟩; rw [hw6]; clear hw6) | (go_at_call 67; with_reducible refine (HTO.out _).mono ?_; rintro e w6 ⟨rfl, f6⟩; have g6 := (HL5.out.fresh f6); have p0 := g6.cell 0; have p1 := g6.cell 1; have p2 := g6.cell 2; have p3 := g6.cell 3; have p4 := g6.cell 4; have p5 := g6.cell 5; have p6 := g6.cell 6; simp at p0 p1 p2 p3 p4 p5 p6) | (go_at_call 31; with_reducible refine (HTM.out _).mono ?_; rintro e w7 ⟨rfl, f7⟩))
  have f57 := fresh_trans f6 f7
  have hL7 := HL5.out.fresh f57
  have hB7 := HB5.out.fresh f57
  have HF07 := hidd (fresh_trans HF0.out (fresh_trans HF5.out f57))
  have HE7 := hidd (HE.out.fresh HF07.out)
  have HR7 := hidd (HR.out.fresh HF07.out)
  obtain ⟨k8, w8, hcv, ht8, hf8, hz8⟩ := conv_txg w7 nm4_byt (by decide)
  rw [snm4, show (wNm 4).length = 4 from rfl] at hcv
  rw [show (wNm 4).length = 4 from rfl] at ht8
  have a0 := hB7.cell 0
  simp at a0
  clear f6 f7 f57 q0 q1 q2 q3 q4 q5 q6 u0 u1 u3 u4 g6 p0 p1 p2 p3 p4 p5 p6 hL5 hB5 HTO HTM HISI HL5 HB5
  have hRw : R < w7.heap.size := hL7.lt
  have hwbw : wb < w7.heap.size := hB7.lt
  have fa := fresh_alloc w8 (.cells #[.slice (some ⟨w7.heap.size, 0, none⟩) 4 k8] 69)
  have HP9 : Hid (Prt (w8.alloc (.cells #[.slice (some ⟨w7.heap.size, 0, none⟩) 4 k8] 69)) w8.heap.size w7.heap.size (.slice (some ⟨w7.heap.size, 0, none⟩) 4 k8) (wNm 4)) := ⟨Blk.new _ _ _, ht8.fresh fa, by simp [Value.ownBlock]; omega, by omega⟩
  have HF79 := hidd (fresh_trans hf8 fa)
  have HL7 := hidd hL7
  have HB7 := hidd hB7
  clear ht8 hf8 fa hL7 hB7
  have HZ8 := hidd hz8
  clear hz8
  go_upto_region 5 with fail
  generalize w8.alloc (.cells #[.slice (some ⟨w7.heap.size, 0, none⟩) 4 k8] 69) = w9 at *
  obtain ⟨pb, epb⟩ : ∃ pb, pb = w8.heap.size := ⟨_, rfl⟩
  rw [← epb] at HP9 ⊢
  clear epb hcv a0
  have HE9 := hidd (HE7.out.fresh HF79.out)
  have b1 := (HL7.out.fresh HF79.out).cell 1
  simp at b1
  go_upto_region 6 with (go_at_call 32; with_reducible refine (HNU.out _ _ _ _ HP9.out HE9.out).mono ?_; rintro e w10 ⟨rfl, ⟨v10, hp10⟩, hk10⟩)
  have hk7 : Chg w7 w10 (fun b => w7.heap.size ≤ b) := Chg.pre HF79.out hk10
  have hL10 := HL7.out.chg hk7 (by omega)
  have hB10 := HB7.out.chg hk7 (by omega)
  have HF710 : Hid (Below w7.heap.size w7 w10) := hk7.below (Below.refl _ _) (Nat.le_refl _) (fun x hx => hx)
  have HR10 := hidd (HR7.out.fresh HF710.out)
  have HP10 := hidd hp10
  have c0 := hL10.cell 0
  have c1 := hL10.cell 1
  have c2 := hL10.cell 2
  have c3 := hL10.cell 3
  have c4 := hL10.cell 4
  have c5 := hL10.cell 5
  have c6 := hL10.cell 6
  have d3 := hB10.cell 3
  simp at c0 c1 c2 c3 c4 c5 c6 d3
  clear hk10 hk7 hL10 hB10 hp10 b1 HNU HP9 HE9 HE7 HF79
  have HC := hidd (HPT.out _ _ _ _ HP10.out HR10.out)
  rw [← EM.out] at HC
  go_wp2
  go_loopw [54] (fun i wr => i = .int .i64 0 ∧ wr = w10) (fun _ _ => 0)
  case atStart => exact ⟨rfl, rfl⟩
  case round =>
    obtain ⟨rfl, rfl⟩ := hrel
    go_upto_region 14 with (first | (go_at_call 66; with_reducible refine (HC.out).mono ?_; rintro e w11 ⟨rfl, ⟨v11, hp11⟩, hk11⟩) | (go_at_call 33; with_reducible refine (HFU.out _ _ _ _ hp11).mono ?_; rintro e w12 ⟨rfl, hw12⟩; rw [hw12]; clear hw12))
    have HF11 : Hid (Below w.heap.size w w11) := by
      have h7 := fresh_trans HF07.out HF710.out
      exact hk11.below h7 h7.size (fun x hx => Nat.le_trans HF07.out.size hx)
    obtain ⟨g, kc, e11, _⟩ := hp11.txt
    subst e11
    obtain ⟨_, hrd⟩ := hp11.txt.rd
    have hcv := conv_str hrd
    have e0 := hp11.blk.cell 0
    simp only [List.getElem?_toArray, List.getElem?_cons_zero] at e0
    generalize hLL : (wNm 4 ++ 32 :: (numL n ++ 32 :: lit b)).length = LL at *
    clear hLL hp11 hk11 hrd
    generalize hst : strOfNums (wNm 4 ++ 32 :: (numL n ++ 32 :: lit b)) = st at *
    have HST := hidd hst
    clear hst
    go_wp2
    go_ret2
    exact ⟨by rw [HST.out]; rfl, HF11.out⟩
end Go.Proofs.YtemmghneohnigaaDoor
