import Derived.Test.YtemmghneohnigaaDoorWvR
namespace Go.Proofs.YtemmghneohnigaaDoor
open Go.RowKit
/-! WireRounds, the law. -/
theorem sizeRl : (Tryd.prog.info? 35).map (·.size) = some 7 := by kernel_rfl
theorem stL_each : ∀ (l : List (List Int)), ∀ s ∈ l, s.length ≤ (stL l).length
  | [], s, hs => nomatch hs
  | x :: r, s, hs => by
    have e : (stL (x :: r)).length = (lit x).length + 1 + (stL r).length := by simp [stL]; omega
    have a1 := lit_len x
    have a2 := pies_len x
    rcases List.mem_cons.1 hs with rfl | hs
    · omega
    · have := stL_each r s hs; omega
theorem LineQ.lens {k : Nat} {n : Int} {nums : List Int} {u : Nat} {g t : List Int} {st : List (List Int)} {x : List Int} (h : LineQ k n nums u g t st x) : t.length ≤ 8192 ∧ g.length ≤ 8192 ∧ st.length ≤ 8192 ∧ (∀ s ∈ st, s.length ≤ 8192) := by
  obtain ⟨_, _, ho, e, hl⟩ := h.form
  have e2 := congrArg List.length e
  simp only [List.length_append, List.length_cons] at e2
  have a1 := lit_len g
  have a2 := pies_len g
  have a3 := lit_len t
  have a4 := pies_len t
  have a5 := stL_len st
  unfold onlyW at ho
  unfold bhL at e2
  by_cases k0 : k = 0
  · rw [if_pos k0] at e2
    simp only [List.length_append, List.length_cons] at e2
    refine ⟨by omega, by omega, by omega, fun s hs => ?_⟩
    have := stL_each st s hs
    omega
  · rw [if_neg k0] at ho e2
    by_cases k4 : k = 4
    · rw [if_pos k4] at ho e2
      obtain ⟨_, rfl, rfl⟩ := ho
      simp only [List.length_cons] at e2
      exact ⟨by omega, by simp, by simp, fun s hs => nomatch hs⟩
    · rw [if_neg k4] at ho
      obtain ⟨rfl, _, rfl, rfl⟩ := ho
      exact ⟨by simp, by simp, by simp, fun s hs => nomatch hs⟩
theorem rd_nil (w : World) (cs : Nat → Value) : RdA w none 1 0 0 cs := ⟨Nat.le_refl _, Nat.zero_le _, fun h => absurd h (by omega)⟩
theorem eqz (w : World) : Calls Tryd.prog 17 #[.agg #[.string ⟨#[]⟩, .int .i64 0, .slice none 0 0, .slice none 0 0, .int .u64 0, .string ⟨#[]⟩, .slice none 0 0], .agg #[.string ⟨#[]⟩, .int .i64 0, .slice none 0 0, .slice none 0 0, .int .u64 0, .string ⟨#[]⟩, .slice none 0 0]] w fun e w' => e = .returned (.bool true) ∧ Below w.heap.size w w' :=
  eqLines_same (wd := ⟨#[]⟩) (gd := ⟨#[]⟩) (n := 0) (sd := 0) (f := fun _ => 0) (h := fun _ => 0) (s := fun _ => ⟨#[]⟩) (rd_nil _ _) (rd_nil _ _) (rd_nil _ _) (rd_nil _ _) (rd_nil _ _) (rd_nil _ _)
set_option maxRecDepth 20000 in
set_option maxHeartbeats 8000000 in
theorem rounds_law {w : World} {wl text : List Int} (hwB : Byt wl) (hTB : Byt text) (hTl : text.length ≤ 140737488351232) {n : Int} {t g nums : List Int} {u : Nat} {st : List (List Int)} {ao bo co : Option Addr} {ac bc cc : Nat} (hg : Byt g) (hgl : g.length ≤ 140737488351232) (ht : Byt t) (htl : t.length ≤ 140737488351232) (hst : ∀ s ∈ st, Byt s ∧ s.length ≤ 140737488351232) (hsl : st.length ≤ 8796093021952) (hnl : nums.length ≤ 17592186043904) (hu64 : u < 18446744073709551616) (hnr : ∀ x ∈ nums, -9223372036854775808 ≤ x ∧ x ≤ 9223372036854775807) (hE : Env w)
    (hr : RdA w ao 1 t.length ac (byc t)) (hn : RdA w bo 1 nums.length bc (fun j => .int .i64 (nums.getD j 0))) (hs : RdA w co 1 st.length cc (stc st)) :
    Calls Tryd.prog 5 #[.agg (lnA (strOfNums wl) n ao t.length ac bo nums.length bc (u : Int) (strOfNums g) co st.length cc), .string (strOfNums text)] w fun e w' => e = .returned (.bool true) ∧ Below w.heap.size w w' := by
  have fb := fresh_alloc w (.cells (lnA (strOfNums wl) n ao t.length ac bo nums.length bc (u : Int) (strOfNums g) co st.length cc) 35)
  have HBX0 := hidd (Blk.new w 35 (lnA (strOfNums wl) n ao t.length ac bo nums.length bc (u : Int) (strOfNums g) co st.length cc))
  have HFB := hidd fb
  have HWK := hidd (works_any (hE.fresh fb))
  have HGV := hidd (fun (w1 : World) (f1 : Below w.heap.size w w1) => given_any (w := w1) (wd := strOfNums wl) (gd := strOfNums g) (n := n) (sd := (u : Int)) (hr.fresh f1) (hn.fresh f1) (hs.fresh f1) htl hnl hsl)
  have HPR := hidd (fun (w1 : World) (f1 : Below w.heap.size w w1) g1 c1 g2 c2 g3 c3 (h1 : RdA w1 (some ⟨g1, 0, none⟩) 1 t.length c1 (byc t)) (h2 : RdA w1 (some ⟨g2, 0, none⟩) 1 nums.length c2 (fun j => .int .i64 (nums.getD j 0))) (h3 : RdA w1 (some ⟨g3, 0, none⟩) 1 st.length c3 (stc st)) => print_any hwB (n := n) hg (by omega) ht (by omega) (fun s hs => ⟨(hst s hs).1, by have := (hst s hs).2; omega⟩) (by omega) hu64 hnr (hE.fresh f1) h1 h2 h3)
  have HPT := hidd (fun (w1 : World) (hE1 : Env w1) => parse_all hTB (by omega) hE1)
  have HPX := hidd (fun (w1 : World) (x : List Int) (hB : Byt x) (hl : x.length ≤ 8192) (hE1 : Env w1) => parse_all hB (by omega) hE1)
  have HTQ := hidd (fun (x : List Int) (h : LineP wl n nums u g t st x) => h.toQ hnr hu64 hg ht (fun s hs => (hst s hs).1))
  have HE := hidd hE
  have HR := hidd hr
  have HN := hidd hn
  have HS := hidd hs
  have HTX : Hid (∃ tx, strOfNums text = tx) := ⟨_, rfl⟩
  clear fb hE hr hn hs hst hnr hwB hTB hg ht hTl hu64
  obtain ⟨tx, HTX⟩ : ∃ tx, Hid (strOfNums text = tx) := ⟨_, rfl⟩
  rw [HTX.out] at HPT ⊢
  have SLR : Hid ((Tryd.prog.info? 35).map (·.size) = some (lnA (strOfNums wl) n ao t.length ac bo nums.length bc (u : Int) (strOfNums g) co st.length cc).size) := sizeRl
  obtain ⟨sw, ESW⟩ : ∃ sw, Hid (sw = strOfNums wl) := ⟨_, rfl⟩
  obtain ⟨gd, EGD⟩ : ∃ gd, Hid (gd = strOfNums g) := ⟨_, rfl⟩
  obtain ⟨tm, ETM⟩ : ∃ tm, Hid (tm = t.length) := ⟨_, rfl⟩
  obtain ⟨nm, ENM⟩ : ∃ nm, Hid (nm = nums.length) := ⟨_, rfl⟩
  obtain ⟨sm, ESM⟩ : ∃ sm, Hid (sm = st.length) := ⟨_, rfl⟩
  simp only [← ESW.out, ← EGD.out, ← ETM.out, ← ENM.out, ← ESM.out] at HBX0 HFB HWK HGV HPR SLR HR HN HS htl hnl hsl ⊢
  go_enter Tryd.func5, Tryd.ntmps5
  go_upto_region 1 with fail
  generalize w.alloc (.cells (lnA sw n ao tm ac bo nm bc (u : Int) gd co sm cc) 35) = w1 at *
  obtain ⟨B, eB⟩ : ∃ B, B = w.heap.size := ⟨_, rfl⟩
  have EB := hidd eB
  rw [← eB] at HBX0 ⊢
  clear eB
  go_upto_region 2 with (go_at_call 8; with_reducible refine (HWK.out).mono ?_; rintro e w2 ⟨rfl, f2⟩)
  have HF2 := hidd (fresh_trans HFB.out f2)
  have HB2 := hidd (HBX0.out.fresh f2)
  clear f2 HWK HBX0 HFB
  have HC := hidd (HGV.out _ HF2.out)
  go_upto_region 3 with (first | refine wpList_load_row rfl 35 _ rfl B rfl 35 _ (0, 0) _ HB2.out Tryd.underlying35 rfl SLR.out ?_ | (go_at_call 15; with_reducible refine (HC.out).mono ?_; rintro e w3 ⟨g1, c1, g2, c2, g3, c3, rfl, og1, og2, og3, f3⟩; have HF3 := hidd (fresh_trans HF2.out f3); have HC3 := hidd (HPR.out _ HF3.out g1 c1 g2 c2 g3 c3 (given_rd og1 (fun j hj => mkBt t (by rw [← ETM.out]; exact hj))) (given_rd og2 (fun j hj => mkI_lt (by rw [← ENM.out]; exact hj))) (given_rd og3 (fun j hj => mkS_lt (by rw [← ESM.out]; exact hj))))) | (go_at_call 14; (with_reducible refine (HC3.out).mono ?_); rintro e w4 ⟨⟨x, hx, rfl⟩ | ⟨hno, rfl⟩, f4⟩))
  · have HF4 := hidd (fresh_trans HF3.out f4)
    have HB4 := hidd (HB2.out.fresh (fresh_trans f3 f4))
    obtain ⟨k, ek, hq⟩ := HTQ.out x hx
    obtain ⟨hxa, hx4, hx8⟩ := hq.asc
    have HE4 := hidd (HE.out.fresh HF4.out)
    have HC4 : Hid (Calls Tryd.prog 16 #[.string (strOfNums x)] w4 fun e w' => ∃ ao' ac' bo' bc' co' cc', e = .returned (.tuple #[.agg (lnA sw n ao' tm ac' bo' nm bc' (u : Int) gd co' sm cc'), .int .i64 0]) ∧ RdA w' ao' 1 tm ac' (byc t) ∧ RdA w' bo' 1 nm bc' (mkN nums) ∧ RdA w' co' 1 sm cc' (stc st) ∧ Below w4.heap.size w4 w') := by
      refine (HPX.out w4 x hxa.byt hx8 HE4.out).mono ?_
      rintro e w' ⟨⟨k', n', nums', u', g', t', st', ao', ac', bo', bc', co', cc', q', uq, rfl, o1, o2, o3⟩ | ⟨no, _⟩, hf⟩
      · obtain ⟨rfl, rfl, rfl, rfl, rfl, rfl, rfl⟩ := uq k n nums u g t st hq
        refine ⟨ao', ac', bo', bc', co', cc', ?_, ?_, ?_, ?_, hf⟩
        · rw [ESW.out, EGD.out, ETM.out, ENM.out, ESM.out, ek]
        · rw [ETM.out]; exact o1.rdaW
        · rw [ENM.out]; exact o2.rdaW
        · rw [ESM.out]; exact o3.rdaW
      · exact absurd ⟨k, n, nums, u, g, t, st, hq⟩ no
    have HAS := hidd (fun w => ascii_any hxa (by omega) w)
    have hsz : (strOfNums x).size = x.length := strOfNums_size x
    obtain ⟨N, eN⟩ : ∃ N, N = x.length := ⟨_, rfl⟩
    rw [← eN] at hsz hx4 hx8
    clear hx hq hxa eN og1 og2 og3 f3 f4 HC HC3 HF3 HGV HPR HPX HTQ HB2 ek HE4
    generalize strOfNums x = xs at *
    have b1 : decide ((8192 : Int) < (N : Int)) = false := by simp; omega
    have b2 : decide ((N : Int) < 4) = false := by simp; omega
    go_upto_region 5 with (go_at_call 16; with_reducible refine (HC4.out).mono ?_; rintro e w5 ⟨ao', ac', bo', bc', co', cc', rfl, ra5, rb5, rc5, f5⟩)
    have fa := fresh_alloc w5 (.cells (lnA sw n ao' tm ac' bo' nm bc' (u : Int) gd co' sm cc') 38)
    have HL5 := hidd (Blk.new w5 38 (lnA sw n ao' tm ac' bo' nm bc' (u : Int) gd co' sm cc'))
    have HF5 := hidd (fresh_trans HF4.out (fresh_trans f5 fa))
    have HB5 := hidd (HB4.out.fresh (fresh_trans f5 fa))
    have HEQ : Hid (Calls Tryd.prog 17 #[.agg (lnA sw n ao' tm ac' bo' nm bc' (u : Int) gd co' sm cc'), .agg (lnA sw n ao tm ac bo nm bc (u : Int) gd co sm cc)] (w5.alloc (.cells (lnA sw n ao' tm ac' bo' nm bc' (u : Int) gd co' sm cc') 38)) fun e w' => e = .returned (.bool true) ∧ Below (w5.alloc (.cells (lnA sw n ao' tm ac' bo' nm bc' (u : Int) gd co' sm cc') 38)).heap.size (w5.alloc (.cells (lnA sw n ao' tm ac' bo' nm bc' (u : Int) gd co' sm cc') 38)) w') :=
      eqLines_same (f := fun i => t.getD i 0) (h := fun i => nums.getD i 0) (s := fun i => strOfNums (st.getD i [])) (ra5.fresh fa) (HR.out.fresh HF5.out) (rb5.fresh fa) (HN.out.fresh HF5.out) (rc5.fresh fa) (HS.out.fresh HF5.out)
    clear ra5 rb5 rc5 f5 fa HC4 HB4 HF4
    generalize w5.alloc (.cells (lnA sw n ao' tm ac' bo' nm bc' (u : Int) gd co' sm cc') 38) = w5a at *
    obtain ⟨mb5, emb⟩ : ∃ mb, mb = w5.heap.size := ⟨_, rfl⟩
    rw [← emb] at HL5 ⊢
    clear emb
    have SL5 : Hid ((Tryd.prog.info? 38).map (·.size) = some (lnA sw n ao' tm ac' bo' nm bc' (u : Int) gd co' sm cc').size) := sizeLn
    have SLR5 : Hid ((Tryd.prog.info? 35).map (·.size) = some (lnA sw n ao tm ac bo nm bc (u : Int) gd co sm cc).size) := sizeRl
    go_upto_region 10 with (first | refine wpList_load_row rfl 38 _ rfl mb5 rfl 38 _ (0, 0) _ HL5.out Tryd.underlying38 rfl SL5.out ?_ | refine wpList_load_row rfl 35 _ rfl B rfl 35 _ (0, 0) _ HB5.out Tryd.underlying35 rfl SLR5.out ?_ | (go_at_call 17; with_reducible refine (HEQ.out).mono ?_; rintro e w6 ⟨rfl, f6⟩) | (go_at_call 12; with_reducible refine (HAS.out _).mono ?_; rintro e w6a ⟨rfl, f6a⟩))
    have HF6 := hidd (fresh_trans HF5.out (fresh_trans f6 f6a))
    have HE6 := hidd (HE.out.fresh HF6.out)
    clear f6 f6a HEQ HAS HL5 HB5 HF5 SL5 SLR5 b1 b2
    have HC7 := hidd (HPT.out _ HE6.out)
    go_upto_region 11 with (go_at_call 16; (with_reducible refine (HC7.out).mono ?_); rintro e w7 ⟨⟨k7, n7, nums7, u7, g7, t7, st7, ao7, ac7, bo7, bc7, co7, cc7, q7, uq7, rfl, oa7, ob7, oc7⟩ | ⟨no7, rfl⟩, f7⟩)
    · have HR7 := hidd oa7.rdaW
      have HN7 := hidd ob7.rdaW
      have HS7 := hidd oc7.rdaW
      have hlq := q7.asc
      have HAS := hidd hlq.1
      have HQ7 := hidd q7
      have HTL := hidd hlq.2.2
      have fa := fresh_alloc w7 (.cells (lnA (strOfNums (wNm k7)) n7 ao7 t7.length ac7 bo7 nums7.length bc7 (u7 : Int) (strOfNums g7) co7 st7.length cc7) 38)
      have HL7 := hidd (Blk.new w7 38 (lnA (strOfNums (wNm k7)) n7 ao7 t7.length ac7 bo7 nums7.length bc7 (u7 : Int) (strOfNums g7) co7 st7.length cc7))
      have HF7 := hidd (fresh_trans HF6.out (fresh_trans f7 fa))
      have hl7 : t7.length ≤ 8192 ∧ g7.length ≤ 8192 ∧ st7.length ≤ 8192 ∧ (∀ s ∈ st7, s.length ≤ 8192) := q7.lens
      have HP7 : Hid (Calls Tryd.prog 14 #[.agg (lnA (strOfNums (wNm k7)) n7 ao7 t7.length ac7 bo7 nums7.length bc7 (u7 : Int) (strOfNums g7) co7 st7.length cc7)] (w7.alloc (.cells (lnA (strOfNums (wNm k7)) n7 ao7 t7.length ac7 bo7 nums7.length bc7 (u7 : Int) (strOfNums g7) co7 st7.length cc7) 38)) fun e w' => e = .returned (.tuple #[.string tx, .int .i64 0]) ∧ Below (w7.alloc (.cells (lnA (strOfNums (wNm k7)) n7 ao7 t7.length ac7 bo7 nums7.length bc7 (u7 : Int) (strOfNums g7) co7 st7.length cc7) 38)).heap.size (w7.alloc (.cells (lnA (strOfNums (wNm k7)) n7 ao7 t7.length ac7 bo7 nums7.length bc7 (u7 : Int) (strOfNums g7) co7 st7.length cc7) 38)) w') := by
        refine (print_any (nm_byt q7.kk).1 q7.bg (by omega) q7.bt (by omega) (fun s hs => ⟨q7.bs s hs, by have := hl7.2.2.2 s hs; omega⟩) (by omega) q7.us q7.nr (HE.out.fresh HF7.out) (HR7.out.fresh fa) (HN7.out.fresh fa) (HS7.out.fresh fa)).mono ?_
        rintro e w' ⟨⟨y, hy, rfl⟩ | ⟨hno, _⟩, hf⟩
        · rw [LineP.one hy q7.line, HTX.out]; exact ⟨rfl, hf⟩
        · exact absurd ⟨_, q7.line⟩ hno
      have HA7 := hidd (fun w => ascii_any HAS.out (by have := HTL.out; omega) w)
      rw [HTX.out] at HA7
      clear q7 uq7 oa7 ob7 oc7 f7 fa hlq HR7 HN7 HS7 HQ7 HAS hl7 HC7
      generalize strOfNums (wNm k7) = sw7 at *
      generalize strOfNums g7 = gd7 at *
      generalize t7.length = tm7 at *
      generalize nums7.length = nm7 at *
      generalize st7.length = sm7 at *
      generalize w7.alloc (.cells (lnA sw7 n7 ao7 tm7 ac7 bo7 nm7 bc7 (u7 : Int) gd7 co7 sm7 cc7) 38) = w8 at *
      obtain ⟨mb, emb⟩ : ∃ mb, mb = w7.heap.size := ⟨_, rfl⟩
      rw [← emb] at HL7 ⊢
      clear emb
      have SL7 : Hid ((Tryd.prog.info? 38).map (·.size) = some (lnA sw7 n7 ao7 tm7 ac7 bo7 nm7 bc7 (u7 : Int) gd7 co7 sm7 cc7).size) := sizeLn
      have he : (tx.toList == tx.toList) = true := by simp
      go_wp2_with (first | refine wpList_load_row rfl 38 _ rfl mb rfl 38 _ (0, 0) _ HL7.out Tryd.underlying38 rfl SL7.out ?_ | (go_at_call 14; with_reducible refine (HP7.out).mono ?_; rintro e w9 ⟨rfl, f9⟩) | (go_at_call 12; with_reducible refine (HA7.out _).mono ?_; rintro e w10 ⟨rfl, f10⟩))
      go_ret
      exact ⟨rfl, fresh_trans HF7.out (fresh_trans f9 f10)⟩
    · have fa := fresh_alloc w7 (.cells lz7 38)
      have HL7 := hidd (Blk.new w7 38 lz7)
      have HF7 := hidd (fresh_trans HF6.out (fresh_trans f7 fa))
      unfold lz7 at HL7 HF7
      clear f7 fa no7 HC7
      generalize w7.alloc (.cells #[.string ⟨#[]⟩, .int .i64 0, .slice none 0 0, .slice none 0 0, .int .u64 0, .string ⟨#[]⟩, .slice none 0 0] 38) = w8 at *
      obtain ⟨mb, emb⟩ : ∃ mb, mb = w7.heap.size := ⟨_, rfl⟩
      rw [← emb] at HL7 ⊢
      clear emb
      have SL7 : Hid ((Tryd.prog.info? 38).map (·.size) = some (#[.string ⟨#[]⟩, .int .i64 0, .slice none 0 0, .slice none 0 0, .int .u64 0, .string ⟨#[]⟩, .slice none 0 0] : Array Value).size) := sizeLn
      have HEZ := hidd (eqz w8)
      go_wp2_with (first | refine wpList_load_row rfl 38 _ rfl mb rfl 38 _ (0, 0) _ HL7.out Tryd.underlying38 rfl SL7.out ?_ | (go_at_call 17; with_reducible refine (HEZ.out).mono ?_; rintro e w9 ⟨rfl, f9⟩))
      go_ret
      exact ⟨rfl, fresh_trans HF7.out f9⟩
  · have HF6 := hidd (fresh_trans HF3.out f4)
    have HE6 := hidd (HE.out.fresh HF6.out)
    clear hno og1 og2 og3 f3 f4 HC HC3 HF3 HGV HPR HPX HTQ HB2
    go_upto_region 10 with fail
    have HC7 := hidd (HPT.out _ HE6.out)
    go_upto_region 11 with (go_at_call 16; (with_reducible refine (HC7.out).mono ?_); rintro e w7 ⟨⟨k7, n7, nums7, u7, g7, t7, st7, ao7, ac7, bo7, bc7, co7, cc7, q7, uq7, rfl, oa7, ob7, oc7⟩ | ⟨no7, rfl⟩, f7⟩)
    · have HR7 := hidd oa7.rdaW
      have HN7 := hidd ob7.rdaW
      have HS7 := hidd oc7.rdaW
      have hlq := q7.asc
      have HAS := hidd hlq.1
      have HQ7 := hidd q7
      have HTL := hidd hlq.2.2
      have fa := fresh_alloc w7 (.cells (lnA (strOfNums (wNm k7)) n7 ao7 t7.length ac7 bo7 nums7.length bc7 (u7 : Int) (strOfNums g7) co7 st7.length cc7) 38)
      have HL7 := hidd (Blk.new w7 38 (lnA (strOfNums (wNm k7)) n7 ao7 t7.length ac7 bo7 nums7.length bc7 (u7 : Int) (strOfNums g7) co7 st7.length cc7))
      have HF7 := hidd (fresh_trans HF6.out (fresh_trans f7 fa))
      have hl7 : t7.length ≤ 8192 ∧ g7.length ≤ 8192 ∧ st7.length ≤ 8192 ∧ (∀ s ∈ st7, s.length ≤ 8192) := q7.lens
      have HP7 : Hid (Calls Tryd.prog 14 #[.agg (lnA (strOfNums (wNm k7)) n7 ao7 t7.length ac7 bo7 nums7.length bc7 (u7 : Int) (strOfNums g7) co7 st7.length cc7)] (w7.alloc (.cells (lnA (strOfNums (wNm k7)) n7 ao7 t7.length ac7 bo7 nums7.length bc7 (u7 : Int) (strOfNums g7) co7 st7.length cc7) 38)) fun e w' => e = .returned (.tuple #[.string tx, .int .i64 0]) ∧ Below (w7.alloc (.cells (lnA (strOfNums (wNm k7)) n7 ao7 t7.length ac7 bo7 nums7.length bc7 (u7 : Int) (strOfNums g7) co7 st7.length cc7) 38)).heap.size (w7.alloc (.cells (lnA (strOfNums (wNm k7)) n7 ao7 t7.length ac7 bo7 nums7.length bc7 (u7 : Int) (strOfNums g7) co7 st7.length cc7) 38)) w') := by
        refine (print_any (nm_byt q7.kk).1 q7.bg (by omega) q7.bt (by omega) (fun s hs => ⟨q7.bs s hs, by have := hl7.2.2.2 s hs; omega⟩) (by omega) q7.us q7.nr (HE.out.fresh HF7.out) (HR7.out.fresh fa) (HN7.out.fresh fa) (HS7.out.fresh fa)).mono ?_
        rintro e w' ⟨⟨y, hy, rfl⟩ | ⟨hno, _⟩, hf⟩
        · rw [LineP.one hy q7.line, HTX.out]; exact ⟨rfl, hf⟩
        · exact absurd ⟨_, q7.line⟩ hno
      have HA7 := hidd (fun w => ascii_any HAS.out (by have := HTL.out; omega) w)
      rw [HTX.out] at HA7
      clear q7 uq7 oa7 ob7 oc7 f7 fa hlq HR7 HN7 HS7 HQ7 HAS hl7 HC7
      generalize strOfNums (wNm k7) = sw7 at *
      generalize strOfNums g7 = gd7 at *
      generalize t7.length = tm7 at *
      generalize nums7.length = nm7 at *
      generalize st7.length = sm7 at *
      generalize w7.alloc (.cells (lnA sw7 n7 ao7 tm7 ac7 bo7 nm7 bc7 (u7 : Int) gd7 co7 sm7 cc7) 38) = w8 at *
      obtain ⟨mb, emb⟩ : ∃ mb, mb = w7.heap.size := ⟨_, rfl⟩
      rw [← emb] at HL7 ⊢
      clear emb
      have SL7 : Hid ((Tryd.prog.info? 38).map (·.size) = some (lnA sw7 n7 ao7 tm7 ac7 bo7 nm7 bc7 (u7 : Int) gd7 co7 sm7 cc7).size) := sizeLn
      have he : (tx.toList == tx.toList) = true := by simp
      go_wp2_with (first | refine wpList_load_row rfl 38 _ rfl mb rfl 38 _ (0, 0) _ HL7.out Tryd.underlying38 rfl SL7.out ?_ | (go_at_call 14; with_reducible refine (HP7.out).mono ?_; rintro e w9 ⟨rfl, f9⟩) | (go_at_call 12; with_reducible refine (HA7.out _).mono ?_; rintro e w10 ⟨rfl, f10⟩))
      go_ret
      exact ⟨rfl, fresh_trans HF7.out (fresh_trans f9 f10)⟩
    · have fa := fresh_alloc w7 (.cells lz7 38)
      have HL7 := hidd (Blk.new w7 38 lz7)
      have HF7 := hidd (fresh_trans HF6.out (fresh_trans f7 fa))
      unfold lz7 at HL7 HF7
      clear f7 fa no7 HC7
      generalize w7.alloc (.cells #[.string ⟨#[]⟩, .int .i64 0, .slice none 0 0, .slice none 0 0, .int .u64 0, .string ⟨#[]⟩, .slice none 0 0] 38) = w8 at *
      obtain ⟨mb, emb⟩ : ∃ mb, mb = w7.heap.size := ⟨_, rfl⟩
      rw [← emb] at HL7 ⊢
      clear emb
      have SL7 : Hid ((Tryd.prog.info? 38).map (·.size) = some (#[.string ⟨#[]⟩, .int .i64 0, .slice none 0 0, .slice none 0 0, .int .u64 0, .string ⟨#[]⟩, .slice none 0 0] : Array Value).size) := sizeLn
      have HEZ := hidd (eqz w8)
      go_wp2_with (first | refine wpList_load_row rfl 38 _ rfl mb rfl 38 _ (0, 0) _ HL7.out Tryd.underlying38 rfl SL7.out ?_ | (go_at_call 17; with_reducible refine (HEZ.out).mono ?_; rintro e w9 ⟨rfl, f9⟩))
      go_ret
      exact ⟨rfl, fresh_trans HF7.out f9⟩
end Go.Proofs.YtemmghneohnigaaDoor
