import Derived.Test.YtemmghneohnigaaDoorVF
namespace Go.Proofs.YtemmghneohnigaaDoor
open Go.RowKit
/-! Parse of a text whose word is known, of kind A. -/
set_option maxRecDepth 20000 in
set_option maxHeartbeats 8000000 in
theorem parse_goA {w : World} {k : Nat} (hk : k < 6) (k0 : k = 0) {c : Nat} (hc : c = cntW k) (hc6 : c ≤ 6) (hW : wWd k = #[.string (strOfNums (wNm k)), .int .i64 (c : Int), .func (.func 59) #[] #[], .func (.func 60) #[] #[], .func (.func 61) #[] #[]])
    {text : List Int} (hB : Byt text) (hlen : text.length ≤ 8192) (ht : tw text = wNm k) (hE : Env w) :
    Calls Tryd.prog 16 #[.string (strOfNums text)] w fun e w' => ParA text w e w' ∧ Below w.heap.size w w' := by
  have hsz : (strOfNums text).size = text.length := strOfNums_size _
  have HUP := hidd (fun (w1 : World) rb f (h : Rdr w1 rb text f) => upto_any h hB (by omega))
  rw [ht] at HUP
  have HWO := hidd (fun w => wordOf_ok hk w)
  have HOK : Hid (Okl (some (dw text))) := fun r e => by
    cases e
    refine ⟨hB.dw, ?_⟩
    have := congrArg List.length (tw_dw text)
    rw [List.length_append] at this
    omega
  have HID := hidd (fun (w1 : World) rb (h : RdO w1 rb (some (dw text))) (h6 : 6 ≤ rb) (hE1 : Env w1) => id_u h HOK.out h6 hE1)
  have HNU := hidd (fun (w1 : World) rb s1 (h : RdO w1 rb s1) (hs1 : Okl s1) (h6 : 6 ≤ rb) (hE1 : Env w1) => number_u h hs1 h6 hE1)
  have HRC := hidd (fun (w1 : World) rb lb s1 c0 c1 c3 (h1 : RdO w1 rb s1) (hs1 : Okl s1) (_ : 6 ≤ rb) (_ : rb + 1 ≤ lb) (hE1 : Env w1) (hL : Blk w1 lb 38 #[c0, c1, .slice none 0 0, c3, .int .u64 0, .string ⟨#[]⟩, .slice none 0 0]) => show Calls Tryd.prog 59 #[.pointer (some ⟨rb, 0, none⟩), .pointer (some ⟨lb, 0, none⟩)] w1 fun e w' => ∃ u g t ao ac st co cc s', e = .returned (.tuple #[]) ∧ AskI w1 rb lb c0 c1 c3 u g t ao ac st co cc s' w' ∧ u < 18446744073709551616 ∧ TailR k s1 u g t st s' from by rw [k0]; exact readA h1 hs1 (by omega) (by omega) hE1 hL (by omega))
  have HEN := hidd (fun (w1 : World) rb s1 (h : RdO w1 rb s1) => ends_u h)
  have HFD := hidd (fun n nums s1 s2 s3 u g t st h1 h2 hl h3 => found_any (n := n) (nums := nums) (s1 := s1) (s2 := s2) (s3 := s3) (u := u) (g := g) (t := t) (st := st) hk hlen ht h1 h2 hl h3)
  have HE := hidd hE
  have hbig := hE.big
  have SW5 : Hid ((Tryd.prog.info? 63).map (·.size) = some (wWd k).size) := by
    show _ = _
    rw [(wWd_facts hk).1]; exact sizeWd
  have SO5 : Hid ((#[.string ⟨#[]⟩, .int .i64 0, .nilFunc, .nilFunc, .nilFunc] : Array Value).size = (wWd k).size) := by
    show _ = _
    rw [(wWd_facts hk).1]; rfl
  have S15 := hidd ((wWd_facts hk).2.1)
  have HC9 := hidd hc
  have HBT := hidd hB
  obtain ⟨sw, esw⟩ : ∃ sw, sw = strOfNums (wNm k) := ⟨_, rfl⟩
  have ESW := hidd esw
  rw [← esw] at HUP HWO hW
  have HWK := hidd hW
  clear ht hE hB hc hW esw k0
  generalize hT : wWd k = T at *
  clear hT
  generalize hts : strOfNums text = tx at *
  have HTS := hidd hts
  clear hts
  obtain ⟨N, eN⟩ : ∃ N, N = text.length := ⟨_, rfl⟩
  rw [← eN] at hsz hlen
  clear eN
  go_enter Tryd.func16, Tryd.ntmps16
  go_upto_region 4 with fail
  have HZ0 := hidd ((Blk.new w 38 lz7).fresh (fresh_alloc _ (.cells #[.string tx, .bool false] 72)))
  have HR0 : Hid (Rdr ((w.alloc (.cells lz7 38)).alloc (.cells #[.string tx, .bool false] 72)) (w.heap.size + 1) text false) := by
    have := Blk.new (w.alloc (.cells lz7 38)) 72 #[.string tx, .bool false]
    have e : (w.alloc (.cells lz7 38)).heap.size = w.heap.size + 1 := by simp
    rw [e] at this
    show Rdr _ _ _ _
    unfold Rdr
    rw [HTS.out]
    exact this
  have HF0 := hidd (fresh_trans (fresh_alloc w (.cells lz7 38)) (fresh_alloc _ (.cells #[.string tx, .bool false] 72)))
  unfold lz7 at HZ0 HR0 HF0
  generalize (w.alloc (.cells #[.string ⟨#[]⟩, .int .i64 0, .slice none 0 0, .slice none 0 0, .int .u64 0, .string ⟨#[]⟩, .slice none 0 0] 38)).alloc (.cells #[.string tx, .bool false] 72) = w2 at *
  obtain ⟨R, eR⟩ : ∃ R, R = w.heap.size := ⟨_, rfl⟩
  have ER := hidd eR
  rw [← eR] at HZ0 HR0 ⊢
  have hR6 : 6 ≤ R := by omega
  have HE2 := hidd (HE.out.fresh HF0.out)
  clear eR
  go_upto_region 5 with (first | (go_at_call 34; with_reducible refine (HUP.out _ _ _ HR0.out).mono ?_; rintro e w3 ⟨rfl, r3, k3⟩) | (go_at_call 29; with_reducible refine (HWO.out _).mono ?_; rintro e w4 ⟨rfl, f4⟩) | refine wpList_store_row rfl 63 _ _ rfl w4.heap.size T rfl rfl 63 _ (Blk.new _ _ _) SW5.out SO5.out S15.out ?_)
  have hB5 := (Blk.new w4 63 #[.string ⟨#[]⟩, .int .i64 0, .nilFunc, .nilFunc, .nilFunc]).set T
  have hF5 := below_setRow (fresh_alloc w4 (.cells #[.string ⟨#[]⟩, .int .i64 0, .nilFunc, .nilFunc, .nilFunc] 63)) (Nat.le_refl _) T
  generalize (w4.alloc (.cells #[.string ⟨#[]⟩, .int .i64 0, .nilFunc, .nilFunc, .nilFunc] 63)).setRow w4.heap.size T = w5 at *
  have hf45 := fresh_trans f4 hF5
  have HR5 : Hid (RdO w5 (R + 1) (some (dw text))) := r3.fresh hf45
  have HZ5 := hidd ((HZ0.out.chg k3 (by omega)).fresh hf45)
  have k5 := k3.post hf45
  have HE5 := hidd (HE2.out.chg k5 (fun x hx => by omega))
  have HF5 : Hid (Below w.heap.size w w5) := k5.below HF0.out (by have := HF0.out.size; omega) (fun x hx => by rw [hx, ER.out]; omega)
  rw [HWK.out] at hB5
  obtain ⟨wb, ewb⟩ : ∃ wb, wb = w4.heap.size := ⟨_, rfl⟩
  rw [← ewb] at hB5 ⊢
  have hwb1 : R + 2 ≤ wb := by
    have := HR0.out.cells.2.2.2
    have := k3.size
    have := f4.size
    omega
  have hwb2 := hB5.lt
  have HB5 := hidd hB5
  clear hB5 hF5 hf45 r3 f4 k3 k5 HUP HWO HR0 HZ0 HE2 HF0 SW5 SO5 S15 HE ewb
  go_upto_region 7 with fail
  have x0 := HB5.out.cell 0
  simp at x0
  have HBC : Hid (∀ w6 : World, ∀ u6 : World, Below w5.heap.size w5 u6 → Chg u6 w6 (fun b => b = R + 1) → w6.cell? ⟨wb, 0, none⟩ = some (.string sw)) := fun w6 u6 h1 h2 => by
    have := ((HB5.out.fresh h1).chg h2 (by omega)).cell 0
    simpa using this
  have HA : Hid (∀ (w6 : World) (n : Int) (s1 : Option (List Int)), StepR GId (some (dw text)) n s1 → RdO w6 (R + 1) s1 → Chg w5.drew w6 (fun b => b = R + 1) → P8 w R wb w6.heap.size #[.string sw, .int .i64 (c : Int), .func (.func 59) #[] #[], .func (.func 60) #[] #[], .func (.func 61) #[] #[]] sw n [] none 0 s1 (w6.alloc (.cells #[.string sw, .int .i64 n, .slice none 0 0, .slice none 0 0, .int .u64 0, .string ⟨#[]⟩, .slice none 0 0] 38))) := fun w6 n s1 q6 r6 k6 => by
    have k := (Chg.of_below (fun b => b = R + 1) (Below.refl w5.heap.size w5).drew).trans k6 (fun _ _ h => h)
    have fa := fresh_alloc w6 (.cells #[.string sw, .int .i64 n, .slice none 0 0, .slice none 0 0, .int .u64 0, .string ⟨#[]⟩, .slice none 0 0] 38)
    have hlow : Below w.heap.size w w6 := k.below HF5.out HF5.out.size (fun x hx => by rw [hx, ER.out]; omega)
    refine ⟨Blk.new _ _ _, r6.fresh fa, (HE5.out.chg k (fun x hx => by omega)).fresh fa, (HB5.out.chg k (by omega)).fresh fa, (HZ5.out.chg k (by omega)).fresh fa, fresh_trans hlow fa, ?_, own_nil _ _ _ _ _, HOK.out.id q6⟩
    have := k.size
    omega
  have HBB : Hid (∀ (w6 : World) (n : Int) (s1 : Option (List Int)), StepR GId (some (dw text)) n s1 → RdO w6 (R + 1) s1 → Chg (w5.alloc (.cells #[.string ⟨#[]⟩, .int .i64 0, .slice none 0 0, .slice none 0 0, .int .u64 0, .string ⟨#[]⟩, .slice none 0 0] 38)).drew w6 (fun b => b = R + 1) → P8 w R wb w5.heap.size #[.string sw, .int .i64 (c : Int), .func (.func 59) #[] #[], .func (.func 60) #[] #[], .func (.func 61) #[] #[]] sw n [] none 0 s1 (((((((w6.setCell ⟨w5.heap.size, 0, none⟩ (.string sw)).setCell ⟨w5.heap.size, 1, none⟩ (.int .i64 n)).setCell ⟨w5.heap.size, 2, none⟩ (.slice none 0 0)).setCell ⟨w5.heap.size, 3, none⟩ (.slice none 0 0)).setCell ⟨w5.heap.size, 4, none⟩ (.int .u64 0)).setCell ⟨w5.heap.size, 5, none⟩ (.string ⟨#[]⟩)).setCell ⟨w5.heap.size, 6, none⟩ (.slice none 0 0))) := fun w6 n s1 q6 r6 k6 => by
    have fa := (fresh_alloc w5 (.cells #[.string ⟨#[]⟩, .int .i64 0, .slice none 0 0, .slice none 0 0, .int .u64 0, .string ⟨#[]⟩, .slice none 0 0] 38)).drew
    have k := (Chg.of_below (fun b => b = R + 1) fa).trans k6 (fun _ _ h => h)
    have L6 := ((Blk.new w5 38 #[.string ⟨#[]⟩, .int .i64 0, .slice none 0 0, .slice none 0 0, .int .u64 0, .string ⟨#[]⟩, .slice none 0 0]).fresh (Below.refl _ _).drew).chg k6 (by omega)
    have c7 := chg_set7 w6 w5.heap.size (.string sw) (.int .i64 n) (.slice none 0 0) (.slice none 0 0) (.int .u64 0) (.string ⟨#[]⟩) (.slice none 0 0)
    have hlow : Below w.heap.size w w6 := k.below HF5.out HF5.out.size (fun x hx => by rw [hx, ER.out]; omega)
    have hz5 := HF5.out.size
    have hk := k.size
    refine ⟨(((((((L6.put 0 _).put 1 _).put 2 _).put 3 _).put 4 _).put 5 _).put 6 _), r6.chg c7 (by omega), (HE5.out.chg k (fun x hx => by omega)).chg c7 (fun x hx => by omega), (HB5.out.chg k (by omega)).chg c7 (by omega), (HZ5.out.chg k (by omega)).chg c7 (by omega), c7.below hlow (by omega) (fun x hx => by omega), by omega, own_nil _ _ _ _ _, HOK.out.id q6⟩
  have h61 : 6 ≤ R + 1 := by omega
  go_cut [7, 22, 23, 24, 25] (fun p _ _ _ _ wx => ∃ n s1 lb, p = .pointer (some ⟨lb, 0, none⟩) ∧ Hid (StepR GId (some (dw text)) n s1) ∧ Hid (P8 w R wb lb #[.string sw, .int .i64 (c : Int), .func (.func 59) #[] #[], .func (.func 60) #[] #[], .func (.func 61) #[] #[]] sw n [] none 0 s1 wx))
  case first =>
    go_region_with (first
      | (go_at_call 35; with_reducible refine (HID.out _ _ (HR5.out.fresh (Below.refl _ _).drew) h61 (HE5.out.fresh (Below.refl _ _).drew)).mono ?_; rintro e w6 ⟨n, s1, rfl, q6, r6, k6⟩; have y0 := HBC.out _ _ (Below.refl _ _).drew k6; have y1 := fresh_cell (fresh_alloc w6 (.cells #[.string ⟨#[]⟩, .int .i64 0, .slice none 0 0, .slice none 0 0, .int .u64 0, .string ⟨#[]⟩, .slice none 0 0] 38)) y0)
      | (go_at_call 35; with_reducible refine (HID.out _ _ (HR5.out.fresh (fresh_alloc w5 _).drew) h61 (HE5.out.fresh (fresh_alloc w5 _).drew)).mono ?_; rintro e w6 ⟨n, s1, rfl, q6, r6, k6⟩; have y0 := HBC.out _ _ (fresh_alloc w5 _).drew k6; have L6 := ((Blk.new w5 38 #[.string ⟨#[]⟩, .int .i64 0, .slice none 0 0, .slice none 0 0, .int .u64 0, .string ⟨#[]⟩, .slice none 0 0]).fresh (Below.refl _ _).drew).chg k6 (by omega); have l0 := L6.cell 0; have l1 := L6.cell 1; have l2 := L6.cell 2; have l3 := L6.cell 3; have l4 := L6.cell 4; have l5 := L6.cell 5; have l6 := L6.cell 6; simp at l0 l1 l2 l3 l4 l5 l6; have lf := L6.frozen))
    all_goals
      go_wp2_with fail
      go_meet
      case rel =>
        first
          | (have _ := L6; with_reducible exact ⟨n, s1, w5.heap.size, rfl, hidd q6, hidd (HBB.out w6 n s1 q6 r6 k6)⟩)
          | (have _ := y1; with_reducible exact ⟨n, s1, w6.heap.size, rfl, hidd q6, hidd (HA.out w6 n s1 q6 r6 k6)⟩)
  case rest =>
    obtain ⟨n, s1, lb, rfl, HQ6, HP9⟩ := hcut
    clear x0 HBC HA HBB HB5 HZ5 HE5 HF5 HR5 HID hwb2
    have p1 := HP9.out.wdb.cell 1
    simp at p1
    have hlbb := HP9.out.big
    go_wp2
    clear p1
    go_loopw [28] (fun i wr => ∃ nums bo bc s2, nums.length ≤ c ∧ i = .int .i64 (nums.length : Int) ∧ Hid (P8 w R wb lb #[.string sw, .int .i64 (c : Int), .func (.func 59) #[] #[], .func (.func 60) #[] #[], .func (.func 61) #[] #[]] sw n nums bo bc s2 wr) ∧ Hid (ManyR GNum s1 nums s2)) (fun i _ => c - (intOf i).toNat)
    case atStart => exact ⟨[], none, 0, s1, by simp, rfl, HP9.out, ManyR.nil _⟩
    case round =>
      clear HP9
      obtain ⟨nums, bo, bc, s2, hnl, rfl, hP, hM⟩ := hrel
      have j0 : (0 : Int) ≤ (nums.length : Int) := Int.natCast_nonneg _
      have EJ : ∃ j, j = nums.length := ⟨_, rfl⟩
      by_cases hlt : nums.length < c
      · have y3 := (hP.out.ln.fresh (Below.refl _ _).drew).cell 3
        simp at y3
        have HC := hidd (HNU.out _ _ _ (hP.out.rd.fresh (Below.refl _ _).drew) hP.out.ok h61 (hP.out.env.fresh (Below.refl _ _).drew))
        have HNX := hidd (fun (w8 : World) (x : Int) (s3 : Option (List Int)) (r8 : RdO w8 (R + 1) s3) (k8 : Chg wr.drew w8 (fun b => b = R + 1)) (q8 : StepR GNum s2 x s3) w9 g' cap' o9 a9 => hP.out.next ER.out hR6 r8 k8 q8 (w7 := w9) (g' := g') (cap' := cap') o9 a9)
        have HY3 : Hid (∀ (w8 : World) (x : Int), Chg wr.drew w8 (fun b => b = R + 1) → w8.cell? ⟨lb, 3, none⟩ = some (.slice bo nums.length bc) ∧ (w8.alloc (.cells #[.int .i64 x] 3)).cell? ⟨lb, 3, none⟩ = some (.slice bo nums.length bc) ∧ Own (w8.alloc (.cells #[.int .i64 x] 3)) w.heap.size 3 1 (.slice bo nums.length bc) nums.length (mkN (nums ++ [x])) ∧ w.heap.size ≤ (w8.alloc (.cells #[.int .i64 x] 3)).heap.size) := fun w8 x k8 => by
          have k := Chg.pre (Below.refl wr.heap.size wr).drew k8
          have l8 := hP.out.ln.chg k (by omega)
          have o8 := hP.out.own.chg k (fun x hx e => by subst e; exact hP.out.own.ne_blk hP.out.rd.blk (by decide) hx)
          have fa := fresh_alloc w8 (.cells #[.int .i64 x] 3)
          refine ⟨by have := l8.cell 3; simpa using this, by have := (l8.fresh fa).cell 3; simpa using this, (o8.kept fa).congr (fun j hj => by unfold mkN; rw [List.getD_eq_getElem?_getD, List.getD_eq_getElem?_getD, List.getElem?_append_left (by omega)]), ?_⟩
          have := hP.out.low.size
          have := k.size
          simp
          omega
        have HMS : Hid (∀ x, mkN (nums ++ [x]) nums.length = .int .i64 x) := mkN_snoc nums
        obtain ⟨j, ej⟩ := EJ
        have EJ := hidd ej
        rw [← ej] at y3 HNX HY3 HMS hlt hnl j0 ⊢
        clear ej
        have hj1 : (j : Int) < (c : Int) := by omega
        go_wp2
        go_region_law (first
          | (refine step_app1 _ (by rfl) _ _ _ (by rfl) w.heap.size 3 (.int .i64 0) 8 Tryd.underlying31 infoI rfl _ j (mkN (nums ++ [x])) (by rfl) Z3.out w8.heap.size 1 (by rfl) HX.out (by rw [HMS.out]; rfl) (by omega) (by omega) Z4.out ?_; intro g' cap' w9 ho9 ha9; obtain ⟨n1, n2, n3⟩ := HNX.out w8 x s3 r8 k8 q8 w9 g' cap' ho9 ha9; have N3 := hidd n3; clear n3 ho9 ha9)
          | (go_simp; go_at_call 36; with_reducible refine (HC.out).mono ?_; rintro e w8 ⟨x, s3, rfl, q8, r8, k8⟩; obtain ⟨z1, z2, z3, z4⟩ := HY3.out w8 x k8; have Z3 := hidd z3; have Z4 := hidd z4; clear z3 z4; have HX : Hid ((w8.alloc (.cells #[.int .i64 x] 3)).cell? ⟨w8.heap.size, 0, none⟩ = some (mkN (nums ++ [x]) j)) := (by rw [HMS.out]; exact hidd (new_cell _ _ _))))
        all_goals (
          have HMX := hidd (ManyR.snoc hM.out q8)
          go_wp2
          go_roundw
          case rel => exact ⟨nums ++ [x], some ⟨g', 0, none⟩, cap', s3, by simp; rw [← EJ.out]; omega, by rw [List.length_append, ← EJ.out]; go_num, N3.out, HMX.out⟩
          case measure => simp [intOf]; omega)
      · have hcn : nums.length = c := by omega
        have b2 : ¬ (nums.length : Int) < (c : Int) := by omega
        have b3 : decide ((nums.length : Int) < (c : Int)) = false := by simp; omega
        have p2 := hP.out.wdb.cell 2
        simp at p2
        have HC := hidd (HRC.out wr (R + 1) lb s2 _ _ _ hP.out.rd hP.out.ok h61 (by omega) hP.out.env hP.out.ln)
        clear EJ
        have HCN := hidd hcn
        clear hcn
        go_upto_region 13 with (go_at_call 59; with_reducible refine (HC.out).mono ?_; rintro e w8 ⟨u, g, t, ao, ac, st, co, cc, s3, rfl, hI, hu, hT⟩)
        have HFO := hidd (HFD.out n nums s1 s2 s3 u g t st HQ6.out hM.out (by rw [HCN.out, HC9.out]) hT)
        have HC2 := hidd (HEN.out _ _ _ hI.rd)
        have HZ8 := hidd (hP.out.res.chg hI.chg (by rintro (e | e) <;> omega))
        have HL8 := hidd hI.ln
        have HLW : Hid (Below w.heap.size w w8) := hI.chg.below hP.out.low hP.out.low.size (fun x hx => by rw [← ER.out]; rcases hx with hx | hx <;> omega)
        have HOS : Hid (Own w8 w.heap.size 5 1 (.slice ao t.length ac) t.length (byc t) ∧ Own w8 w.heap.size 3 1 (.slice bo nums.length bc) nums.length (mkN nums) ∧ Own w8 w.heap.size 9 1 (.slice co st.length cc) st.length (stc st)) := by
          have hz := hP.out.low.size
          refine ⟨hI.ot.weaken hz, hP.out.own.chg hI.chg (fun x hx e => ?_), hI.os.weaken hz⟩
          rcases e with e | e
          · subst e; exact hP.out.own.ne_blk hP.out.rd.blk (by decide) hx
          · subst e; exact hP.out.own.ne_blk hP.out.ln (by decide) hx
        have HLO : Hid (R = w.heap.size) := ER.out
        clear hI hT HC HRC HEN HFD HNU hP hM p2
        by_cases hs3 : s3 = some []
        · have hd : decide (s3 = some []) = true := decide_eq_true hs3
          rw [hd] at HC2
          have HQ := hidd (HFO.out.1 hs3)
          have HUQ := hidd (fun k' n' nums' u' g' t' st' q => (HFO.out.2 k' n' nums' u' g' t' st' q).2)
          clear hd hs3 HFO
          have HFIN : Hid (ParA text w (.returned (.tuple #[.agg #[.string sw, .int .i64 n, .slice ao t.length ac, .slice bo nums.length bc, .int .u64 (u : Int), .string (strOfNums g), .slice co st.length cc], .int .i64 0])) (w8.setRow R #[.string sw, .int .i64 n, .slice ao t.length ac, .slice bo nums.length bc, .int .u64 (u : Int), .string (strOfNums g), .slice co st.length cc]) ∧ Below w.heap.size w (w8.setRow R #[.string sw, .int .i64 n, .slice ao t.length ac, .slice bo nums.length bc, .int .u64 (u : Int), .string (strOfNums g), .slice co st.length cc])) := by
            have cr := Chg.of_setRow w8 R #[.string sw, .int .i64 n, .slice ao t.length ac, .slice bo nums.length bc, .int .u64 (u : Int), .string (strOfNums g), .slice co st.length cc]
            obtain ⟨o1, o2, o3⟩ := HOS.out
            refine ⟨.inl ⟨k, n, nums, u, g, t, st, ao, ac, bo, bc, co, cc, HQ.out, HUQ.out, by rw [ESW.out], o1.chg cr (fun x hx e => by subst e; exact o1.ne_blk HZ8.out (by decide) hx), o2.chg cr (fun x hx e => by subst e; exact o2.ne_blk HZ8.out (by decide) hx), o3.chg cr (fun x hx e => by subst e; exact o3.ne_blk HZ8.out (by decide) hx)⟩, ?_⟩
            exact below_setRow HLW.out (by rw [HLO.out]; exact Nat.le_refl _) _
          clear HOS HLW HQ HUQ
          generalize t.length = tm at *
          generalize nums.length = nm at *
          generalize st.length = sm at *
          generalize strOfNums g = gd at *
          have SL7 : Hid ((Tryd.prog.info? 38).map (·.size) = some (#[.string sw, .int .i64 n, .slice ao tm ac, .slice bo nm bc, .int .u64 (u : Int), .string gd, .slice co sm cc] : Array Value).size) := sizeLn
          have S17 : Hid ((#[.string sw, .int .i64 n, .slice ao tm ac, .slice bo nm bc, .int .u64 (u : Int), .string gd, .slice co sm cc] : Array Value).all (·.oneCell') = true) := by show _ = _; simp [Value.oneCell']
          go_wp2_with (first | (go_at_call 37; with_reducible refine (HC2.out).mono ?_; rintro e w9 ⟨rfl, hw9⟩; rw [hw9]; clear hw9) | refine wpList_load_row rfl 38 _ rfl lb rfl 38 _ (0, 0) _ HL8.out Tryd.underlying38 rfl SL7.out ?_ | refine wpList_store_row rfl 38 _ _ rfl R _ rfl rfl 38 _ HZ8.out SL7.out rfl S17.out ?_)
          refine bodyPost_ret (ret_cell_tmp Tryd.results16 _ _ R 38 _ (0, 0) _ (.int .i64 0) rfl (HZ8.out.set _) Tryd.underlying38 rfl SL7.out rfl) rfl ?_
          exact HFIN.out
        · have hd : decide (s3 = some []) = false := decide_eq_false hs3
          rw [hd] at HC2
          have HFIN : Hid (ParA text w (.returned (.tuple #[.agg #[.string ⟨#[]⟩, .int .i64 0, .slice none 0 0, .slice none 0 0, .int .u64 0, .string ⟨#[]⟩, .slice none 0 0], .int .i64 220])) (w8.setRow R #[.string ⟨#[]⟩, .int .i64 0, .slice none 0 0, .slice none 0 0, .int .u64 0, .string ⟨#[]⟩, .slice none 0 0]) ∧ Below w.heap.size w (w8.setRow R #[.string ⟨#[]⟩, .int .i64 0, .slice none 0 0, .slice none 0 0, .int .u64 0, .string ⟨#[]⟩, .slice none 0 0])) := by
            refine ⟨.inr ⟨?_, rfl⟩, below_setRow HLW.out (by rw [HLO.out]; exact Nat.le_refl _) _⟩
            rintro ⟨k', n', nums', u', g', t', st', q⟩
            exact hs3 (HFO.out.2 k' n' nums' u' g' t' st' q).1
          clear hd hs3 HFO HOS HLW
          have SL7 : Hid ((Tryd.prog.info? 38).map (·.size) = some (#[.string ⟨#[]⟩, .int .i64 0, .slice none 0 0, .slice none 0 0, .int .u64 0, .string ⟨#[]⟩, .slice none 0 0] : Array Value).size) := sizeLn
          have S17 : Hid ((#[.string ⟨#[]⟩, .int .i64 0, .slice none 0 0, .slice none 0 0, .int .u64 0, .string ⟨#[]⟩, .slice none 0 0] : Array Value).all (·.oneCell') = true) := by show _ = _; simp [Value.oneCell']
          go_wp2_with (first | (go_at_call 37; with_reducible refine (HC2.out).mono ?_; rintro e w9 ⟨rfl, hw9⟩; rw [hw9]; clear hw9) | refine wpList_store_row rfl 38 _ _ rfl R _ rfl rfl 38 _ HZ8.out SL7.out rfl S17.out ?_)
          refine bodyPost_ret (ret_cell_tmp Tryd.results16 _ _ R 38 _ (0, 0) _ (.int .i64 220) rfl (HZ8.out.set _) Tryd.underlying38 rfl SL7.out rfl) rfl ?_
          exact HFIN.out
end Go.Proofs.YtemmghneohnigaaDoor
