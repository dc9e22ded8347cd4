import Derived.Test.YtemmghneohnigabDoorVW
namespace Go.Proofs.YtemmghneohnigabDoor
open Go.RowKit
/-! The reference's Parse of a text whose first word is of kind T. -/
namespace RsT
theorem sizeRL : (Tryd.prog.info? 32).map (·.size) = some 7 := by kernel_rfl
theorem numW_bd (l : List Int) : numW l ≤ 6 ∧ -1 ≤ numW l := by
  unfold numW
  split
  · omega
  · split
    · omega
    · split <;> omega
set_option maxRecDepth 20000 in
set_option maxHeartbeats 8000000 in
theorem go {w : World} {T : List Int} (hB : Byt T) (hN : T.length ≤ 8192) (hw : rwV T 0 = wNm 4) :
    Calls Tryd.prog 7 #[.string (strOfNums T)] w fun e w' => ParA T w e w' ∧ Below w.heap.size w w' := by
  have hsz : (strOfNums T).size = T.length := strOfNums_size T
  have hwB := rw_byt hB 0
  have HBW := hidd hwB
  have HBT := hidd hB
  have q0 := str_eq hwB (nm_byt (k := 0) (by omega)).1
  have q4 := str_eq hwB (nm_byt (k := 4) (by omega)).1
  rw [show strOfNums (wNm 0) = (⟨#[97, 115, 107]⟩ : ByteArray) from rfl, show (⟨#[97, 115, 107]⟩ : ByteArray).toList = [97, 115, 107] from by decide +kernel, decide_eq_false (fun e => by rw [hw] at e; exact absurd e (by decide))] at q0
  rw [show strOfNums (wNm 4) = (⟨#[116, 101, 120, 116]⟩ : ByteArray) from rfl, show (⟨#[116, 101, 120, 116]⟩ : ByteArray).toList = [116, 101, 120, 116] from by decide +kernel, decide_eq_true hw] at q4
  have HWD := hidd (fun (w1 : World) (h1 : Vw w1 (w.heap.size + 1) T 0) => word_any h1 hB hN)
  have HNU := hidd (fun (w1 : World) (p : Nat) (h1 : Vw w1 (w.heap.size + 1) T p) => number_any h1 hB hN)
  have HLI := hidd (fun (w1 : World) (p : Nat) (h1 : Vw w1 (w.heap.size + 1) T p) (hp : p ≤ T.length + 1) => literal_any h1 hB hN hp)
  have HNB := hidd (fun w1 => rnumbers_any hwB w1)
  have hc6 := numW_bd (rwV T 0)
  obtain ⟨c, EC⟩ : ∃ c, Hid (c = (numW (rwV T 0)).toNat) := ⟨_, rfl⟩
  have hcc : Hid (∀ j : Nat, decide ((j : Int) < numW (rwV T 0)) = decide (j < c)) := fun j => by rw [EC.out]; exact decide_eq_decide.2 (by omega)
  have hc6' : c ≤ 6 := by rw [EC.out]; omega
  have hp2 : (nxV T (nxV T 0)) ≤ T.length + 1 := nx_le (nx_le (Nat.zero_le _))
  have HW := hidd hw
  have HW0 : Hid (rwV T 0 ≠ wNm 0) := fun e => by rw [hw] at e; exact absurd e (by decide)
  clear hwB hw
  generalize hts : strOfNums T = tx at *
  have HTX := hidd hts
  clear hts
  obtain ⟨N, EN⟩ : ∃ N, Hid (N = T.length) := ⟨_, rfl⟩
  rw [← EN.out] at hsz hN hp2
  go_enter Tryd.func7, Tryd.ntmps7
  go_upto_region 5 with fail
  have HZ0 : Hid (Rz w T 0 [] 0 [] none 0 0 [] [] none 0 [] none 0 (((w.alloc (.cells #[.string ⟨#[]⟩, .int .i64 0, .slice none 0 0, .slice none 0 0, .int .u64 0, .string ⟨#[]⟩, .slice none 0 0] 32)).alloc (.cells #[.string tx, .int .i64 0] 57)).alloc (.cells #[.string ⟨#[]⟩, .int .i64 0, .slice none 0 0, .slice none 0 0, .int .u64 0, .string ⟨#[]⟩, .slice none 0 0] 32))) := by
    have f1 := fresh_alloc w (.cells #[.string ⟨#[]⟩, .int .i64 0, .slice none 0 0, .slice none 0 0, .int .u64 0, .string ⟨#[]⟩, .slice none 0 0] 32)
    have f2 := fresh_alloc (w.alloc (.cells #[.string ⟨#[]⟩, .int .i64 0, .slice none 0 0, .slice none 0 0, .int .u64 0, .string ⟨#[]⟩, .slice none 0 0] 32)) (.cells #[.string tx, .int .i64 0] 57)
    have f3 := fresh_alloc ((w.alloc (.cells #[.string ⟨#[]⟩, .int .i64 0, .slice none 0 0, .slice none 0 0, .int .u64 0, .string ⟨#[]⟩, .slice none 0 0] 32)).alloc (.cells #[.string tx, .int .i64 0] 57)) (.cells #[.string ⟨#[]⟩, .int .i64 0, .slice none 0 0, .slice none 0 0, .int .u64 0, .string ⟨#[]⟩, .slice none 0 0] 32)
    have e1 : (w.alloc (.cells #[.string ⟨#[]⟩, .int .i64 0, .slice none 0 0, .slice none 0 0, .int .u64 0, .string ⟨#[]⟩, .slice none 0 0] 32)).heap.size = w.heap.size + 1 := by simp
    have e2 : ((w.alloc (.cells #[.string ⟨#[]⟩, .int .i64 0, .slice none 0 0, .slice none 0 0, .int .u64 0, .string ⟨#[]⟩, .slice none 0 0] 32)).alloc (.cells #[.string tx, .int .i64 0] 57)).heap.size = w.heap.size + 2 := by simp
    have b1 := ((Blk.new w 32 #[.string ⟨#[]⟩, .int .i64 0, .slice none 0 0, .slice none 0 0, .int .u64 0, .string ⟨#[]⟩, .slice none 0 0]).fresh f2).fresh f3
    have b2 := (Blk.new (w.alloc (.cells #[.string ⟨#[]⟩, .int .i64 0, .slice none 0 0, .slice none 0 0, .int .u64 0, .string ⟨#[]⟩, .slice none 0 0] 32)) 57 #[.string tx, .int .i64 0]).fresh f3
    have b3 := Blk.new ((w.alloc (.cells #[.string ⟨#[]⟩, .int .i64 0, .slice none 0 0, .slice none 0 0, .int .u64 0, .string ⟨#[]⟩, .slice none 0 0] 32)).alloc (.cells #[.string tx, .int .i64 0] 57)) 32 #[.string ⟨#[]⟩, .int .i64 0, .slice none 0 0, .slice none 0 0, .int .u64 0, .string ⟨#[]⟩, .slice none 0 0]
    rw [e1] at b2
    rw [e2] at b3
    refine ⟨b1, ?_, b3, own_nil _ _ _ _ _, own_nil _ _ _ _ _, own_nil _ _ _ _ _, fresh_trans f1 (fresh_trans f2 f3)⟩
    unfold Vw
    rw [HTX.out]
    exact b2
  generalize ((w.alloc (.cells #[.string ⟨#[]⟩, .int .i64 0, .slice none 0 0, .slice none 0 0, .int .u64 0, .string ⟨#[]⟩, .slice none 0 0] 32)).alloc (.cells #[.string tx, .int .i64 0] 57)).alloc (.cells #[.string ⟨#[]⟩, .int .i64 0, .slice none 0 0, .slice none 0 0, .int .u64 0, .string ⟨#[]⟩, .slice none 0 0] 32) = w3 at *
  have HC1 := hidd (HWD.out _ HZ0.out.vw)
  go_upto_region 6 with (go_at_call 18; with_reducible refine (HC1.out).mono ?_; rintro e w4 ⟨rfl, v4, k4⟩; have z4 := HZ0.out.view v4 k4; have c0 := z4.ln.cell 0; have d0 := z4.ln.frozen 0; simp at c0)
  have HZ5 : Hid (Rz w T (nxV T 0) (rwV T 0) 0 [] none 0 0 [] [] none 0 [] none 0 (w4.setCell ⟨w.heap.size + 2, 0, none⟩ (.string (strOfNums (rwV T 0))))) := z4.set 0 _ rfl z4.on z4.ot z4.os
  clear v4 k4 z4 c0 d0 HC1 HZ0 HWD
  generalize w4.setCell ⟨w.heap.size + 2, 0, none⟩ (.string (strOfNums (rwV T 0))) = w5 at *
  have HC1 := hidd (HNU.out _ _ HZ5.out.vw)
  go_upto_region 7 with (go_at_call 19; with_reducible refine (HC1.out).mono ?_; rintro e w6 ⟨rfl, v6, k6⟩)
  have hz6 := HZ5.out.view v6 k6
  have c1 := hz6.ln.cell 1
  have d1 := hz6.ln.frozen 1
  simp at c1
  have HZ7 : Hid (Rz w T (nxV T (nxV T 0)) (rwV T 0) (ivV (rwV T (nxV T 0))) (numsV T (nxV T (nxV T 0)) 0) none 0 0 [] [] none 0 [] none 0 (w6.setCell ⟨w.heap.size + 2, 1, none⟩ (.int .i64 (ivV (rwV T (nxV T 0)))))) := hz6.set 1 _ rfl hz6.on hz6.ot hz6.os
  have hiv : IntKind.i64.wrap (nvV (rwV T (nxV T 0)) : Int) = ivV (rwV T (nxV T 0)) := rfl
  go_upto_region 8 with fail
  clear v6 k6 hz6 c1 d1 HC1 HZ5 hiv
  generalize w6.setCell ⟨w.heap.size + 2, 1, none⟩ (.int .i64 (ivV (rwV T (nxV T 0)))) = w7 at *
  go_wp2
  go_loopw [7] (fun i wr => ∃ (j : Nat) (bo : Option Addr) (bc : Nat), j ≤ c ∧ i = .int .i64 (j : Int) ∧ Hid (Rz w T (posV T (nxV T (nxV T 0)) j) (rwV T 0) (ivV (rwV T (nxV T 0))) (numsV T (nxV T (nxV T 0)) j) bo bc 0 [] [] none 0 [] none 0 wr)) (fun i _ => c - (intOf i).toNat)
  case atStart => exact ⟨0, none, 0, by omega, rfl, HZ7.out⟩
  case round =>
  clear HZ7
  obtain ⟨j, bo, bc, hj, rfl, hZ⟩ := hrel
  have b9 := hcc.out j
  have c0 := hZ.out.ln.cell 0
  simp at c0
  have HCN := hidd (HNB.out wr)
  by_cases hlt : j < c
  · rw [decide_eq_true hlt] at b9
    have hln := numsV_len T (nxV T (nxV T 0)) j
    have HNX : Hid (∀ (w9 : World) (w10 : World) (g' cap' : Nat), Vw w9 (w.heap.size + 1) T (nxV T (posV T (nxV T (nxV T 0)) j)) → True) := fun _ _ _ _ _ => trivial
    clear HNX
    go_upto_region 11 with (go_at_call 20; with_reducible refine (HCN.out).mono ?_; rintro e w8 ⟨rfl, f8⟩)
    have HZ8 := hidd (hZ.out.fresh f8)
    have HC1 := hidd (HNU.out _ _ HZ8.out.vw)
    clear f8 c0 HCN hZ
    go_upto_region 12 with (go_at_call 19; with_reducible refine (HC1.out).mono ?_; rintro e w9 ⟨rfl, v9, k9⟩)
    have z9 := HZ8.out.view v9 k9
    have c3 := z9.ln.cell 3
    simp at c3
    have hiv : IntKind.i64.wrap (nvV (rwV T (posV T (nxV T (nxV T 0)) j)) : Int) = ivV (rwV T (posV T (nxV T (nxV T 0)) j)) := rfl
    have HSU := hidd (numsV_succ T (nxV T (nxV T 0)) j)
    generalize hx : ivV (rwV T (posV T (nxV T (nxV T 0)) j)) = x at *
    generalize numsV T (nxV T (nxV T 0)) j = ns at *
    have HO : Hid (Own (w9.alloc (.cells #[.int .i64 x] 3)) w.heap.size 3 1 (.slice bo ns.length bc) ns.length (mkN (ns ++ [x]))) := (z9.on.kept (fresh_alloc w9 _)).congr (fun i hi => by unfold mkN; rw [List.getD_eq_getElem?_getD, List.getD_eq_getElem?_getD, List.getElem?_append_left (by omega)])
    have HAP := hidd (fun (w10 : World) (g' cap' : Nat) o10 a10 => z9.appN (x := x) (w7 := w10) (g' := g') (cap' := cap') o10 a10)
    have HMS : Hid (mkN (ns ++ [x]) ns.length = .int .i64 x) := mkN_snoc ns x
    have hbs : w.heap.size ≤ (w9.alloc (.cells #[.int .i64 x] 3)).heap.size := by have := z9.low.size; simp; omega
    obtain ⟨nl, ENL⟩ : ∃ nl, Hid (nl = ns.length) := ⟨_, rfl⟩
    simp only [← ENL.out] at HO HAP HMS c3 hln
    have hn6 : nl ≤ 6 := by omega
    clear hln
    clear v9 k9 z9 HZ8 HC1 hx
    go_wp2_with (at_builtin; refine wpList_app1 _ rfl _ _ 24 rfl w.heap.size 3 (.int .i64 0) 8 Tryd.underlying24 infoI rfl _ nl (mkN (ns ++ [x])) rfl HO.out _ 1 rfl (by rw [HMS.out]; exact new_cell _ _ _) (by rw [HMS.out]; rfl) (by omega) (by omega) hbs ?_; intro v10 w10 o10 a10; obtain ⟨g', cap', rfl, _⟩ := own_slice o10 (by omega); obtain ⟨n1, n2, n3⟩ := HAP.out w10 g' cap' o10 a10; have N3 := hidd n3; clear n3 o10 a10)
    go_roundw
    case rel => exact ⟨j + 1, some ⟨g', 0, none⟩, cap', by omega, by go_num, by rw [HSU.out]; exact N3.out⟩
    case measure => simp [intOf]; omega
  · rw [decide_eq_false hlt] at b9
    obtain rfl : c = j := by omega
    go_upto_region 13 with (go_at_call 20; with_reducible refine (HCN.out).mono ?_; rintro e w8 ⟨rfl, f8⟩)
    have HZ8 := hidd (hZ.out.fresh f8)
    clear f8 c0 HCN hZ HNB b9
    have e0 := HZ8.out.ln.cell 0
    simp at e0
    have hp3 := pos_le (T := T) (p := nxV T (nxV T 0)) (by rw [← EN.out]; exact hp2) c
    have HC1 := hidd (HLI.out _ _ HZ8.out.vw hp3)
    go_upto_region 18 with fail
    clear e0
    go_wp2_with (go_at_call 21; (with_reducible refine (HC1.out).mono ?_); rintro e w9 ⟨t, p4, ao, ac, rfl, hl4, v9, o9, k9⟩; have z9 := HZ8.out.view v9 k9; have c2 := z9.ln.cell 2; have d2 := z9.ln.frozen 2; simp at c2)
    have HL4 := hidd hl4
    have HZ9 : Hid (Rz w T p4 (rwV T 0) (ivV (rwV T (nxV T 0))) (numsV T (nxV T (nxV T 0)) c) bo bc 0 [] t ao ac [] none 0 (w9.setCell ⟨w.heap.size + 2, 2, none⟩ (.slice ao t.length ac))) := z9.set 2 _ rfl z9.on (o9.weaken HZ8.out.low.size) z9.os
    clear hl4 v9 o9 k9 z9 c2 d2 HC1 HZ8
    generalize w9.setCell ⟨w.heap.size + 2, 2, none⟩ (.slice ao t.length ac) = w10 at *
    go_loopw [] (fun wr => Hid (Rz w T p4 (rwV T 0) (ivV (rwV T (nxV T 0))) (numsV T (nxV T (nxV T 0)) c) bo bc 0 [] t ao ac [] none 0 wr)) (fun _ => 0)
    case atStart => exact HZ9.out
    case round =>
    clear HZ9
    have hZ9 := hidd hrel.out
    clear hrel
    have e0 := hZ9.out.ln.cell 0
    simp at e0
    go_upto_region 22 with fail
    clear e0
    have hRd : ReadV T (rwV T 0) (ivV (rwV T (nxV T 0))) (numsV T (nxV T (nxV T 0)) c) 0 [] t [] := ⟨rfl, rfl, posV T (nxV T (nxV T 0)) c, by rw [← EC.out], by rw [← EC.out], by rw [if_neg HW0.out, if_pos HW.out]; exact ⟨rfl, rfl, rfl, p4, HL4.out⟩⟩
    have HRd := hidd hRd
    clear hRd
    have hgB := byt_nil
    have htB := HL4.out.byt
    have htL := HL4.out.len
    rw [← EN.out] at htL
    have hsB : ∀ s ∈ ([] : List (List Int)), Byt s ∧ s.length ≤ 8192 := fun s hs => nomatch hs
    have huB : (0 : Nat) < 18446744073709551616 := by omega
    have hgl0 : ([] : List Int).length = 0 := rfl
    have hsl0 : ([] : List (List Int)).length = 0 := rfl
    have HPC := hidd (rprint_any (w := wr) (n := ivV (rwV T (nxV T 0))) HBW.out (g := []) (t := t) (nums := numsV T (nxV T (nxV T 0)) c) (u := 0) (st := []) hgB (by omega) htB (by omega) (fun s hs => ⟨(hsB s hs).1, by have := (hsB s hs).2; omega⟩) (by omega) huB (ivV_range _) (numsV_range _ _ _) hZ9.out.ot.rdaW hZ9.out.on.rdaW hZ9.out.os.rdaW)
    have HRZ := hZ9
    have HSZR : Hid ((lnA (strOfNums (rwV T 0)) (ivV (rwV T (nxV T 0))) ao (t : List Int).length ac bo (numsV T (nxV T (nxV T 0)) c).length bc ((0 : Nat) : Int) (strOfNums []) none ([] : List (List Int)).length 0).size = 7) := rfl
    have HONR : Hid ((lnA (strOfNums (rwV T 0)) (ivV (rwV T (nxV T 0))) ao (t : List Int).length ac bo (numsV T (nxV T (nxV T 0)) c).length bc ((0 : Nat) : Int) (strOfNums []) none ([] : List (List Int)).length 0).all (·.oneCell') = true) := by show _ = _; simp [Value.oneCell']
    by_cases hP : LineP (rwV T 0) (ivV (rwV T (nxV T 0))) (numsV T (nxV T (nxV T 0)) c) 0 [] t [] T
    · have HC9 : Hid (Calls Tryd.prog 22 #[.agg (lnA (strOfNums (rwV T 0)) (ivV (rwV T (nxV T 0))) ao (t : List Int).length ac bo (numsV T (nxV T (nxV T 0)) c).length bc ((0 : Nat) : Int) (strOfNums []) none ([] : List (List Int)).length 0)] wr fun e w' => e = .returned (.tuple #[.string tx, .int .i64 0]) ∧ Below wr.heap.size wr w') := by
        refine HPC.out.mono ?_
        rintro e w' ⟨⟨y, hy, rfl⟩ | ⟨hno, _⟩, hf⟩
        · rw [LineP.one hy hP, HTX.out]; exact ⟨rfl, hf⟩
        · exact absurd ⟨_, hP⟩ hno
      have HFIN : Hid (∀ w9 : World, Below wr.heap.size wr w9 → (ParA T w (.returned (.tuple #[.agg (lnA (strOfNums (rwV T 0)) (ivV (rwV T (nxV T 0))) ao (t : List Int).length ac bo (numsV T (nxV T (nxV T 0)) c).length bc ((0 : Nat) : Int) (strOfNums []) none ([] : List (List Int)).length 0), .int .i64 0])) (w9.setRow w.heap.size (lnA (strOfNums (rwV T 0)) (ivV (rwV T (nxV T 0))) ao (t : List Int).length ac bo (numsV T (nxV T (nxV T 0)) c).length bc ((0 : Nat) : Int) (strOfNums []) none ([] : List (List Int)).length 0)) ∧ Below w.heap.size w (w9.setRow w.heap.size (lnA (strOfNums (rwV T 0)) (ivV (rwV T (nxV T 0))) ao (t : List Int).length ac bo (numsV T (nxV T (nxV T 0)) c).length bc ((0 : Nat) : Int) (strOfNums []) none ([] : List (List Int)).length 0))) ∧ Blk w9 w.heap.size 32 lz7 ∧ Blk w9 (w.heap.size + 2) 32 (lnA (strOfNums (rwV T 0)) (ivV (rwV T (nxV T 0))) ao (t : List Int).length ac bo (numsV T (nxV T (nxV T 0)) c).length bc ((0 : Nat) : Int) (strOfNums []) none ([] : List (List Int)).length 0)) := fun w9 f9 => by
        have r9 := HRZ.out.fresh f9
        have cr := Chg.of_setRow w9 w.heap.size (lnA (strOfNums (rwV T 0)) (ivV (rwV T (nxV T 0))) ao (t : List Int).length ac bo (numsV T (nxV T (nxV T 0)) c).length bc ((0 : Nat) : Int) (strOfNums []) none ([] : List (List Int)).length 0)
        exact ⟨⟨par_good HRd.out hP (numsV_range _ _ _) huB hgB htB (fun s hs => (hsB s hs).1) (r9.ot.chg cr (fun x hx e => by subst e; exact r9.ot.ne_blk r9.res (by decide) hx)) (r9.on.chg cr (fun x hx e => by subst e; exact r9.on.ne_blk r9.res (by decide) hx)) (r9.os.chg cr (fun x hx e => by subst e; exact r9.os.ne_blk r9.res (by decide) hx)), below_setRow r9.low (Nat.le_refl _) _⟩, r9.res, r9.ln⟩
      have HLN := hidd HRZ.out.ln
      clear HPC HRd hP HRZ hZ9 hgB htB hsB huB
      generalize (lnA (strOfNums (rwV T 0)) (ivV (rwV T (nxV T 0))) ao (t : List Int).length ac bo (numsV T (nxV T (nxV T 0)) c).length bc ((0 : Nat) : Int) (strOfNums []) none ([] : List (List Int)).length 0) = ROW at *
      have SL7 : Hid ((Tryd.prog.info? 32).map (·.size) = some ROW.size) := by show _ = _; rw [HSZR.out]; exact sizeRL
      have he : (tx.toList == tx.toList) = true := by simp
      go_upto_region 23 with (first | refine wpList_load_row rfl 32 _ rfl (w.heap.size + 2) rfl 32 _ (0, 0) _ HLN.out Tryd.underlying32 rfl SL7.out ?_ | (go_at_call 22; with_reducible refine (HC9.out).mono ?_; rintro e w9 ⟨rfl, f9⟩))
      obtain ⟨q1, q3, q4⟩ := HFIN.out w9 f9
      have Q1 := hidd q1
      have Q3 := hidd q3
      have Q4 := hidd q4
      clear q1 q3 q4 f9 HFIN HC9
      unfold lz7 at Q3
      go_wp2_with (first | refine wpList_load_row rfl 32 _ rfl (w.heap.size + 2) rfl 32 _ (0, 0) _ Q4.out Tryd.underlying32 rfl SL7.out ?_ | refine wpList_store_row rfl 32 _ _ rfl w.heap.size ROW rfl rfl 32 _ Q3.out SL7.out (by rw [HSZR.out]; rfl) HONR.out ?_)
      refine bodyPost_ret (ret_cell_tmp Tryd.results7 _ _ w.heap.size 32 _ (0, 0) _ (.int .i64 0) rfl (Q3.out.set _) Tryd.underlying32 rfl SL7.out rfl) rfl ?_
      exact Q1.out
    · have HC9 : Hid (Calls Tryd.prog 22 #[.agg (lnA (strOfNums (rwV T 0)) (ivV (rwV T (nxV T 0))) ao (t : List Int).length ac bo (numsV T (nxV T (nxV T 0)) c).length bc ((0 : Nat) : Int) (strOfNums []) none ([] : List (List Int)).length 0)] wr fun e w' => ((∃ y : ByteArray, (y.toList == tx.toList) = false ∧ e = .returned (.tuple #[.string y, .int .i64 0])) ∨ e = .returned (.tuple #[.string ⟨#[]⟩, .int .i64 220])) ∧ Below wr.heap.size wr w') := by
        refine HPC.out.mono ?_
        rintro e w' ⟨⟨y, hy, rfl⟩ | ⟨hno, rfl⟩, hf⟩
        · refine ⟨.inl ⟨strOfNums y, ?_, rfl⟩, hf⟩
          obtain ⟨_, _, qy⟩ := hy.toQ (numsV_range _ _ _) huB hgB htB (fun s hs => (hsB s hs).1)
          rw [← HTX.out, str_eq qy.asc.1.byt HBT.out]
          exact decide_eq_false (fun e => hP (by have h9 := hy; rw [e] at h9; exact h9))
        · exact ⟨.inr rfl, hf⟩
      have HNO := hidd (read_only HRd.out hP)
      have HFIN : Hid (∀ w9 : World, Below wr.heap.size wr w9 → (ParA T w (.returned (.tuple #[.agg #[.string ⟨#[]⟩, .int .i64 0, .slice none 0 0, .slice none 0 0, .int .u64 0, .string ⟨#[]⟩, .slice none 0 0], .int .i64 220])) (w9.setRow w.heap.size #[.string ⟨#[]⟩, .int .i64 0, .slice none 0 0, .slice none 0 0, .int .u64 0, .string ⟨#[]⟩, .slice none 0 0]) ∧ Below w.heap.size w (w9.setRow w.heap.size #[.string ⟨#[]⟩, .int .i64 0, .slice none 0 0, .slice none 0 0, .int .u64 0, .string ⟨#[]⟩, .slice none 0 0])) ∧ Blk w9 w.heap.size 32 lz7) := fun w9 f9 => by
        have r9 := HRZ.out.fresh f9
        exact ⟨⟨.inr ⟨HNO.out, rfl⟩, below_setRow r9.low (Nat.le_refl _) _⟩, r9.res⟩
      have HLN := hidd HRZ.out.ln
      clear HPC HRd hP HRZ hZ9 hgB htB hsB huB
      generalize (lnA (strOfNums (rwV T 0)) (ivV (rwV T (nxV T 0))) ao (t : List Int).length ac bo (numsV T (nxV T (nxV T 0)) c).length bc ((0 : Nat) : Int) (strOfNums []) none ([] : List (List Int)).length 0) = ROW at *
      have SL7 : Hid ((Tryd.prog.info? 32).map (·.size) = some ROW.size) := by show _ = _; rw [HSZR.out]; exact sizeRL
      have SLZ : Hid ((Tryd.prog.info? 32).map (·.size) = some (#[.string ⟨#[]⟩, .int .i64 0, .slice none 0 0, .slice none 0 0, .int .u64 0, .string ⟨#[]⟩, .slice none 0 0] : Array Value).size) := sizeRL
      have S1Z : Hid ((#[.string ⟨#[]⟩, .int .i64 0, .slice none 0 0, .slice none 0 0, .int .u64 0, .string ⟨#[]⟩, .slice none 0 0] : Array Value).all (·.oneCell') = true) := by show _ = _; simp [Value.oneCell']
      go_upto_region 23 with (first | refine wpList_load_row rfl 32 _ rfl (w.heap.size + 2) rfl 32 _ (0, 0) _ HLN.out Tryd.underlying32 rfl SL7.out ?_ | (go_at_call 22; (with_reducible refine (HC9.out).mono ?_); rintro e w9 ⟨⟨y, hy, rfl⟩ | rfl, f9⟩))
      all_goals
        obtain ⟨q1, q3⟩ := HFIN.out w9 f9
        have Q1 := hidd q1
        have Q3 := hidd q3
        clear q1 q3 f9 HFIN HC9
        unfold lz7 at Q3
        go_wp2_with (refine wpList_store_row rfl 32 _ _ rfl w.heap.size _ rfl rfl 32 _ Q3.out SLZ.out rfl S1Z.out ?_)
        refine bodyPost_ret (ret_cell_tmp Tryd.results7 _ _ w.heap.size 32 _ (0, 0) _ (.int .i64 220) rfl (Q3.out.set _) Tryd.underlying32 rfl SLZ.out rfl) rfl ?_
        exact Q1.out
end RsT
end Go.Proofs.YtemmghneohnigabDoor
