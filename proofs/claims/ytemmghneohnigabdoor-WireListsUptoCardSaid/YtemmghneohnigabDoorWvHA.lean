import Derived.Test.YtemmghneohnigabDoorVE
namespace Go.Proofs.YtemmghneohnigabDoor
open Go.RowKit
/-! The reference's Print of a line whose word is known, of kind A. -/
namespace RpA
set_option maxRecDepth 20000 in
set_option maxHeartbeats 4000000 in
theorem bad3 {w : World} {k : Nat} (hk : k < 6) (k0 : k = 0) {n : Int} {t g nums : List Int} {u : Nat} {st : List (List Int)} {ao bo co : Option Addr} {ac bc cc : Nat} (hg : Byt g) (hgl : g.length ≤ 2097152) (ht : Byt t) (htl : t.length ≤ 2097152) (hst : ∀ s ∈ st, Byt s ∧ s.length ≤ 2097152) (hsl : st.length ≤ 1048576) (hu64 : u < 18446744073709551616) (hni : -9223372036854775808 ≤ n ∧ n ≤ 9223372036854775807) (hnr : ∀ x ∈ nums, -9223372036854775808 ≤ x ∧ x ≤ 9223372036854775807)
    (hr : RdA w ao 1 t.length ac (byc t)) (hn : RdA w bo 1 nums.length bc (fun j => .int .i64 (nums.getD j 0))) (hs : RdA w co 1 st.length cc (stc st)) (h : nums.length ≠ cntW k ∨ (nums.length = cntW k ∧ n < 0) ∨ (nums.length = cntW k ∧ 0 ≤ n ∧ 2147483647 < n)) :
    Calls Tryd.prog 22 #[.agg (lnA (strOfNums (wNm k)) n ao t.length ac bo nums.length bc (u : Int) (strOfNums g) co st.length cc)] w fun e w' => e = .returned (.tuple #[.string ⟨#[]⟩, .int .i64 220]) ∧ Below w.heap.size w w' := by
  have _u : True := by
    have _ := k0; have _ := hg; have _ := hgl; have _ := ht; have _ := htl; have _ := hst; have _ := hu64; have _ := hnr; have _ := hni
    trivial
  clear _u
  have hnmb := nm_byt hk
  have hnw : numW (wNm k) = (cntW k : Int) := numW_nm hk
  have q0 := str_eq hnmb.1 (nm_byt (k := 0) (by omega)).1
  have q4 := str_eq hnmb.1 (nm_byt (k := 4) (by omega)).1
  rw [show strOfNums (wNm 0) = (⟨#[97, 115, 107]⟩ : ByteArray) from rfl, show (⟨#[97, 115, 107]⟩ : ByteArray).toList = [97, 115, 107] from by decide +kernel, decide_eq_true (by rw [k0])] at q0
  rw [show strOfNums (wNm 4) = (⟨#[116, 101, 120, 116]⟩ : ByteArray) from rfl, show (⟨#[116, 101, 120, 116]⟩ : ByteArray).toList = [116, 101, 120, 116] from by decide +kernel, decide_eq_false (fun e => by have := nm_inj hk (by omega) e; omega)] at q4
  have HNB := hidd (fun w => rnumbers_any hnmb.1 w)
  rw [hnw] at HNB
  have HR := hidd hr
  have HN := hidd hn
  have HS := hidd hs
  have hlc := Nat.le_trans hsl (by decide : 1048576 ≤ 9223372036854775807)
  have hnm9 : nums.length ≤ 9223372036854775807 := by have := hn.le; have := hn.top; unfold maxLen at this; omega
  obtain ⟨sw, ESW⟩ : ∃ sw, Hid (sw = strOfNums (wNm k)) := ⟨_, rfl⟩
  obtain ⟨gd, EGD⟩ : ∃ gd, Hid (gd = strOfNums g) := ⟨_, rfl⟩
  obtain ⟨tm, ETM⟩ : ∃ tm, Hid (tm = t.length) := ⟨_, rfl⟩
  obtain ⟨nm, ENM⟩ : ∃ nm, Hid (nm = nums.length) := ⟨_, rfl⟩
  obtain ⟨sm, ESM⟩ : ∃ sm, Hid (sm = st.length) := ⟨_, rfl⟩
  obtain ⟨c, EC⟩ : ∃ c, Hid (c = cntW k) := ⟨_, rfl⟩
  simp only [← ESW.out, ← EGD.out, ← ETM.out, ← ENM.out, ← ESM.out, ← EC.out] at h q0 q4 HNB HR HN HS hlc hnm9 ⊢
  clear hr hn hs hst hnr hg ht hnw hnmb hsl htl hgl hk k0
  have HBX := hidd (Blk.new w 32 (lnA sw n ao tm ac bo nm bc (u : Int) gd co sm cc))
  have HFB := hidd (fresh_alloc w (.cells (lnA sw n ao tm ac bo nm bc (u : Int) gd co sm cc) 32))
  go_enter Tryd.func22, Tryd.ntmps22
  go_upto_region 1 with fail
  generalize w.alloc (.cells (lnA sw n ao tm ac bo nm bc (u : Int) gd co sm cc) 32) = w1 at *
  obtain ⟨B, eB⟩ : ∃ B, B = w.heap.size := ⟨_, rfl⟩
  rw [← eB] at HBX ⊢
  clear eB
  have x0 := HBX.out.cell 0
  simp at x0
  go_upto_region 2 with (go_at_call 20; with_reducible refine (HNB.out _).mono ?_; rintro e w2 ⟨rfl, f2⟩)
  have HB2 := hidd (HBX.out.fresh f2)
  have HF2 := hidd (fresh_trans HFB.out f2)
  clear f2 x0 HBX HFB HNB
  have x0 := HB2.out.cell 0
  have x1 := HB2.out.cell 1
  have x2 := HB2.out.cell 2
  have x3 := HB2.out.cell 3
  have x4 := HB2.out.cell 4
  have x5 := HB2.out.cell 5
  have x6 := HB2.out.cell 6
  simp at x0 x1 x2 x3 x4 x5 x6
  clear x4 x5 x6 x2
  rcases h with h | ⟨h, h'⟩ | ⟨h, h', h''⟩
  · have b1 : decide ((c : Int) < 0) = false := by simp
    have b2 : ((nm : Int) != (c : Int)) = true := by simp; omega
    go_wp2
    go_ret2
    exact ⟨rfl, HF2.out⟩
  · subst h
    have b1 : decide ((nm : Int) < 0) = false := by simp
    have b3 : decide (n < 0) = true := by simp; omega
    go_wp2
    go_ret2
    exact ⟨rfl, HF2.out⟩
  · subst h
    have b1 : decide ((nm : Int) < 0) = false := by simp
    have b3 : decide (n < 0) = false := by simp; omega
    have b4 : decide ((2147483647 : Int) < n) = true := by simp; omega
    go_wp2
    go_ret2
    exact ⟨rfl, HF2.out⟩
set_option maxRecDepth 20000 in
set_option maxHeartbeats 8000000 in
theorem good {w : World} {k : Nat} (hk : k < 6) (k0 : k = 0) {n : Int} {t g nums : List Int} {u : Nat} {st : List (List Int)} {ao bo co : Option Addr} {ac bc cc : Nat} (hg : Byt g) (hgl : g.length ≤ 2097152) (ht : Byt t) (htl : t.length ≤ 2097152) (hst : ∀ s ∈ st, Byt s ∧ s.length ≤ 2097152) (hsl : st.length ≤ 1048576) (hu64 : u < 18446744073709551616) (hni : -9223372036854775808 ≤ n ∧ n ≤ 9223372036854775807) (hnr : ∀ x ∈ nums, -9223372036854775808 ≤ x ∧ x ≤ 9223372036854775807)
    (hr : RdA w ao 1 t.length ac (byc t)) (hn : RdA w bo 1 nums.length bc (fun j => .int .i64 (nums.getD j 0))) (hs : RdA w co 1 st.length cc (stc st)) (h1 : 0 ≤ n ∧ n ≤ 2147483647) (h2 : nums.length = cntW k) (h3 : True) :
    Calls Tryd.prog 22 #[.agg (lnA (strOfNums (wNm k)) n ao t.length ac bo nums.length bc (u : Int) (strOfNums g) co st.length cc)] w fun e w' => PrA (wNm k) n nums u g t st e ∧ Below w.heap.size w w' := by
  have _u : True := by
    have _ := k0; have _ := hg; have _ := hgl; have _ := ht; have _ := htl; have _ := hst; have _ := hu64; have _ := hnr; have _ := hni; have _ := h3
    trivial
  clear _u
  have hnmb := nm_byt hk
  have hnw : numW (wNm k) = (cntW k : Int) := numW_nm hk
  have q0 := str_eq hnmb.1 (nm_byt (k := 0) (by omega)).1
  have q4 := str_eq hnmb.1 (nm_byt (k := 4) (by omega)).1
  rw [show strOfNums (wNm 0) = (⟨#[97, 115, 107]⟩ : ByteArray) from rfl, show (⟨#[97, 115, 107]⟩ : ByteArray).toList = [97, 115, 107] from by decide +kernel, decide_eq_true (by rw [k0])] at q0
  rw [show strOfNums (wNm 4) = (⟨#[116, 101, 120, 116]⟩ : ByteArray) from rfl, show (⟨#[116, 101, 120, 116]⟩ : ByteArray).toList = [116, 101, 120, 116] from by decide +kernel, decide_eq_false (fun e => by have := nm_inj hk (by omega) e; omega)] at q4
  have HNB := hidd (fun w => rnumbers_any hnmb.1 w)
  rw [hnw] at HNB
  have HR := hidd hr
  have HN := hidd hn
  have HS := hidd hs
  have hlc := Nat.le_trans hsl (by decide : 1048576 ≤ 9223372036854775807)
  have hnm9 : nums.length ≤ 9223372036854775807 := by have := hn.le; have := hn.top; unfold maxLen at this; omega
  have hc6 : cntW k ≤ 6 := cnt_le k
  have hh0 : (wNm k ++ 32 :: numL n).length ≤ 28 := by
    have h7 := numL_len (n := n) (by omega) (by omega)
    have h8 := hnmb.2
    simp
    omega
  have HLEN : Hid (∀ j, j ≤ nums.length → ((nums.take j).foldl pn (wNm k ++ 32 :: numL n)).length ≤ 200) := fun j hj => by
    have h' := foldn_len (nums.take j) (fun x hx => hnr x (List.mem_of_mem_take hx)) (wNm k ++ 32 :: numL n)
    rw [List.length_take] at h'
    omega
  have HIN := hidd (fun w => rint_any hni.1 hni.2 w)
  have HNI := hidd (fun (j : Nat) (hj : j < nums.length) w => rint_any (n := nums.getD j 0) (by rw [List.getD_eq_getElem?_getD, List.getElem?_eq_getElem hj]; exact (hnr _ (List.getElem_mem _)).1) (by rw [List.getD_eq_getElem?_getD, List.getElem?_eq_getElem hj]; exact (hnr _ (List.getElem_mem _)).2) w)
  have HNZ : Hid (∀ j, j < nums.length → (strOfNums (numL (nums.getD j 0))).size ≤ 21) := fun j hj => by
    rw [strOfNums_size]
    exact numL_len (by rw [List.getD_eq_getElem?_getD, List.getElem?_eq_getElem hj]; exact (hnr _ (List.getElem_mem _)).1) (by rw [List.getD_eq_getElem?_getD, List.getElem?_eq_getElem hj]; exact (hnr _ (List.getElem_mem _)).2)
  have HNJ : Hid (∀ j, j < nums.length → strOfNums ((nums.take j).foldl pn (wNm k ++ 32 :: numL n)) ++ ⟨#[32]⟩ ++ strOfNums (numL (nums.getD j 0)) = strOfNums ((nums.take (j + 1)).foldl pn (wNm k ++ 32 :: numL n))) := fun j hj => by rw [foldn_take hj, app3]
  have HJ0 : Hid (strOfNums (wNm k) ++ ⟨#[32]⟩ ++ strOfNums (numL n) = strOfNums (wNm k ++ 32 :: numL n)) := app3 _ _
  have HHD : Hid ((nums.take nums.length).foldl pn (wNm k ++ 32 :: numL n) = hdL k n nums) := by show _ = _; rw [List.take_length]; rfl
  have HHL : Hid ((hdL k n nums).length ≤ 200) := by
    show _ ≤ _
    rw [← HHD.out]; exact HLEN.out _ (Nat.le_refl _)
  have HTL : Hid ((lit t).length ≤ 8388610) := by
    show _ ≤ _
    have := lit_len t
    have := pies_len t
    omega
  have HGL : Hid ((lit g).length ≤ 8388610) := by
    show _ ≤ _
    have := lit_len g
    have := pies_len g
    omega
  have HDL : Hid ((decL u).length ≤ 20) := decL_len u hu64
  obtain ⟨BT, EBT⟩ : ∃ BT, Hid (BT = ((hdL k n nums ++ 32 :: decL u) ++ 32 :: lit g) ++ 32 :: lit t) := ⟨_, rfl⟩
  have HBL : Hid (BT.length ≤ 18000000) := by
    show _ ≤ _
    rw [EBT.out]
    have h7 := HHL.out
    have h8 := HTL.out; have h9 := HGL.out; have h10 := HDL.out
    simp only [List.length_append, List.length_cons]
    omega
  have HLL : Hid (BT ++ stL (st.take st.length) = lineL k n nums u g t st) := by
    show _ = _
    rw [EBT.out]
    unfold lineL
    rw [k0, if_pos rfl, List.take_length]
  have H3 : Hid (onlyW k u g t st) := by
    show onlyW _ _ _ _ _
    unfold onlyW
    rw [k0, if_pos rfl]; trivial
  have H2 := hidd h2
  have zsw : (strOfNums (wNm k)).size ≤ 6 := by rw [strOfNums_size]; exact hnmb.2
  have zsn : (strOfNums (numL n)).size ≤ 21 := by rw [strOfNums_size]; exact numL_len hni.1 hni.2
  have HQT := hidd (fun (w1 : World) (f1 : Below w.heap.size w w1) => rquote_any (hr.fresh f1) ht (by omega))
  have HDE := hidd (fun w1 => rdec_any u hu64 w1)
  have HCV := hidd (fun w1 => conv_rd w1 hg hgl)
  have HQG := hidd (fun (w1 : World) (ao1 : Option Addr) (c1 : Nat) (h1 : RdA w1 ao1 1 g.length c1 (byc g)) => rquote_any h1 hg (by omega))
  have HCS := hidd (fun (w1 : World) (j : Nat) (hj : j < st.length) => conv_rd w1 (s := st.getD j []) (by rw [List.getD_eq_getElem?_getD, List.getElem?_eq_getElem hj]; exact (hst _ (List.getElem_mem _)).1) (by rw [List.getD_eq_getElem?_getD, List.getElem?_eq_getElem hj]; exact (hst _ (List.getElem_mem _)).2))
  have HQS := hidd (fun (w1 : World) (j : Nat) (hj : j < st.length) (ao1 : Option Addr) (c1 : Nat) (h1 : RdA w1 ao1 1 (st.getD j []).length c1 (byc (st.getD j []))) => rquote_any h1 (by rw [List.getD_eq_getElem?_getD, List.getElem?_eq_getElem hj]; exact (hst _ (List.getElem_mem _)).1) (by have h9 := (hst (st.getD j []) (by rw [List.getD_eq_getElem?_getD, List.getElem?_eq_getElem hj]; exact List.getElem_mem _)).2; omega))
  have HSL : Hid (∀ j, j ≤ st.length → (stL (st.take j)).length ≤ j * 8388611) := fun j hj => stL_bound st (fun s hs => (hst s hs).2) j hj
  have HSN : Hid (∀ j, j < st.length → stL (st.take (j + 1)) = stL (st.take j) ++ 32 :: lit (st.getD j [])) := fun j hj => stL_take hj
  have HLJ : Hid (∀ j, j < st.length → (lit (st.getD j [])).length ≤ 8388610) := fun j hj => by
    have h9 := (hst (st.getD j []) (by rw [List.getD_eq_getElem?_getD, List.getElem?_eq_getElem hj]; exact List.getElem_mem _)).2
    have := lit_len (st.getD j [])
    have := pies_len (st.getD j [])
    omega
  obtain ⟨sw, ESW⟩ : ∃ sw, Hid (sw = strOfNums (wNm k)) := ⟨_, rfl⟩
  obtain ⟨sn, ESN⟩ : ∃ sn, Hid (sn = strOfNums (numL n)) := ⟨_, rfl⟩
  obtain ⟨nm, ENM⟩ : ∃ nm, Hid (nm = nums.length) := ⟨_, rfl⟩
  obtain ⟨c, EC⟩ : ∃ c, Hid (c = cntW k) := ⟨_, rfl⟩
  obtain ⟨tm, ETM⟩ : ∃ tm, Hid (tm = t.length) := ⟨_, rfl⟩
  obtain ⟨gd, EGD⟩ : ∃ gd, Hid (gd = strOfNums g) := ⟨_, rfl⟩
  obtain ⟨sm, ESM⟩ : ∃ sm, Hid (sm = st.length) := ⟨_, rfl⟩
  simp only [← ESW.out, ← ESN.out, ← ENM.out, ← EC.out, ← ETM.out, ← EGD.out, ← ESM.out] at h2 q0 q4 HNB HR HN HS HIN HNI HNJ HLEN HJ0 HHD zsw zsn hc6 HQT HCV HQG HCS HQS HSL HSN HLJ hsl HNZ HLL ⊢
  clear hr hn hs hst hnr hg ht hnw hnmb htl hgl h3 hh0 hlc hnm9 hni hu64 k0
  subst h2
  have b1 : decide ((nm : Int) < 0) = false := by simp
  have b3 : decide (n < 0) = false := by simp; omega
  have b4 : decide ((2147483647 : Int) < n) = false := by simp; omega
  have HBX := hidd (Blk.new w 32 (lnA sw n ao tm ac bo nm bc (u : Int) gd co sm cc))
  have HFB := hidd (fresh_alloc w (.cells (lnA sw n ao tm ac bo nm bc (u : Int) gd co sm cc) 32))
  go_enter Tryd.func22, Tryd.ntmps22
  go_upto_region 1 with fail
  generalize w.alloc (.cells (lnA sw n ao tm ac bo nm bc (u : Int) gd co sm cc) 32) = w1 at *
  obtain ⟨B, eB⟩ : ∃ B, B = w.heap.size := ⟨_, rfl⟩
  rw [← eB] at HBX ⊢
  clear eB
  have x0 := HBX.out.cell 0
  simp at x0
  go_upto_region 2 with (go_at_call 20; with_reducible refine (HNB.out _).mono ?_; rintro e w2 ⟨rfl, f2⟩)
  have HB2 := hidd (HBX.out.fresh f2)
  have HF2 := hidd (fresh_trans HFB.out f2)
  clear f2 x0 HBX HFB HNB
  have x0 := HB2.out.cell 0
  have x1 := HB2.out.cell 1
  have x2 := HB2.out.cell 2
  have x3 := HB2.out.cell 3
  have x4 := HB2.out.cell 4
  have x5 := HB2.out.cell 5
  have x6 := HB2.out.cell 6
  simp at x0 x1 x2 x3 x4 x5 x6
  have zw1 : (sw ++ ⟨#[32]⟩).size ≤ 7 := by rw [app_size]; show sw.size + 1 ≤ 7; omega
  have z32 : (⟨#[32]⟩ : ByteArray).size = 1 := rfl
  go_upto_region 7 with fail
  have l0 := later_cell x0; have l1 := later_cell x1
  have ne := later_some w2
  refine wp_region_later (by kernel_rfl) (by kernel_rfl) ?_
  repeat (go_big_quiet_step (fail))
  go_big_quiet_step (exact later_of (HIN.out _))
  repeat (go_big_quiet_step (fail))
  refine wpQuiet_nil ?_
  rintro _ ⟨z, rfl⟩
  have hz := z.fresh
  obtain ⟨w3, ew3⟩ : ∃ w3, w3 = z.val := ⟨_, rfl⟩
  rw [← ew3] at hz ⊢
  clear ew3 z ne l0 l1
  rw [HJ0.out]
  have HB3 := hidd (HB2.out.fresh hz)
  have HF3 := hidd (fresh_trans HF2.out hz)
  clear hz HB2 HF2 x0 x1 x2 x3 x4 x5 x6 zw1 zsw zsn HIN
  go_wp2
  go_loopw [6, 7] (fun v i wr => ∃ j : Nat, j ≤ nm ∧ i = .int .i64 j ∧ v = .string (strOfNums ((nums.take j).foldl pn (wNm k ++ 32 :: numL n))) ∧ Hid (Below w.heap.size w wr) ∧ Hid (Blk wr B 32 (lnA sw n ao tm ac bo nm bc (u : Int) gd co sm cc))) (fun _ i _ => nm - (intOf i).toNat)
  case atStart => exact ⟨0, by omega, rfl, rfl, HF3.out, HB3.out⟩
  case round =>
  clear HF3 HB3
  obtain ⟨j, hj, rfl, rfl, hFr, hBx⟩ := hrel
  have j0 : (0 : Int) ≤ (j : Int) := Int.natCast_nonneg _
  by_cases hlt : j < nm
  · have c3 := hBx.out.cell 3
    simp at c3
    obtain ⟨b1, o1, rfl, h1c⟩ := (HN.out.fresh hFr.out).one (by omega)
    have c1 := h1c j hlt
    have HC := hidd (fun w => HNI.out j hlt w)
    have HX := hidd (HNJ.out j hlt)
    have zx := HNZ.out j hlt
    have zv : (strOfNums ((nums.take j).foldl pn (wNm k ++ 32 :: numL n))).size ≤ 200 := by rw [strOfNums_size]; exact HLEN.out j (by omega)
    have zv1 : (strOfNums ((nums.take j).foldl pn (wNm k ++ 32 :: numL n)) ++ ⟨#[32]⟩).size ≤ 201 := by rw [app_size]; show _ + 1 ≤ _; omega
    have jj : (j : Int) < (nm : Int) := by omega
    clear h1c
    generalize strOfNums (numL (nums.getD j 0)) = sx at *
    generalize nums.getD j 0 = xj at *
    generalize strOfNums ((nums.take j).foldl pn (wNm k ++ 32 :: numL n)) = V at *
    go_wp2_with (go_at_call 41; with_reducible refine (HC.out _).mono ?_; rintro e w10 ⟨rfl, f10⟩)
    go_roundw
    case rel => exact ⟨j + 1, by omega, by go_num, by rw [HX.out], fresh_trans hFr.out f10, hBx.out.fresh f10⟩
    case measure => simp [intOf]; omega
  · obtain rfl : nm = j := by omega
    rw [HHD.out]
    obtain ⟨X, EX⟩ : ∃ X, Hid (X = strOfNums (hdL k n nums)) := ⟨_, rfl⟩
    rw [← EX.out]
    have hXz : X.size ≤ 200 := by rw [EX.out, strOfNums_size]; exact HHL.out
    have e0 := hBx.out.cell 0
    simp at e0
    have d4 := (hBx.out.cell 4)
    have d5 := (hBx.out.cell 5)
    simp at d4 d5
    go_upto_region 13 with fail
    have hd0 : Below wr.heap.size wr wr.drew := (Below.refl _ _).drew
    have KS : Hid (∀ w' : World, Below wr.heap.size wr w' → w'.cell? ⟨B, 4, none⟩ = some (.int .u64 (u : Int)) ∧ w'.cell? ⟨B, 5, none⟩ = some (.string gd)) := fun w' f => ⟨fresh_cell f d4, fresh_cell f d5⟩
    have s0 := KS.out _ hd0
    obtain ⟨cg, wc, hcv, hrc, hfc⟩ := HCV.out wr.drew
    have hwd : wr.drew.heap.size = wr.heap.size := rfl
    rw [hwd] at hcv hrc
    clear hwd
    have HRC := hidd hrc
    have HFC := hidd (fresh_trans hd0 hfc)
    have sC := KS.out _ HFC.out
    have zX : X.size ≤ 200 := hXz
    have zX1 : (X ++ ⟨#[32]⟩).size ≤ 201 := by rw [app_size]; show X.size + 1 ≤ 201; omega
    have zd : (strOfNums (decL u)).size ≤ 20 := by rw [strOfNums_size]; exact HDL.out
    have zX2 : (X ++ ⟨#[32]⟩ ++ strOfNums (decL u)).size ≤ 221 := by rw [app_size]; omega
    have zX3 : (X ++ ⟨#[32]⟩ ++ strOfNums (decL u) ++ ⟨#[32]⟩).size ≤ 222 := by rw [app_size]; show _ + 1 ≤ 222; omega
    have zg : (strOfNums (lit g)).size ≤ 8388610 := by rw [strOfNums_size]; exact HGL.out
    have HY1 : Hid (X ++ ⟨#[32]⟩ ++ strOfNums (decL u) ++ ⟨#[32]⟩ ++ strOfNums (lit g) = strOfNums ((hdL k n nums ++ 32 :: decL u) ++ 32 :: lit g)) := by show _ = _; rw [EX.out, app3, app3]
    generalize strOfNums (lit g) = slg at *
    generalize strOfNums (decL u) = sdu at *
    clear hfc hrc d4 d5
    have n1 : ¬ 9223372036854775807 < X.size + 1 := by omega
    have n2 : ¬ 9223372036854775807 < X.size + 1 + sdu.size := by omega
    have n3 : ¬ 9223372036854775807 < X.size + 1 + sdu.size + 1 := by omega
    have n4 : ¬ 9223372036854775807 < X.size + 1 + sdu.size + 1 + slg.size := by omega
    clear zX1 zX2 zX3
    obtain ⟨sC4, sC5⟩ := sC
    obtain ⟨s04, s05⟩ := s0
    go_cut [6, 89, 90, 91, 92, 93, 94, 95, 96, 97, 98, 99, 100] (fun v _ _ _ _ _ _ _ _ _ _ _ _ wx => v = .string (X ++ ⟨#[32]⟩ ++ sdu ++ ⟨#[32]⟩ ++ slg) ∧ Hid (Below wr.heap.size wr wx))
    case first =>
      go_region_with (first
          | (go_at_call 42; with_reducible refine (HDE.out _).mono ?_; rintro e wD ⟨rfl, fD⟩; first | (have FD := hidd (fresh_trans FQ.out fD); obtain ⟨sD4, sD5⟩ := KS.out _ FD.out) | (have FD := hidd (fresh_trans HFC.out fD); have RD := hidd (HRC.out.fresh fD); obtain ⟨sD4, sD5⟩ := KS.out _ FD.out) | (have FD := hidd (fresh_trans hd0 fD); obtain ⟨sD4, sD5⟩ := KS.out _ FD.out; obtain ⟨cE, wE, hcvE, hrE, hfE⟩ := HCV.out wD; have RE := hidd hrE; have FE := hidd (fresh_trans FD.out hfE); obtain ⟨sE4, sE5⟩ := KS.out _ FE.out; clear hrE hfE))
          | (go_at_call 26; with_reducible refine (HQG.out _ _ _ RE.out).mono ?_; rintro e wQ ⟨rfl, fQ⟩; have FQ := hidd (fresh_trans FE.out fQ); obtain ⟨sQ4, sQ5⟩ := KS.out _ FQ.out)
          | (go_at_call 26; with_reducible refine (HQG.out _ _ _ RD.out).mono ?_; rintro e wQ ⟨rfl, fQ⟩; have FQ := hidd (fresh_trans FD.out fQ); obtain ⟨sQ4, sQ5⟩ := KS.out _ FQ.out)
          | (go_at_call 26; with_reducible refine (HQG.out _ _ _ HRC.out).mono ?_; rintro e wQ ⟨rfl, fQ⟩; have FQ := hidd (fresh_trans HFC.out fQ); obtain ⟨sQ4, sQ5⟩ := KS.out _ FQ.out))
      all_goals
        go_wp2_with fail
        go_meet
        case rel =>
          first
            | (with_reducible exact ⟨rfl, hidd FQ.out⟩)
            | (with_reducible exact ⟨rfl, hidd FD.out⟩)
    case rest =>
    obtain ⟨rfl, hfwc⟩ := hcut
    rw [HY1.out]
    have HF8 := hidd (fresh_trans hFr.out hfwc.out)
    have HB8 := hidd (hBx.out.fresh hfwc.out)
    clear s04 s05 sC4 sC5 n1 n2 n3 n4 HY1 KS zX HRC HFC hcv hd0
    have d2 := (HB8.out.cell 2)
    simp at d2
    have HQ9 := hidd (HQT.out _ HF8.out)
    have hlY : ((hdL k n nums ++ 32 :: decL u) ++ 32 :: lit g).length ≤ 8389000 := by
      have h1' := HHL.out
      have h2' := HDL.out
      have h3' := HGL.out
      simp only [List.length_append, List.length_cons]
      omega
    obtain ⟨Y, EY⟩ : ∃ Y, Hid (Y = strOfNums ((hdL k n nums ++ 32 :: decL u) ++ 32 :: lit g)) := ⟨_, rfl⟩
    rw [← EY.out]
    have zY : Y.size ≤ 8389000 := by rw [EY.out, strOfNums_size]; exact hlY
    have zY1 : (Y ++ ⟨#[32]⟩).size ≤ 8389001 := by rw [app_size]; show Y.size + 1 ≤ _; omega
    have zl : (strOfNums (lit t)).size ≤ 8388610 := by rw [strOfNums_size]; exact HTL.out
    have HY : Hid (Y ++ ⟨#[32]⟩ ++ strOfNums (lit t) = strOfNums BT) := by show _ = _; rw [EY.out, app3, EBT.out]
    generalize strOfNums (lit t) = slt at *
    go_upto_region 16 with (go_at_call 26; with_reducible refine (HQ9.out).mono ?_; rintro e w9 ⟨rfl, f9⟩)
    rw [HY.out]
    have HF9 := hidd (fresh_trans HF8.out f9)
    have HB9 := hidd (HB8.out.fresh f9)
    clear f9 d2 HQ9 HY zY zY1 zl EY hfwc HF8 HB8
    go_wp2
    go_loopw [6, 8] (fun v i wr2 => ∃ j2 : Nat, j2 ≤ sm ∧ i = .int .i64 j2 ∧ v = .string (strOfNums (BT ++ stL (st.take j2))) ∧ Hid (Below w.heap.size w wr2) ∧ Hid (Blk wr2 B 32 (lnA sw n ao tm ac bo nm bc (u : Int) gd co sm cc))) (fun _ i _ => sm - (intOf i).toNat)
    case atStart => exact ⟨0, by omega, rfl, by simp [stL], HF9.out, HB9.out⟩
    case round =>
    clear HF9 HB9
    obtain ⟨j2, hj2, rfl, rfl, hF2, hB2⟩ := hrel
    by_cases hlt2 : j2 < sm
    · have c6 := hB2.out.cell 6
      simp at c6
      obtain ⟨b1, o1, rfl, h1c⟩ := (HS.out.fresh hF2.out).one (by omega)
      have c1 := h1c j2 hlt2
      unfold stc at c1
      obtain ⟨cg, wc, hcv, hrc, hfc⟩ := HCS.out wr j2 hlt2
      have HQ2 := hidd (HQS.out wc j2 hlt2 _ _ hrc)
      have hsl2 := HSL.out j2 (by omega)
      have hll2 := HLJ.out j2 hlt2
      have HNX : Hid (strOfNums (BT ++ stL (st.take j2)) ++ ⟨#[32]⟩ ++ strOfNums (lit (st.getD j2 [])) = strOfNums (BT ++ stL (st.take (j2 + 1)))) := by show _ = _; rw [app3, HSN.out j2 hlt2, List.append_assoc]
      have zv : (strOfNums (BT ++ stL (st.take j2))).size ≤ 18000000 + 1048576 * 8388611 := by
        rw [strOfNums_size, List.length_append]
        have := HBL.out
        have : j2 * 8388611 ≤ 1048576 * 8388611 := Nat.mul_le_mul_right _ (by omega)
        omega
      have zv1 : (strOfNums (BT ++ stL (st.take j2)) ++ ⟨#[32]⟩).size ≤ 18000001 + 1048576 * 8388611 := by rw [app_size]; show _ + 1 ≤ _; omega
      have zs : (strOfNums (lit (st.getD j2 []))).size ≤ 8388610 := by rw [strOfNums_size]; exact hll2
      have HFc := hidd (fresh_trans hF2.out hfc)
      have HBc := hidd (hB2.out.fresh hfc)
      clear hrc hfc h1c hsl2 hll2
      generalize strOfNums (lit (st.getD j2 [])) = sl2 at *
      generalize strOfNums (st.getD j2 []) = ss2 at *
      generalize (st.getD j2 []).length = sl3 at *
      generalize hV : strOfNums (BT ++ stL (st.take j2)) = V at *
      clear hV
      have jj : (j2 : Int) < (sm : Int) := by omega
      go_wp2_with (go_at_call 26; with_reducible refine (HQ2.out).mono ?_; rintro e w10 ⟨rfl, f10⟩)
      go_roundw
      case rel => exact ⟨j2 + 1, by omega, by go_num, by rw [HNX.out], fresh_trans HFc.out f10, HBc.out.fresh f10⟩
      case measure => simp [intOf]; omega
    · obtain rfl : sm = j2 := by omega
      have c6 := hB2.out.cell 6
      simp at c6
      have HT : Hid (PrR (BT ++ stL (st.take sm)) = PrR (lineL k n nums u g t st)) := by
        show _ = _
        rw [HLL.out]
      have hz : (strOfNums (BT ++ stL (st.take sm))).size = (BT ++ stL (st.take sm)).length := strOfNums_size _
      have hzb : (BT ++ stL (st.take sm)).length ≤ 18000000 + 1048576 * 8388611 := by
        rw [List.length_append]
        have := HBL.out
        have h7 := HSL.out sm (Nat.le_refl _)
        have : sm * 8388611 ≤ 1048576 * 8388611 := Nat.mul_le_mul_right _ (by omega)
        omega
      generalize hL : BT ++ stL (st.take sm) = LL at *
      have HLL2 := hidd hL
      clear hL
      obtain ⟨N, EN⟩ : ∃ N, Hid (N = LL.length) := ⟨_, rfl⟩
      rw [← EN.out] at hz hzb
      have HTO := hidd (fun e (h : PrR LL e) => PrR.toA (k := k) (n := n) (nums := nums) (u := u) (g := g) (t := t) (st := st) hk h1 H2.out H3.out (Sim.refl _) (by rw [← HT.out]; exact h))
      generalize hXX : strOfNums LL = XX at *
      have HXX := hidd hXX
      clear hXX
      by_cases hbig : 8192 < N
      · have b9 : decide ((8192 : Int) < (N : Int)) = true := by simp; omega
        go_wp2
        go_ret2
        exact ⟨HTO.out _ (.inl ⟨by rw [← EN.out]; exact hbig, rfl⟩), hF2.out⟩
      · have b9 : decide ((8192 : Int) < (N : Int)) = false := by simp; omega
        go_wp2
        go_ret2
        exact ⟨HTO.out _ (.inr ⟨by rw [← EN.out]; exact hbig, by rw [HXX.out]; rfl⟩), hF2.out⟩
end RpA
end Go.Proofs.YtemmghneohnigabDoor
