import Derived.SizedLaws
import Derived.Test.YtemmghneohnigabDoorWwFN
import Derived.Test.YtemmghneohnigabDoorWwFT
import Derived.Test.YtemmghneohnigabDoorWwFA
import Derived.Test.YtemmghneohnigabDoorWpP
namespace Go.Proofs.YtemmghneohnigabDoor
open Go.ChangeShapes Go.WideShapes Go.ChangeAt Go.RowKit
/-! The reference's Parse of any text; WireParses. -/
theorem sizeRg : (Tryd.prog.info? 32).map (·.size) = some 7 := by kernel_rfl
set_option maxRecDepth 20000 in
set_option maxHeartbeats 2000000 in
theorem rparse_long {w : World} {text : List Int} (hlen : 8192 < text.length) (hmax : text.length ≤ 140737488351232) :
    Calls Tryd.prog 7 #[.string (strOfNums text)] w fun e w' => ParA text w e w' ∧ Below w.heap.size w w' := by
  have hsz : (strOfNums text).size = text.length := strOfNums_size _
  have HN := hidd (none_long hlen)
  generalize strOfNums text = tx at *
  obtain ⟨N, eN⟩ : ∃ N, N = text.length := ⟨_, rfl⟩
  rw [← eN] at hsz hlen hmax
  clear eN
  have HZ := hidd (Blk.new w 32 lz7)
  have HFA := hidd (fresh_alloc w (.cells lz7 32))
  unfold lz7 at HZ HFA
  have SL7 : Hid ((Tryd.prog.info? 32).map (·.size) = some (#[.string ⟨#[]⟩, .int .i64 0, .slice none 0 0, .slice none 0 0, .int .u64 0, .string ⟨#[]⟩, .slice none 0 0] : Array Value).size) := sizeRg
  have S17 : Hid ((#[.string ⟨#[]⟩, .int .i64 0, .slice none 0 0, .slice none 0 0, .int .u64 0, .string ⟨#[]⟩, .slice none 0 0] : Array Value).all (·.oneCell') = true) := by show _ = _; simp [Value.oneCell']
  go_enter Tryd.func7, Tryd.ntmps7
  go_upto_region 1 with fail
  generalize w.alloc (.cells #[.string ⟨#[]⟩, .int .i64 0, .slice none 0 0, .slice none 0 0, .int .u64 0, .string ⟨#[]⟩, .slice none 0 0] 32) = w1 at *
  go_wp2_with (refine wpList_store_row rfl 32 _ _ rfl w.heap.size _ rfl rfl 32 _ HZ.out SL7.out rfl S17.out ?_)
  refine bodyPost_ret (ret_cell_tmp Tryd.results7 _ _ w.heap.size 32 _ (0, 0) _ (.int .i64 220) rfl (HZ.out.set _) Tryd.underlying32 rfl SL7.out rfl) rfl ?_
  exact ⟨.inr ⟨HN.out, rfl⟩, below_setRow HFA.out (Nat.le_refl _) _⟩
theorem rparse_any {w : World} {text : List Int} (hB : Byt text) (hmax : text.length ≤ 140737488351232) :
    Calls Tryd.prog 7 #[.string (strOfNums text)] w fun e w' => ParA text w e w' ∧ Below w.heap.size w w' := by
  by_cases hl : 8192 < text.length
  · exact rparse_long hl hmax
  · by_cases h0 : rwV text 0 = wNm 0
    · exact RsA.go hB (by omega) h0
    · by_cases h4 : rwV text 0 = wNm 4
      · exact RsT.go hB (by omega) h4
      · exact RsN.go hB (by omega) h0 h4
theorem rd_nilW (w : World) (cs : Nat → Value) : RdA w none 1 0 0 cs := ⟨Nat.le_refl _, Nat.zero_le _, fun h => absurd h (by omega)⟩
theorem eqzW (w : World) : Calls Tryd.prog 8 #[.agg #[.string ⟨#[]⟩, .int .i64 0, .slice none 0 0, .slice none 0 0, .int .u64 0, .string ⟨#[]⟩, .slice none 0 0], .agg #[.string ⟨#[]⟩, .int .i64 0, .slice none 0 0, .slice none 0 0, .int .u64 0, .string ⟨#[]⟩, .slice none 0 0]] w fun e w' => e = .returned (.bool true) ∧ Below w.heap.size w w' :=
  eqLines_same (wd := ⟨#[]⟩) (gd := ⟨#[]⟩) (n := 0) (sd := 0) (f := fun _ => 0) (h := fun _ => 0) (s := fun _ => ⟨#[]⟩) (rd_nilW _ _) (rd_nilW _ _) (rd_nilW _ _) (rd_nilW _ _) (rd_nilW _ _) (rd_nilW _ _)
set_option maxRecDepth 20000 in
set_option maxHeartbeats 4000000 in
theorem parses_law {w : World} {text : List Int} (hB : Byt text) (hmax : text.length ≤ 140737488351232) (hE : Env w) :
    Calls Tryd.prog 3 #[.string (strOfNums text)] w fun e w' => e = .returned (.bool true) ∧ Below w.heap.size w w' := by
  have HWK := hidd (works_any hE)
  have HPT := hidd (fun (w1 : World) (hE1 : Env w1) => parse_all hB (by omega) hE1)
  have HRT : Hid (∀ w1 : World, Calls Tryd.prog 7 #[.string (strOfNums text)] w1 fun e w' => ParB text w1 e w' ∧ Below w1.heap.size w1 w') := fun w1 => rparse_any hB (by omega)
  have HE := hidd hE
  clear hE hB hmax
  generalize strOfNums text = tx at *
  go_enter Tryd.func3, Tryd.ntmps3
  go_upto_region 2 with (go_at_call 5; with_reducible refine (HWK.out).mono ?_; rintro e w2 ⟨rfl, f2⟩)
  have HF2 := hidd f2
  have HC2 := hidd (HPT.out _ (HE.out.fresh f2))
  clear f2 HWK HPT
  go_upto_region 3 with (go_at_call 6; (with_reducible refine (HC2.out).mono ?_); rintro e w3 ⟨⟨k3, n3, nums3, u3, g3, t3, st3, ao3, ac3, bo3, bc3, co3, cc3, q3, uq3, rfl, oa3, ob3, oc3⟩ | ⟨no3, rfl⟩, f3⟩)
  · have HC3 : Hid (∀ w4 : World, Calls Tryd.prog 7 #[.string tx] w4 fun e w' => ∃ ao ac bo bc co cc, e = .returned (.tuple #[.agg (lnA (strOfNums (wNm k3)) n3 ao t3.length ac bo nums3.length bc (u3 : Int) (strOfNums g3) co st3.length cc), .int .i64 0]) ∧ RdA w' ao 1 t3.length ac (byc t3) ∧ RdA w' bo 1 nums3.length bc (mkN nums3) ∧ RdA w' co 1 st3.length cc (stc st3) ∧ Below w4.heap.size w4 w') := fun w4 => by
      refine (HRT.out w4).mono ?_
      rintro e w' ⟨⟨k', n', nums', u', g', t', st', ao', ac', bo', bc', co', cc', q', uq', rfl, o1, o2, o3⟩ | ⟨no, _⟩, hf⟩
      · obtain ⟨rfl, rfl, rfl, rfl, rfl, rfl, rfl⟩ := uq3 _ _ _ _ _ _ _ q'
        exact ⟨ao', ac', bo', bc', co', cc', rfl, o1.rdaW, o2.rdaW, o3.rdaW, hf⟩
      · exact absurd ⟨_, _, _, _, _, _, _, q3⟩ no
    have fa := fresh_alloc w3 (.cells (lnA (strOfNums (wNm k3)) n3 ao3 t3.length ac3 bo3 nums3.length bc3 (u3 : Int) (strOfNums g3) co3 st3.length cc3) 28)
    have HL3 := hidd (Blk.new w3 28 (lnA (strOfNums (wNm k3)) n3 ao3 t3.length ac3 bo3 nums3.length bc3 (u3 : Int) (strOfNums g3) co3 st3.length cc3))
    have HR1 := hidd (oa3.rdaW.fresh fa)
    have HR2 := hidd (ob3.rdaW.fresh fa)
    have HR3 := hidd (oc3.rdaW.fresh fa)
    have HF3 := hidd (fresh_trans HF2.out (fresh_trans f3 fa))
    clear q3 uq3 oa3 ob3 oc3 f3 fa HC2 HRT HF2
    generalize w3.alloc (.cells (lnA (strOfNums (wNm k3)) n3 ao3 t3.length ac3 bo3 nums3.length bc3 (u3 : Int) (strOfNums g3) co3 st3.length cc3) 28) = w4 at *
    obtain ⟨lb, elb⟩ : ∃ lb, lb = w3.heap.size := ⟨_, rfl⟩
    rw [← elb] at HL3 ⊢
    clear elb
    have HC4 := hidd (HC3.out w4)
    go_upto_region 4 with (go_at_call 7; (with_reducible refine (HC4.out).mono ?_); rintro e w5 ⟨ao5, ac5, bo5, bc5, co5, cc5, rfl, ra5, rb5, rc5, f5⟩)
    have fb := fresh_alloc w5 (.cells (lnA (strOfNums (wNm k3)) n3 ao5 t3.length ac5 bo5 nums3.length bc5 (u3 : Int) (strOfNums g3) co5 st3.length cc5) 32)
    have HM5 := hidd (Blk.new w5 32 (lnA (strOfNums (wNm k3)) n3 ao5 t3.length ac5 bo5 nums3.length bc5 (u3 : Int) (strOfNums g3) co5 st3.length cc5))
    have HL6 := hidd (HL3.out.fresh (fresh_trans f5 fb))
    have HF6 := hidd (fresh_trans HF3.out (fresh_trans f5 fb))
    have HEQ : Hid (Calls Tryd.prog 8 #[.agg (lnA (strOfNums (wNm k3)) n3 ao3 t3.length ac3 bo3 nums3.length bc3 (u3 : Int) (strOfNums g3) co3 st3.length cc3), .agg (lnA (strOfNums (wNm k3)) n3 ao5 t3.length ac5 bo5 nums3.length bc5 (u3 : Int) (strOfNums g3) co5 st3.length cc5)] (w5.alloc (.cells (lnA (strOfNums (wNm k3)) n3 ao5 t3.length ac5 bo5 nums3.length bc5 (u3 : Int) (strOfNums g3) co5 st3.length cc5) 32)) fun e w' => e = .returned (.bool true) ∧ Below (w5.alloc (.cells (lnA (strOfNums (wNm k3)) n3 ao5 t3.length ac5 bo5 nums3.length bc5 (u3 : Int) (strOfNums g3) co5 st3.length cc5) 32)).heap.size (w5.alloc (.cells (lnA (strOfNums (wNm k3)) n3 ao5 t3.length ac5 bo5 nums3.length bc5 (u3 : Int) (strOfNums g3) co5 st3.length cc5) 32)) w') :=
      eqLines_same (f := fun i => t3.getD i 0) (h := fun i => nums3.getD i 0) (s := fun i => strOfNums (st3.getD i [])) (HR1.out.fresh (fresh_trans f5 fb)) (ra5.fresh fb) (HR2.out.fresh (fresh_trans f5 fb)) (rb5.fresh fb) (HR3.out.fresh (fresh_trans f5 fb)) (rc5.fresh fb)
    clear ra5 rb5 rc5 f5 fb HC3 HC4 HL3 HR1 HR2 HR3 HF3
    generalize w5.alloc (.cells (lnA (strOfNums (wNm k3)) n3 ao5 t3.length ac5 bo5 nums3.length bc5 (u3 : Int) (strOfNums g3) co5 st3.length cc5) 32) = w6 at *
    obtain ⟨mb, emb⟩ : ∃ mb, mb = w5.heap.size := ⟨_, rfl⟩
    rw [← emb] at HM5 ⊢
    clear emb
    have SL : Hid ((Tryd.prog.info? 28).map (·.size) = some (lnA (strOfNums (wNm k3)) n3 ao3 t3.length ac3 bo3 nums3.length bc3 (u3 : Int) (strOfNums g3) co3 st3.length cc3).size) := sizeLn
    have SR : Hid ((Tryd.prog.info? 32).map (·.size) = some (lnA (strOfNums (wNm k3)) n3 ao5 t3.length ac5 bo5 nums3.length bc5 (u3 : Int) (strOfNums g3) co5 st3.length cc5).size) := sizeRg
    generalize lnA (strOfNums (wNm k3)) n3 ao3 t3.length ac3 bo3 nums3.length bc3 (u3 : Int) (strOfNums g3) co3 st3.length cc3 = LA at *
    generalize lnA (strOfNums (wNm k3)) n3 ao5 t3.length ac5 bo5 nums3.length bc5 (u3 : Int) (strOfNums g3) co5 st3.length cc5 = LB at *
    go_wp2_with (first | refine wpList_load_row rfl 28 _ rfl lb rfl 28 _ (0, 0) _ HL6.out Tryd.underlying28 rfl SL.out ?_ | refine wpList_load_row rfl 32 _ rfl mb rfl 32 _ (0, 0) _ HM5.out Tryd.underlying32 rfl SR.out ?_ | (go_at_call 8; with_reducible refine (HEQ.out).mono ?_; rintro e w7 ⟨rfl, f7⟩))
    go_ret
    exact ⟨rfl, fresh_trans HF6.out f7⟩
  · have HC3 : Hid (∀ w4 : World, Calls Tryd.prog 7 #[.string tx] w4 fun e w' => e = .returned (.tuple #[.agg #[.string ⟨#[]⟩, .int .i64 0, .slice none 0 0, .slice none 0 0, .int .u64 0, .string ⟨#[]⟩, .slice none 0 0], .int .i64 220]) ∧ Below w4.heap.size w4 w') := fun w4 => by
      refine (HRT.out w4).mono ?_
      rintro e w' ⟨⟨k', n', nums', u', g', t', st', _, _, _, _, _, _, q', _⟩ | ⟨_, rfl⟩, hf⟩
      · exact absurd ⟨_, _, _, _, _, _, _, q'⟩ no3
      · exact ⟨rfl, hf⟩
    have fa := fresh_alloc w3 (.cells lz7 28)
    have HL3 := hidd (Blk.new w3 28 lz7)
    have HF3 := hidd (fresh_trans HF2.out (fresh_trans f3 fa))
    unfold lz7 at HL3 HF3
    clear f3 fa no3 HC2 HRT HF2
    generalize w3.alloc (.cells #[.string ⟨#[]⟩, .int .i64 0, .slice none 0 0, .slice none 0 0, .int .u64 0, .string ⟨#[]⟩, .slice none 0 0] 28) = w4 at *
    obtain ⟨lb, elb⟩ : ∃ lb, lb = w3.heap.size := ⟨_, rfl⟩
    rw [← elb] at HL3 ⊢
    clear elb
    have HC4 := hidd (HC3.out w4)
    go_upto_region 4 with (go_at_call 7; with_reducible refine (HC4.out).mono ?_; rintro e w5 ⟨rfl, f5⟩)
    have fb := fresh_alloc w5 (.cells lz7 32)
    have HM5 := hidd (Blk.new w5 32 lz7)
    unfold lz7 at HM5 fb
    have HL6 := hidd (HL3.out.fresh (fresh_trans f5 fb))
    have HF6 := hidd (fresh_trans HF3.out (fresh_trans f5 fb))
    clear f5 fb HC3 HC4 HL3 HF3
    generalize w5.alloc (.cells #[.string ⟨#[]⟩, .int .i64 0, .slice none 0 0, .slice none 0 0, .int .u64 0, .string ⟨#[]⟩, .slice none 0 0] 32) = w6 at *
    obtain ⟨mb, emb⟩ : ∃ mb, mb = w5.heap.size := ⟨_, rfl⟩
    rw [← emb] at HM5 ⊢
    clear emb
    have HEQ := hidd (eqzW w6)
    have SL : Hid ((Tryd.prog.info? 28).map (·.size) = some (#[.string ⟨#[]⟩, .int .i64 0, .slice none 0 0, .slice none 0 0, .int .u64 0, .string ⟨#[]⟩, .slice none 0 0] : Array Value).size) := sizeLn
    have SR : Hid ((Tryd.prog.info? 32).map (·.size) = some (#[.string ⟨#[]⟩, .int .i64 0, .slice none 0 0, .slice none 0 0, .int .u64 0, .string ⟨#[]⟩, .slice none 0 0] : Array Value).size) := sizeRg
    go_wp2_with (first | refine wpList_load_row rfl 28 _ rfl lb rfl 28 _ (0, 0) _ HL6.out Tryd.underlying28 rfl SL.out ?_ | refine wpList_load_row rfl 32 _ rfl mb rfl 32 _ (0, 0) _ HM5.out Tryd.underlying32 rfl SR.out ?_ | (go_at_call 8; with_reducible refine (HEQ.out).mono ?_; rintro e w7 ⟨rfl, f7⟩))
    go_ret
    exact ⟨rfl, fresh_trans HF6.out f7⟩
set_option maxRecDepth 20000 in
theorem wireParses_walk {H : Type} {enc : TypeId × Value → H} {base : Nat} {sp : Nat → Bool} {held : Bool} {r : Reach} {b0 : Nat} {v0 : Value} {d0 : DataW H} {ps0 : List MemPlace} (W : World) (hE : Env W)
    (hval0 : Value.okWide Tryd.prog W r b0 9 v0) (h0 : DataW.Trod enc Tryd.prog W base sp held 9 v0 d0 ps0)
    (hb : Rows.uptoBulkAll [d0] ≤ 1048576) :
    Calls Tryd.prog 3 #[v0] W fun e w' => e = .returned (.bool true) ∧ Below W.heap.size W w' := by
  obtain ⟨s, rfl, rfl, rfl, _⟩ := Go.ChangeMaps.open_string Tryd.underlying9 hval0 h0
  have hz : s.size ≤ 1048576 := by
    simp only [Rows.uptoBulkAll, Rows.uptoBulk, Array.length_toList] at hb
    have : s.data.size = s.size := rfl
    omega
  have := parses_law (bys_byt s) (by rw [bys_len]; omega) hE
  rw [bys_str] at this
  exact this
set_option maxRecDepth 20000 in
theorem wireParses_walkR {H : Type} {enc : TypeId × Value → H} {base : Nat} {sp : Nat → Bool} {held : Bool} {r : Reach} {b0 : Nat} {v0 : Value} {d0 : DataW H} {ps0 : List MemPlace} (W : World) (hE : Env W)
    (hval0 : Value.okWide Tryd.prog W r b0 9 v0) (h0 : DataW.Trod enc Tryd.prog W base sp held 9 v0 d0 ps0)
    (hsz : (DataW.weightsEach Tryd.prog [9] [d0]).all (· ≤ reachBytes) = true) :
    Calls Tryd.prog 3 #[v0] W fun e w' => e = .returned (.bool true) ∧ Below W.heap.size W w' := by
  obtain ⟨s, rfl, rfl, rfl, _⟩ := Go.ChangeMaps.open_string Tryd.underlying9 hval0 h0
  have hz : s.size ≤ 140737488351232 := by
    have h1 := sized_string hsz (j := 0) rfl rfl
    simp only [Array.length_toList, reachBytes] at h1
    have : s.data.size = s.size := rfl
    omega
  have := parses_law (bys_byt s) (by rw [bys_len]; omega) hE
  rw [bys_str] at this
  exact this
end Go.Proofs.YtemmghneohnigabDoor
