import Derived.Test.YtemmghneohnigaaDoorWvPN
import Derived.Test.YtemmghneohnigaaDoorWvPT
import Derived.Test.YtemmghneohnigaaDoorWvPA
namespace Go.Proofs.YtemmghneohnigaaDoor
open Go.RowKit
/-! Parse of any text. -/
set_option maxRecDepth 20000 in
set_option maxHeartbeats 2000000 in
theorem parse_long {w : World} {text : List Int} (hlen : 8192 < text.length) (hmax : text.length ≤ 140737488351232) :
    Calls Tryd.prog 16 #[.string (strOfNums text)] w fun e w' => ParA text w e w' ∧ Below w.heap.size w w' := by
  have hsz : (strOfNums text).size = text.length := strOfNums_size _
  have HN := hidd (none_long hlen)
  generalize strOfNums text = tx at *
  obtain ⟨N, eN⟩ : ∃ N, N = text.length := ⟨_, rfl⟩
  rw [← eN] at hsz hlen hmax
  clear eN
  have HZ := hidd (Blk.new w 38 lz7)
  have HFA := hidd (fresh_alloc w (.cells lz7 38))
  unfold lz7 at HZ HFA
  have SL7 : Hid ((Tryd.prog.info? 38).map (·.size) = some (#[.string ⟨#[]⟩, .int .i64 0, .slice none 0 0, .slice none 0 0, .int .u64 0, .string ⟨#[]⟩, .slice none 0 0] : Array Value).size) := sizeLn
  have S17 : Hid ((#[.string ⟨#[]⟩, .int .i64 0, .slice none 0 0, .slice none 0 0, .int .u64 0, .string ⟨#[]⟩, .slice none 0 0] : Array Value).all (·.oneCell') = true) := by show _ = _; simp [Value.oneCell']
  go_enter Tryd.func16, Tryd.ntmps16
  go_upto_region 1 with fail
  generalize w.alloc (.cells #[.string ⟨#[]⟩, .int .i64 0, .slice none 0 0, .slice none 0 0, .int .u64 0, .string ⟨#[]⟩, .slice none 0 0] 38) = w1 at *
  go_wp2_with (refine wpList_store_row rfl 38 _ _ rfl w.heap.size _ rfl rfl 38 _ HZ.out SL7.out rfl S17.out ?_)
  refine bodyPost_ret (ret_cell_tmp Tryd.results16 _ _ w.heap.size 38 _ (0, 0) _ (.int .i64 220) rfl (HZ.out.set _) Tryd.underlying38 rfl SL7.out rfl) rfl ?_
  exact ⟨.inr ⟨HN.out, rfl⟩, below_setRow HFA.out (Nat.le_refl _) _⟩
set_option maxRecDepth 20000 in
set_option maxHeartbeats 2000000 in
theorem parse_no {w : World} {text : List Int} (hB : Byt text) (hlen : text.length ≤ 8192) (hno : ∀ k, k < 6 → tw text ≠ wNm k) (hE : Env w) :
    Calls Tryd.prog 16 #[.string (strOfNums text)] w fun e w' => ParA text w e w' ∧ Below w.heap.size w w' := by
  have hsz : (strOfNums text).size = text.length := strOfNums_size _
  have HN := hidd (none_word hno)
  have HUP := hidd (fun (w1 : World) rb f (h : Rdr w1 rb text f) => upto_any h hB (by omega))
  have HWO : Hid (∀ w1 : World, Calls Tryd.prog 29 #[.string (strOfNums (tw text))] w1 fun e w' => e = .returned (.tuple #[.agg wz, .bool false]) ∧ Below w1.heap.size w1 w') := fun w1 => by
    refine (wordOf_any hB.tw w1).mono ?_
    rintro e w' ⟨hf, ⟨k, hk, he, _⟩ | ⟨_, he⟩⟩
    · exact absurd he (hno k hk)
    · exact ⟨he, hf⟩
  have hbig := hE.big
  clear hno hB hE
  generalize strOfNums (tw text) = sw at *
  generalize hts : strOfNums text = tx at *
  have HTS := hidd hts
  clear hts
  obtain ⟨N, eN⟩ : ∃ N, N = text.length := ⟨_, rfl⟩
  rw [← eN] at hsz hlen
  clear eN
  have SL7 : Hid ((Tryd.prog.info? 38).map (·.size) = some (#[.string ⟨#[]⟩, .int .i64 0, .slice none 0 0, .slice none 0 0, .int .u64 0, .string ⟨#[]⟩, .slice none 0 0] : Array Value).size) := sizeLn
  have S17 : Hid ((#[.string ⟨#[]⟩, .int .i64 0, .slice none 0 0, .slice none 0 0, .int .u64 0, .string ⟨#[]⟩, .slice none 0 0] : Array Value).all (·.oneCell') = true) := by show _ = _; simp [Value.oneCell']
  have SW5 : Hid ((Tryd.prog.info? 63).map (·.size) = some wz.size) := sizeWd
  have HW1 : Hid (wz.all (·.oneCell') = true) := by show _ = _; decide +kernel
  have SO5 : Hid ((#[.string ⟨#[]⟩, .int .i64 0, .nilFunc, .nilFunc, .nilFunc] : Array Value).size = wz.size) := by show _ = _; rfl
  generalize hwz : wz = T at *
  clear hwz
  go_enter Tryd.func16, Tryd.ntmps16
  go_upto_region 4 with fail
  have HZ0 := hidd ((Blk.new w 38 lz7).fresh (fresh_alloc _ (.cells #[.string tx, .bool false] 72)))
  have HR0 : Hid (Rdr ((w.alloc (.cells lz7 38)).alloc (.cells #[.string tx, .bool false] 72)) (w.heap.size + 1) text false) := by
    have := Blk.new (w.alloc (.cells lz7 38)) 72 #[.string tx, .bool false]
    have e : (w.alloc (.cells lz7 38)).heap.size = w.heap.size + 1 := by simp
    rw [e] at this
    show Rdr _ _ _ _
    unfold Rdr
    rw [HTS.out]
    exact this
  have HF0 := hidd (fresh_trans (fresh_alloc w (.cells lz7 38)) (fresh_alloc _ (.cells #[.string tx, .bool false] 72)))
  unfold lz7 at HZ0 HR0 HF0
  generalize (w.alloc (.cells #[.string ⟨#[]⟩, .int .i64 0, .slice none 0 0, .slice none 0 0, .int .u64 0, .string ⟨#[]⟩, .slice none 0 0] 38)).alloc (.cells #[.string tx, .bool false] 72) = w2 at *
  obtain ⟨R, eR⟩ : ∃ R, R = w.heap.size := ⟨_, rfl⟩
  have ER := hidd eR
  rw [← eR] at HZ0 HR0 ⊢
  clear eR
  go_upto_region 5 with (first | (go_at_call 34; with_reducible refine (HUP.out _ _ _ HR0.out).mono ?_; rintro e w3 ⟨rfl, r3, k3⟩) | (go_at_call 29; with_reducible refine (HWO.out _).mono ?_; rintro e w4 ⟨rfl, f4⟩) | refine wpList_store_row rfl 63 _ _ rfl w4.heap.size T rfl rfl 63 _ (Blk.new _ _ _) SW5.out SO5.out HW1.out ?_)
  have hF5 := below_setRow (fresh_alloc w4 (.cells #[.string ⟨#[]⟩, .int .i64 0, .nilFunc, .nilFunc, .nilFunc] 63)) (Nat.le_refl _) T
  generalize (w4.alloc (.cells #[.string ⟨#[]⟩, .int .i64 0, .nilFunc, .nilFunc, .nilFunc] 63)).setRow w4.heap.size T = w5 at *
  have hf45 := fresh_trans f4 hF5
  have HZ5 := hidd ((HZ0.out.chg k3 (by omega)).fresh hf45)
  have k5 := k3.post hf45
  have HF5 : Hid (Below w.heap.size w w5) := k5.below HF0.out (by have := HF0.out.size; omega) (fun x hx => by rw [hx, ER.out]; omega)
  clear hF5 hf45 r3 f4 k3 k5 HUP HWO HR0 HZ0 HF0
  go_wp2_with (refine wpList_store_row rfl 38 _ _ rfl R _ rfl rfl 38 _ HZ5.out SL7.out rfl S17.out ?_)
  refine bodyPost_ret (ret_cell_tmp Tryd.results16 _ _ R 38 _ (0, 0) _ (.int .i64 220) rfl (HZ5.out.set _) Tryd.underlying38 rfl SL7.out rfl) rfl ?_
  exact ⟨.inr ⟨HN.out, rfl⟩, below_setRow HF5.out (by rw [ER.out]; exact Nat.le_refl _) _⟩
theorem parse_any {w : World} {text : List Int} (hB : Byt text) (hmax : text.length ≤ 140737488351232) (hE : Env w) :
    Calls Tryd.prog 16 #[.string (strOfNums text)] w fun e w' => ParA text w e w' ∧ Below w.heap.size w w' := by
  by_cases hl : 8192 < text.length
  · exact parse_long hl hmax
  · have hl' : text.length ≤ 8192 := by omega
    by_cases hw : ∃ k, k < 6 ∧ tw text = wNm k
    · obtain ⟨k, hk, ht⟩ := hw
      match k, hk with
      | 0, hk => exact parse_goA hk rfl (c := 6) rfl (by omega) rfl hB hl' ht hE
      | 1, hk => exact parse_goN hk (by omega) (by omega) (c := 0) rfl (by omega) rfl hB hl' ht hE
      | 2, hk => exact parse_goN hk (by omega) (by omega) (c := 0) rfl (by omega) rfl hB hl' ht hE
      | 3, hk => exact parse_goN hk (by omega) (by omega) (c := 1) rfl (by omega) rfl hB hl' ht hE
      | 4, hk => exact parse_goT hk rfl (c := 0) rfl (by omega) rfl hB hl' ht hE
      | 5, hk => exact parse_goN hk (by omega) (by omega) (c := 1) rfl (by omega) rfl hB hl' ht hE
    · exact parse_no hB hl' (fun k hk e => hw ⟨k, hk, e⟩) hE
end Go.Proofs.YtemmghneohnigaaDoor
