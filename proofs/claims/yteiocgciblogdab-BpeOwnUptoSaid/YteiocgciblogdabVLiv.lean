import Derived.Test.YteiocgciblogdabVEnc
import Derived.Test.YteiocgciblogdabVInt
import Derived.Test.YteiocgciblogdabVByt
import Derived.Test.YteiocgciblogdabVRen
import Derived.Test.YteiocgciblogdabVInt
import Derived.Laws.BytesArg
import Derived.Lib.SlBytesConst
import Derived.Laws.Rows
namespace Go.Proofs.Yteiocgciblogdab
open Go.RowKit
/-! lives. -/
theorem OwnB.rda {w : World} {base : Nat} {ao : Option Addr} {m cap : Nat} {l : List Int} (h : OwnB w base (.slice ao m cap) l) : m = l.length ∧ RdA w ao 1 l.length cap (fun j => .int .u8 (l.getD j 0)) := by
  obtain ⟨ao', cap', e, hr⟩ := h.rd
  cases e; exact ⟨rfl, hr⟩
theorem OwnB.get {w : World} {base : Nat} {v : Value} {l : List Int} (h : OwnB w base v l) : ∃ ao cap, v = .slice ao l.length cap ∧ RdA w ao 1 l.length cap (fun j => .int .u8 (l.getD j 0)) := h.rd
def abcD : VD := ⟨3, 3, fun i => if i = 0 then 97 else if i = 1 then 98 else 99, fun j => if j = 0 then 1 else if j = 1 then 4 else 1, fun j => if j = 0 then 2 else if j = 1 then 3 else 1⟩
theorem abc_ok : ∀ j, j < 3 → abcD.okPair j := by
  intro j hj
  obtain rfl | rfl | rfl : j = 0 ∨ j = 1 ∨ j = 2 := by omega
  all_goals (unfold VD.okPair; simp [abcD])
theorem abc_p1 : abcD.pc 1 = [97] := abcD.pc_base (i := 0) (by simp [abcD])
theorem abc_p2 : abcD.pc 2 = [98] := abcD.pc_base (i := 1) (by simp [abcD])
theorem abc_p3 : abcD.pc 3 = [99] := abcD.pc_base (i := 2) (by simp [abcD])
theorem abc_p4 : abcD.pc 4 = [97, 98] := by
  have h := abcD.pc_pair (abc_ok 0 (by omega))
  rw [show abcD.nb + 1 + 0 = 4 from rfl, show (abcD.P 0).toNat = 1 from rfl, show (abcD.Q 0).toNat = 2 from rfl, abc_p1, abc_p2] at h
  exact h
theorem abc_p5 : abcD.pc 5 = [97, 98, 99] := by
  have h := abcD.pc_pair (abc_ok 1 (by omega))
  rw [show abcD.nb + 1 + 1 = 5 from rfl, show (abcD.P 1).toNat = 4 from rfl, show (abcD.Q 1).toNat = 3 from rfl, abc_p4, abc_p3] at h
  exact h
theorem abc_p6 : abcD.pc 6 = [97, 97] := by
  have h := abcD.pc_pair (abc_ok 2 (by omega))
  rw [show abcD.nb + 1 + 2 = 6 from rfl, show (abcD.P 2).toNat = 1 from rfl, show (abcD.Q 2).toNat = 1 from rfl, abc_p1] at h
  exact h
theorem abc_right : abcD.Right := by
  refine ⟨⟨by simp [abcD], by simp [abcD], by simp [abcD]⟩, ?_, ?_, fun j hj => abc_ok j hj, ?_⟩
  · intro i hi k hk
    have hi : i < 3 := hi
    obtain rfl | rfl | rfl : i = 0 ∨ i = 1 ∨ i = 2 := by omega
    · omega
    · obtain rfl : k = 0 := by omega
      simp [abcD]
    · obtain rfl | rfl : k = 0 ∨ k = 1 := by omega
      all_goals simp [abcD]
  · intro j hj k hk
    have hj : j < 3 := hj
    obtain rfl | rfl | rfl : j = 0 ∨ j = 1 ∨ j = 2 := by omega
    · omega
    · obtain rfl : k = 0 := by omega
      simp [abcD]
    · obtain rfl | rfl : k = 0 ∨ k = 1 := by omega
      all_goals simp [abcD]
  · intro j hj
    have hj : j < 3 := hj
    obtain rfl | rfl | rfl : j = 0 ∨ j = 1 ∨ j = 2 := by omega
    · show (abcD.pc 4).length ≤ 16; rw [abc_p4]; simp
    · show (abcD.pc 5).length ≤ 16; rw [abc_p5]; simp
    · show (abcD.pc 6).length ≤ 16; rw [abc_p6]; simp
/-- the bytes abcab -/
def abcX : Nat → Int := fun i => if i = 0 then 97 else if i = 1 then 98 else if i = 2 then 99 else if i = 3 then 97 else 98
def abcT : Nat → Int := fun i => if i = 0 then 5 else 4
theorem abc_enc : abcD.encOut abcX 5 0 [5, 4] := by
  refine .inr (.inr ⟨abc_right, ?_, rfl, ?_⟩)
  · intro i hi
    obtain rfl | rfl | rfl | rfl | rfl : i = 0 ∨ i = 1 ∨ i = 2 ∨ i = 3 ∨ i = 4 := by omega
    all_goals decide
  · decide
theorem abc_dec : abcD.decOut abcT 2 0 [97, 98, 99, 97, 98] := by
  refine .inr (.inr ⟨abc_right, ?_, rfl, ?_⟩)
  · intro i hi
    obtain rfl | rfl : i = 0 ∨ i = 1 := by omega
    all_goals (unfold VD.good; simp [abcD, abcT])
  · simp only [VD.dec]
    rw [show (abcT 0).toNat = 5 from rfl, show (abcT 1).toNat = 4 from rfl, abc_p5, abc_p4]
    rfl
theorem blk_second (w : World) (a b : Obj) : ((w.alloc a).alloc b).heap[w.heap.size + 1]? = some b := by
  rw [show w.heap.size + 1 = (w.alloc a).heap.size by simp]; exact Go.Deep.blk_alloc_new _ _
theorem blk_third (w : World) (a b c : Obj) : (((w.alloc a).alloc b).alloc c).heap[w.heap.size + 1 + 1]? = some c := by
  rw [show w.heap.size + 1 + 1 = ((w.alloc a).alloc b).heap.size by simp]; exact Go.Deep.blk_alloc_new _ _
set_option maxRecDepth 20000 in
set_option maxHeartbeats 4000000 in
theorem abc_any (w : World) :
    Calls Try.prog 28 #[] w fun e w' => ∃ gb gp, e = .returned (.agg #[.slice (some ⟨gb, 0, none⟩) 3 3, .slice (some ⟨gp, 0, none⟩) 3 3]) ∧ RdA w' (some ⟨gb, 0, none⟩) 1 abcD.nb 3 (fun i => .int .u8 (abcD.B i)) ∧ RdA w' (some ⟨gp, 0, none⟩) 2 abcD.np 3 (tcs abcD.P abcD.Q) ∧ Below w.heap.size w w' := by
  have hcv := Lib.run_convert_bytes_const (P := Try.prog) (w.alloc (.cells #[.slice none 0 0, .slice none 0 0] 25)) 22 5 #[.int .u8 97, .int .u8 98, .int .u8 99] 3 3 Try.underlying22 Try.underlying5
  simp only [World.size_alloc] at hcv
  go_enter Try.func28, Try.ntmps28
  go_wp2
  clear hcv
  refine bodyPost_ret (v := .agg #[.slice (some ⟨w.heap.size + 1, 0, none⟩) 3 3, .slice (some ⟨w.heap.size + 1 + 1, 0, none⟩) 3 3]) (by simp [results, Try.results28, go_sem]) rfl ?_
  refine ⟨w.heap.size + 1, w.heap.size + 1 + 1, rfl, ⟨Nat.le_refl _, by simp [maxLen], fun _ => ⟨_, _, rfl, fun j hj => ?_⟩⟩, ⟨Nat.le_refl _, by simp [maxLen], fun _ => ⟨_, _, rfl, fun j hj => ?_⟩⟩, fresh_trans (fresh_trans (fresh_alloc _ _) (fresh_alloc _ _)) (fresh_alloc _ _)⟩
  · have hj : j < 3 := hj
    rw [Nat.zero_add, cell_of_row _ (w.heap.size + 1) j _ _ _ (by rw [Go.Deep.blk_alloc_lt _ _ _ (by simp)]; exact blk_second _ _ _)]
    obtain rfl | rfl | rfl : j = 0 ∨ j = 1 ∨ j = 2 := by omega
    all_goals rfl
  · have hj : j < 6 := hj
    rw [Nat.zero_add, cell_of_row _ (w.heap.size + 1 + 1) j _ _ _ (blk_third _ _ _ _)]
    obtain rfl | rfl | rfl | rfl | rfl | rfl : j = 0 ∨ j = 1 ∨ j = 2 ∨ j = 3 ∨ j = 4 ∨ j = 5 := by omega
    all_goals rfl
theorem five_rd (w : World) (f : Nat × Nat) : RdA (w.alloc (.cells #[.int .u8 97, .int .u8 98, .int .u8 99, .int .u8 97, .int .u8 98] 5 f)) (some ⟨w.heap.size, 0, none⟩) 1 5 5 (fun i => .int .u8 (abcX i)) := by
  refine ⟨Nat.le_refl _, by simp [maxLen], fun _ => ⟨_, _, rfl, fun j hj => ?_⟩⟩
  have hj : j < 5 := by omega
  rw [Nat.zero_add, cell_of_row _ w.heap.size j _ _ _ (Go.Deep.blk_alloc_new _ _)]
  obtain rfl | rfl | rfl | rfl | rfl : j = 0 ∨ j = 1 ∨ j = 2 ∨ j = 3 ∨ j = 4 := by omega
  all_goals rfl
theorem two_rd (w : World) : RdA (w.alloc (.cells #[.int .i64 5, .int .i64 4] 3)) (some ⟨w.heap.size, 0, none⟩) 1 2 2 (fun i => .int .i64 (abcT i)) := by
  refine ⟨Nat.le_refl _, by simp [maxLen], fun _ => ⟨_, _, rfl, fun j hj => ?_⟩⟩
  have hj : j < 2 := by omega
  obtain rfl | rfl : j = 0 ∨ j = 1 := by omega
  all_goals simp [abcT]
theorem abcX_bd : ∀ i, i < 5 → 0 ≤ abcX i ∧ abcX i ≤ 255 := by
  intro i hi
  obtain rfl | rfl | rfl | rfl | rfl : i = 0 ∨ i = 1 ∨ i = 2 ∨ i = 3 ∨ i = 4 := by omega
  all_goals simp [abcX]
theorem abcB_bd : ∀ i, i < abcD.nb → 0 ≤ abcD.B i ∧ abcD.B i ≤ 255 := by
  intro i hi
  have hi : i < 3 := hi
  obtain rfl | rfl | rfl : i = 0 ∨ i = 1 ∨ i = 2 := by omega
  all_goals simp [abcD]
theorem OwnI.get {w : World} {base : Nat} {v : Value} {l : List Int} (h : OwnI w base v l) : ∃ ao cap, v = .slice ao l.length cap ∧ RdA w ao 1 l.length cap (fun j => .int .i64 (l.getD j 0)) := h.rd
theorem str_abc : strOfNums [97, 98, 99, 97, 98] = ⟨#[97, 98, 99, 97, 98]⟩ := rfl
set_option maxRecDepth 20000 in
set_option maxHeartbeats 4000000 in
theorem lives_any (w : World) :
    Calls Try.prog 12 #[] w fun e w' => e = .returned (.bool true) ∧ Below w.heap.size w w' := by
  go_enter Try.func12, Try.ntmps12
  go_wp2_with fail
  refine (abc_any w).mono ?_
  rintro e w1 ⟨gb, gp, rfl, rb, rp, hf1⟩
  have hcv := Lib.run_convert_bytes_const (P := Try.prog) w1 22 5 #[.int .u8 97, .int .u8 98, .int .u8 99, .int .u8 97, .int .u8 98] 5 5 Try.underlying22 Try.underlying5
  have fA := fresh_alloc w1 (.cells #[.int .u8 97, .int .u8 98, .int .u8 99, .int .u8 97, .int .u8 98] 5 (5, 6))
  have H5 := hidd (five_rd w1 (5, 6))
  go_wp2_with fail
  clear hcv
  refine (penc_any (d := abcD) (rb.fresh fA) (rp.fresh fA) abcB_bd H5.out abcX_bd (by omega) 0 [5, 4] abc_enc).mono ?_
  rintro e w2 ⟨v2, rfl, hO2, hf2⟩
  have hF2 := fresh_trans (fresh_trans hf1 fA) hf2
  obtain ⟨a2, k2, rfl, rd2⟩ := hO2.get
  clear rb rp hf1 fA H5 hf2 hO2
  go_wp2_with fail
  refine (abc_any w2).mono ?_
  rintro e w3 ⟨gb3, gp3, rfl, rb, rp, hf3⟩
  have fA := fresh_alloc w3 (.cells #[.int .i64 5, .int .i64 4] 3)
  have H2 := hidd (two_rd w3)
  have hF3 := fresh_trans (fresh_trans hF2 hf3) fA
  have rd3 := (rd2.fresh hf3).fresh fA
  clear rd2 hF2 hf3
  go_wp2_with fail
  refine (pdec_any (d := abcD) (rb.fresh fA) (rp.fresh fA) H2.out (by omega) 0 [97, 98, 99, 97, 98] abc_dec).mono ?_
  rintro e w4 ⟨v4, rfl, hO4, hf4⟩
  obtain ⟨a4, k4, rfl, rd4⟩ := hO4.get
  have hF4 := fresh_trans hF3 hf4
  have rd5 := rd3.fresh hf4
  clear rb rp fA H2 rd3 hF3 hf4 hO4
  have fA := fresh_alloc w4 (.cells #[.int .i64 5, .int .i64 4] 3)
  have H2 := hidd (two_rd w4)
  have rd6 := rd5.fresh fA
  have rd7 := rd4.fresh fA
  have hF5 := fresh_trans hF4 fA
  clear rd5 rd4 hF4 fA
  go_wp2_with fail
  refine (eqInts_same rd6 H2.out (fun i hi => ?_)).mono ?_
  · have hi : i < 2 := hi
    obtain rfl | rfl : i = 0 ∨ i = 1 := by omega
    all_goals rfl
  rintro e w6 ⟨rfl, hf6⟩
  have rd8 := rd7.fresh hf6
  have hF6 := fresh_trans hF5 hf6
  obtain ⟨b8, o8, rfl, hc8⟩ := rd8.one (by simp)
  have hcv := run_convert_bytes_arg (P := Try.prog) w6 22 5 Try.underlying22 Try.underlying5 b8 o8 5 k4 [97, 98, 99, 97, 98] rfl hc8 9 Try.underlying9
  rw [str_abc] at hcv
  clear rd8 rd7 rd6 hf6 hF5 hc8
  go_wp2
  go_ret
  exact ⟨rfl, hF6⟩
end Go.Proofs.Yteiocgciblogdab
