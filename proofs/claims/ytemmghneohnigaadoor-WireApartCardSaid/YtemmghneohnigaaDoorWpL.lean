import Derived.Test.YtemmghneohnigaaDoorWpK
namespace Go.Proofs.YtemmghneohnigaaDoor
open Go.RowKit
/-! works: a line is read and written. -/
theorem tx7 : wNm 4 ++ 32 :: (numL 7 ++ 32 :: lit [97]) = [116, 101, 120, 116, 32, 55, 32, 34, 97, 34] := by decide +kernel
theorem ts7 : strOfNums [116, 101, 120, 116, 32, 55, 32, 34, 97, 34] = ⟨#[116, 101, 120, 116, 32, 55, 32, 34, 97, 34]⟩ := rfl
theorem byt97 : Byt [97] := (by decide : ∀ x ∈ [(97 : Int)], 0 ≤ x ∧ x ≤ 255)
theorem parse7 {w : World} (hE : Env w) : Calls Tryd.prog 16 #[.string ⟨#[116, 101, 120, 116, 32, 55, 32, 34, 97, 34]⟩] w fun e w' => ∃ ao cap, e = .returned (.tuple #[.agg #[.string ⟨#[116, 101, 120, 116]⟩, .int .i64 7, .slice ao 1 cap, .slice none 0 0, .int .u64 0, .string ⟨#[]⟩, .slice none 0 0], .int .i64 0]) ∧ RdA w' ao 1 1 cap (byc [97]) ∧ Below w.heap.size w w' := by
  have h := parse_text (n := 7) (b := [97]) (by omega) (by omega) byt97 (by rw [tx7]; decide) hE
  rw [tx7, ts7] at h
  refine h.mono ?_
  rintro e w' ⟨ao, cap, he, ho, hf⟩
  obtain ⟨ao', c', e2, hr⟩ := ho.rd
  cases e2
  exact ⟨ao, cap, he, hr, hf⟩
theorem print7 {w : World} {ao : Option Addr} {cap : Nat} (hr : RdA w ao 1 1 cap (byc [97])) (hE : Env w) : Calls Tryd.prog 14 #[.agg #[.string ⟨#[116, 101, 120, 116]⟩, .int .i64 7, .slice ao 1 cap, .slice none 0 0, .int .u64 0, .string ⟨#[]⟩, .slice none 0 0]] w fun e w' => e = .returned (.tuple #[.string ⟨#[116, 101, 120, 116, 32, 55, 32, 34, 97, 34]⟩, .int .i64 0]) ∧ Below w.heap.size w w' := by
  have h := print_text (n := 7) (b := [97]) (by omega) (by omega) byt97 (by rw [tx7]; decide) hr hE
  rw [tx7, ts7] at h
  exact h
set_option maxRecDepth 20000 in
set_option maxHeartbeats 1600000 in
theorem works_any {w : World} (hE : Env w) : Calls Tryd.prog 8 #[] w fun e w' => e = .returned (.bool true) ∧ Below w.heap.size w w' := by
  have HE := hidd hE
  have hbig := hE.big
  clear hE
  go_enter Tryd.func8, Tryd.ntmps8
  go_upto_region 2 with (go_at_call 16; with_reducible refine (parse7 HE.out).mono ?_; rintro e w1 ⟨ao, cap, rfl, hr1, hf1⟩)
  have hB := Blk.new w1 38 #[.string ⟨#[116, 101, 120, 116]⟩, .int .i64 7, .slice ao 1 cap, .slice none 0 0, .int .u64 0, .string ⟨#[]⟩, .slice none 0 0]
  have hF := fresh_alloc w1 (.cells #[.string ⟨#[116, 101, 120, 116]⟩, .int .i64 7, .slice ao 1 cap, .slice none 0 0, .int .u64 0, .string ⟨#[]⟩, .slice none 0 0] 38)
  generalize w1.alloc (.cells #[.string ⟨#[116, 101, 120, 116]⟩, .int .i64 7, .slice ao 1 cap, .slice none 0 0, .int .u64 0, .string ⟨#[]⟩, .slice none 0 0] 38) = w2 at *
  obtain ⟨lb, elb⟩ : ∃ lb, lb = w1.heap.size := ⟨_, rfl⟩
  rw [← elb] at hB ⊢
  have HR2 := hidd (hr1.fresh hF)
  have HF2 := hidd (fresh_trans hf1 hF)
  have HE2 := hidd (HE.out.fresh HF2.out)
  clear elb hr1 hf1 hF
  have q0 := hB.cell 0
  have q1 := hB.cell 1
  have q2 := hB.cell 2
  have q3 := hB.cell 3
  have q4 := hB.cell 4
  have q5 := hB.cell 5
  have q6 := hB.cell 6
  simp at q0 q1 q2 q3 q4 q5 q6
  have HB := hidd hB
  clear hB
  go_upto_region 3 with (go_at_call 14; with_reducible refine (print7 HR2.out HE2.out).mono ?_; rintro e w3 ⟨rfl, hf3⟩)
  have HF3 := hidd (fresh_trans HF2.out hf3)
  have hB3 := HB.out.fresh hf3
  have p1 := hB3.cell 1
  have p2 := hB3.cell 2
  simp at p1 p2
  clear hf3 hB3 q0 q1 q2 q3 q4 q5 q6
  go_wp2
  go_ret
  exact ⟨rfl, HF3.out⟩
end Go.Proofs.YtemmghneohnigaaDoor
