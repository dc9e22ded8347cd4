import Derived.Test.YtmcefgpejocjfaaDoorMvRef
namespace Go.Proofs.YtmcefgpejocjfaaDoor
open Go.RowKit
/-! The reference's MatVec: its refusals. -/
set_option maxHeartbeats 1000000 in
theorem matvec_rbad {w : World} {R C : Int} {ao bo : Option Addr} {n m ca cb : Nat} {f : Nat → Int} (ha : RdA w ao 1 n ca (fun i => .int .i8 (f i))) (bf : ∀ i, i < n → -128 ≤ f i ∧ f i ≤ 127)
    (h : shp R C n = false ∨ (∃ i, i < n ∧ f i < -127) ∨ (m : Int) ≠ C) :
    Calls Tryd.prog 46 #[.agg #[.int .i64 R, .int .i64 C, .slice ao n ca], .slice bo m cb] w fun e w' => e = .returned (.tuple #[.slice none 0 0, .int .i64 30]) ∧ Below w.heap.size w w' := by
  have hn : n ≤ 9223372036854775807 := by have := ha.le; have := ha.top; unfold maxLen at this; omega
  have qc : ∀ w0, Below w.heap.size w w0 → Calls Tryd.prog 45 #[.agg #[.int .i64 R, .int .i64 C, .slice ao n ca]] w0 fun e w' => (e = .returned (.int .i64 30) ∨ (e = .returned (.int .i64 0) ∧ (m : Int) ≠ C)) ∧ Below w0.heap.size w0 w' := by
    intro w0 hw0
    by_cases hs : shp R C n = true
    · by_cases hall : ∀ i, i < n → -127 ≤ f i
      · refine (check_rdata (ha.fresh hw0) hs bf true ⟨fun _ => hall, fun _ => rfl⟩).mono ?_
        rintro e w' ⟨rfl, hf⟩
        refine ⟨.inr ⟨rfl, ?_⟩, hf⟩
        rcases h with h | ⟨i, hi, hl⟩ | h
        · rw [hs] at h; cases h
        · have := hall i hi; omega
        · exact h
      · refine (check_rdata (ha.fresh hw0) hs bf false ⟨(fun hh => absurd hh (by decide)), (fun hh => absurd hh hall)⟩).mono ?_
        rintro e w' ⟨rfl, hf⟩
        exact ⟨.inl rfl, hf⟩
    · refine (check_rshape hn (by simpa using hs)).mono ?_
      rintro e w' ⟨rfl, hf⟩
      exact ⟨.inl rfl, hf⟩
  have qd := qc _ (fresh_alloc w (.cells #[.int .i64 R, .int .i64 C, .slice ao n ca] 28))
  clear qc h bf
  go_enter Tryd.func46, Tryd.ntmps46
  go_wp2_with fail
  refine qd.mono ?_
  rintro e w1 ⟨rfl | ⟨rfl, hmC⟩, hb1⟩
  · have H1 := fresh_trans (fresh_alloc w _) hb1
    clear qd
    go_wp2
    go_ret2
    exact ⟨rfl, H1⟩
  · have H1 := fresh_trans (fresh_alloc w _) hb1
    have c1 := fresh_cell hb1 (k := w.heap.size) (o := 1) (v := .int .i64 C) (by simp)
    have hne : ((m : Int) != C) = true := by simp; omega
    clear qd hmC
    go_wp2
    go_ret2
    exact ⟨rfl, H1⟩
end Go.Proofs.YtmcefgpejocjfaaDoor
