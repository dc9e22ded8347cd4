import Derived.ChangeKeysEq
import Derived.Laws.StructEq
import Derived.Test.YtjjnfpeeipainaaLfA
namespace Go.Proofs.Ytjjnfpeeipainaa
open Go.RowKit
/-! Two lists of shifts held against each other. -/
theorem sh7_part0 (s : Nat → Int) (w : World) : (part 3 (sh7 s) 0).run Try.prog w = .ok (.int .i64 (s 0)) w := by kernel_rfl
theorem sh7_part1 (s : Nat → Int) (w : World) : (part 3 (sh7 s) 1).run Try.prog w = .ok (.int .i64 (s 1)) w := by kernel_rfl
theorem sh7_part2 (s : Nat → Int) (w : World) : (part 3 (sh7 s) 2).run Try.prog w = .ok (.int .i64 (s 2)) w := by kernel_rfl
theorem sh7_part3 (s : Nat → Int) (w : World) : (part 3 (sh7 s) 3).run Try.prog w = .ok (.int .i64 (s 3)) w := by kernel_rfl
theorem sh7_part4 (s : Nat → Int) (w : World) : (part 3 (sh7 s) 4).run Try.prog w = .ok (.int .i64 (s 4)) w := by kernel_rfl
theorem sh7_part5 (s : Nat → Int) (w : World) : (part 3 (sh7 s) 5).run Try.prog w = .ok (.int .i64 (s 5)) w := by kernel_rfl
theorem sh7_part6 (s : Nat → Int) (w : World) : (part 3 (sh7 s) 6).run Try.prog w = .ok (.int .i64 (s 6)) w := by kernel_rfl
theorem sh7_part (s : Nat → Int) (w : World) : ∀ (i : Nat), i < 7 → (part 3 (sh7 s) (i * 1)).run Try.prog w = .ok (.int .i64 (s i)) w
  | 0, _ => sh7_part0 s w
  | 1, _ => sh7_part1 s w
  | 2, _ => sh7_part2 s w
  | 3, _ => sh7_part3 s w
  | 4, _ => sh7_part4 s w
  | 5, _ => sh7_part5 s w
  | 6, _ => sh7_part6 s w
theorem cellsInt : Try.prog.cellsOf 3 = 1 := by kernel_rfl
theorem items7 (a b : Nat → Int) (w : World) : ∀ (is : List Nat), (∀ i ∈ is, i < 7) → (Op.eqItems 9999 3 1 (sh7 a) (sh7 b) is).run Try.prog w = .ok (decide (∀ i ∈ is, a i = b i)) w
  | [], _ => by simp [Op.eqItems]
  | i :: is, h => by
    have h1 := sh7_part a w i (h i (by simp))
    have h2 := sh7_part b w i (h i (by simp))
    have h3 := run_equalIn_int w 9998 3 .i64 .i64 (a i) (b i) Try.underlying3
    simp only [Op.eqItems, Sem.run_bind, h1, h2, h3, Result.andThen_ok]
    by_cases e : a i = b i
    · have e1 : (a i == b i) = true := by simp [e]
      rw [e1]
      simp only [Bool.not_true, Bool.false_eq_true, if_false]
      rw [items7 a b w is (fun j hj => h j (by simp [hj]))]
      simp [e]
    · have e1 : (a i == b i) = false := by simp [e]
      rw [e1]
      simp [e]
theorem eql7 (a b : Nat → Int) (r : Bool) (hr : r = true ↔ ∀ i, i < 7 → a i = b i) (w : World) : (Op.equalIn 10000 95 (.agg (sh7 a)) (.agg (sh7 b))).run Try.prog w = .ok r w := by
  obtain ⟨inf, hinf⟩ : ∃ inf, Try.prog.info? 3 = some inf := by
    have := infoI
    cases h : Try.prog.info? 3 with
    | none => rw [h] at this; cases this
    | some x => exact ⟨x, rfl⟩
  have h1 := run_equalIn_array w 9999 (sh7 a) (sh7 b) Try.underlying95 hinf
  have h2 := items7 a b w (List.range 7) (fun i hi => List.mem_range.1 hi)
  rw [cellsInt, h2] at h1
  have h3 : decide (∀ i ∈ List.range 7, a i = b i) = r := by
    cases hh : r with
    | true => simp only [decide_eq_true_eq]; intro i hi; exact hr.1 hh i (List.mem_range.1 hi)
    | false =>
      simp only [decide_eq_false_iff_not]
      intro h
      have := hr.2 (fun i hi => h i (List.mem_range.2 hi))
      rw [hh] at this
      cases this
  rw [h3] at h1
  exact h1
end Go.Proofs.Ytjjnfpeeipainaa
