import Derived.Test.YtaalinlggjimcaaXV
import Derived.Test.YtaalinlggjimcaaXU
import Derived.Test.YtaalinlggjimcaaXS
namespace Go.Proofs.Ytaalinlggjimcaa
open Go.RowKit
/-! works: a pool of two blocks of one, a block kept, found, and given up. -/
def tk8 : Nat → Int := fun i => if i = 0 then 7 else 8
theorem tk8_fits (i : Nat) : fits (tk8 i) := by
  unfold tk8 fits
  split <;> omega
theorem long_nil {C : Nat} {P : List (List Int)} {k b o : Nat} (h : Long C [] P k b o) : k = 0 := by
  rcases h.adr with ⟨e, _⟩ | ⟨x, hx, _⟩
  · have := congrArg List.length e
    have hl := h.le
    rw [List.length_take, Nat.min_eq_left hl] at this
    simpa using this
  · cases hx
/-- what was kept: one that is known -/
theorem ext_one {P : List (List Int)} {g : Nat → Nat} {L' news : List Nd} (h : Ext [] P g 0 1 L' news) : ∃ y, L' = [y] ∧ y.path = P.take 1 ∧ y.blk = g 0 ∧ y.used = 0 := by
  obtain ⟨y, hy, h1, h2, h3⟩ := h.at_ 0 (by omega)
  refine ⟨y, ?_, by simpa using h1, by simpa using h2, h3⟩
  rw [h.eq]
  have hl := h.len
  match news, hl, hy with
  | [z], _, hy => simp at hy; simp [hy]
structure One (L : List Nd) (y : Nd) : Prop where
  eq : L = [y]
  path : y.path = pcL tk8 1 1
  blk : y.blk = 0
theorem use_one {L : List Nd} {y : Nd} (h : One L y) (p : List (List Int)) (n : Nat) : ∃ z, One (useL L p n) z := by
  refine ⟨mkF p 0 n y, ?_, ?_, ?_⟩
  · rw [h.eq]; rfl
  · rw [(mkF_same _ _ _).path]; exact h.path
  · rw [(mkF_same _ _ _).blk]; exact h.blk
theorem one_long {C : Nat} {L : List Nd} {y : Nd} (h : One L y) {k b o : Nat} (hl : Long C L (pcL tk8 1 2) k b o) : k = 1 := by
  have hle := hl.le
  rw [pcL_len] at hle
  by_cases h0 : k = 0
  · exact absurd (by rw [h.path, pcL_take _ _ (by omega)]) (hl.no 1 (by omega) (by rw [pcL_len]; omega) y (by rw [h.eq]; simp))
  · by_cases h2 : k = 2
    · rcases hl.adr with ⟨e, _⟩ | ⟨x, hx, e, _⟩
      · have := congrArg List.length e
        rw [List.length_take, pcL_len] at this
        simp at this
        omega
      · rw [h.eq] at hx
        simp at hx
        subst hx
        have := congrArg List.length e
        rw [h.path, List.length_take, pcL_len, pcL_len] at this
        omega
    · omega
theorem one_lg {L : List Nd} {y : Nd} (h : One L y) : lg L y.path = 0 := by
  unfold lg
  rw [h.eq, List.length_eq_zero_iff, List.filter_eq_nil_iff]
  intro z hz
  simp at hz
  subst hz
  simp only [decide_eq_true_eq]
  intro e
  have := congrArg List.length e
  rw [h.path] at this
  simp [pcL_len] at this
theorem one_shr {L : List Nd} {y : Nd} (h : One L y) {cnt : Nat → Nat} (hc : cnt 0 = 1) {j : Nat} {L' : List Nd} {cnt' : Nat → Nat} (hs : Shr 2 L cnt j L' cnt') (h1 : (j : Int) ≤ 1 ∨ j = 0) (h2 : (1 : Int) ≤ j ∨ LeastTo L' cnt' 2 nilP) : j = 1 ∧ cnt' = updN cnt 0 0 := by
  cases hs with
  | nil =>
    rcases h2 with h2 | h2
    · omega
    · rcases h2 with ⟨_, hno⟩ | ⟨x, _, e, _⟩
      · exact absurd ⟨one_lg h, by rw [h.blk]; exact hc⟩ (hno y (by rw [h.eq]; simp) (by rw [h.blk]; omega))
      · cases e
  | step hs hx hl =>
    rename_i j L1 c1 x
    have : j = 0 := by omega
    subst this
    cases hs
    refine ⟨rfl, ?_⟩
    rw [h.eq] at hx
    simp at hx
    rw [hx, h.blk]
theorem new_2 (w : World) : Calls Try.prog 16 #[.int .i64 1, .int .i64 1, .int .i64 2, .int .i64 1] w fun e w' => ∃ g cb nb, e = .returned (.tuple #[.pointer (some ⟨g, 0, none⟩), .int .i64 0]) ∧ PoolAt w' g cb nb 1 1 2 1 (fun _ => 0) (fun _ => 0) ∧ (w.heap.size ≤ g ∧ w.heap.size ≤ cb ∧ w.heap.size ≤ nb) ∧ Below w.heap.size w w' :=
  new_any (L := 1) (W := 1) (B := 2) (S := 1) w (by omega) (by omega) (by omega) (by omega)
theorem take_2 {w : World} {g cb nb : Nat} (h : PoolAt w g cb nb 1 1 2 1 (fun _ => 0) (fun _ => 0)) : Calls Try.prog 17 #[.pointer (some ⟨g, 0, none⟩)] w fun e w' => e = .returned (.tuple #[.int .i64 0, .int .i64 0]) ∧ (∃ num, PoolAt w' g cb nb 1 1 2 1 (updN (fun _ => 0) 0 1) num) ∧ Chg w w' (fun x => x = cb ∨ x = nb) := by
  obtain ⟨q, n, T, G⟩ := h.geo
  refine (take_hit h G (b := 0) (by omega) rfl (fun j hj => absurd hj (by omega))).mono ?_
  rintro e w' ⟨rfl, hp, hc⟩
  exact ⟨rfl, ⟨_, hp⟩, hc⟩
end Go.Proofs.Ytaalinlggjimcaa
