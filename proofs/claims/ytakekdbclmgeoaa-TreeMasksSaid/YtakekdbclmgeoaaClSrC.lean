import Derived.Test.YtakekdbclmgeoaaClSrB
namespace Go.Proofs.Ytakekdbclmgeoaa.Cl
open Go.RowKit
/-! The comparison of two nodes by depth. -/
def cmpV (a b : Int) : Int := if a < b then -1 else if b < a then 1 else 0
theorem cmpV_neg (a b : Int) : (cmpV a b < 0) ↔ a < b := by unfold cmpV; repeat' split <;> omega
set_option maxRecDepth 20000 in
theorem isNaN_any (w : World) (a : Int) : Calls Try.prog 51 #[.int .i64 a] w fun e w' => e = .returned (.bool false) ∧ w' = w := by
  go_enter Try.func51, Try.ntmps51
  go_wp2
  go_ret
  exact ⟨rfl, rfl⟩
set_option maxRecDepth 20000 in
set_option maxHeartbeats 1600000 in
theorem compare_any (w : World) (a b : Int) : Calls Try.prog 49 #[.int .i64 a, .int .i64 b] w fun e w' => e = .returned (.int .i64 (cmpV a b)) ∧ w' = w := by
  have HN := hidd (isNaN_any w)
  unfold cmpV
  by_cases h1 : a < b
  · have d1 : decide (a < b) = true := decide_eq_true h1
    rw [if_pos h1]
    go_enter Try.func49, Try.ntmps49
    go_wp2_with (go_at_call 51; with_reducible refine (HN.out _).mono ?_; rintro e w2 ⟨rfl, h2⟩; rw [h2]; clear h2)
    go_ret
    exact ⟨rfl, rfl⟩
  · have d1 : decide (a < b) = false := decide_eq_false h1
    rw [if_neg h1]
    by_cases h2 : b < a
    · have d2 : decide (b < a) = true := decide_eq_true h2
      rw [if_pos h2]
      go_enter Try.func49, Try.ntmps49
      go_wp2_with (go_at_call 51; with_reducible refine (HN.out _).mono ?_; rintro e w2 ⟨rfl, h2⟩; rw [h2]; clear h2)
      go_ret
      exact ⟨rfl, rfl⟩
    · have d2 : decide (b < a) = false := decide_eq_false h2
      rw [if_neg h2]
      go_enter Try.func49, Try.ntmps49
      go_wp2_with (go_at_call 51; with_reducible refine (HN.out _).mono ?_; rintro e w2 ⟨rfl, h2⟩; rw [h2]; clear h2)
      go_ret
      exact ⟨rfl, rfl⟩
/-- nodes behind a box, their depths -/
structure NdK (w : World) (bx n : Nat) (K : Nat → Int) (nb o c : Nat) : Prop where
  box : w.cell? ⟨bx, 0, none⟩ = some (.slice (some ⟨nb, o, none⟩) n c)
  at_ : ∀ i, i < n → w.cell? ⟨nb, o + i * 3 + 2, none⟩ = some (.int .i64 (K i))
set_option maxRecDepth 20000 in
set_option maxHeartbeats 1600000 in
theorem cmpD_any {w : World} {bx n : Nat} {K : Nat → Int} {nb o c : Nat} (h : NdK w bx n K nb o c) {x y : Nat} (hx : x < n) (hy : y < n) :
    Calls Try.prog 48 #[.int .i64 (x : Int), .int .i64 (y : Int), .pointer (some ⟨bx, 0, none⟩)] w fun e w' => e = .returned (.int .i64 (cmpV (K x) (K y))) ∧ ∃ q, w' = w.drewN q := by
  have c0 := h.box
  have c1 := h.at_ x hx
  have c2 := h.at_ y hy
  have i0 : (0 : Int) ≤ (x : Int) := by omega
  have i1 : (x : Int) < (n : Int) := by omega
  have i2 : (0 : Int) ≤ (y : Int) := by omega
  have i3 : (y : Int) < (n : Int) := by omega
  have HC : Hid (∀ z : World, Calls Try.prog 49 #[.int .i64 (K x), .int .i64 (K y)] z fun e w' => e = .returned (.int .i64 (cmpV (K x) (K y))) ∧ w' = z) := fun z => compare_any z _ _
  generalize cmpV (K x) (K y) = r at HC ⊢
  clear h
  go_enter Try.func48, Try.ntmps48
  go_wp2
  go_quiet (exact Calls.quiet_of_same (HC.out _))
  go_wp2
  go_ret
  exact ⟨rfl, _, rfl⟩
end Go.Proofs.Ytakekdbclmgeoaa.Cl
