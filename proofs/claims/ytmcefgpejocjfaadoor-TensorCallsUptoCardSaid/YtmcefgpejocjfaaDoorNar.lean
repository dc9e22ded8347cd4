import Derived.Test.YtmcefgpejocjfaaDoorShift
import Derived.Test.YtmcefgpejocjfaaDoorClamp8
import Derived.Test.YtmcefgpejocjfaaDoorEqs
import Derived.Test.YtmcefgpejocjfaaDoorSmall
namespace Go.Proofs.YtmcefgpejocjfaaDoor
open Go.RowKit
/-! Narrow. -/
/-- a number of Narrow's answer -/
def nar (f : Nat → Int) (s : Int) (i : Nat) : Int := Fix.cl (Fix.sh (f i) s) 127
theorem nar_next {f : Nat → Int} {s : Int} {k : Nat} {F : Nat → Value} (h : ∀ j, j < k → F j = .int .i8 (nar f s j)) :
    ∀ j, j < k + 1 → (fun i => if i = k then Value.int .i8 (Fix.cl (Fix.sh (f k) s) 127) else F i) j = .int .i8 (nar f s j) := fun j hj => by
  dsimp only
  by_cases e : j = k
  · rw [if_pos e, e]; rfl
  · rw [if_neg e]; exact h j (by omega)
set_option maxHeartbeats 400000 in
theorem narrow_bad {w : World} {ao : Option Addr} {n ca : Nat} (s : Int) (h : s < 0 ∨ 24 < s) :
    Calls Tryd.prog 22 #[.slice ao n ca, .int .i64 s] w fun e w' => e = .returned (.tuple #[.slice none 0 0, .int .i64 1]) ∧ w' = w := by
  by_cases h0 : s < 0
  · go_enter Tryd.func22, Tryd.ntmps22
    go_wp2
    go_ret2
    exact ⟨rfl, rfl⟩
  · have h1 : 24 < s := by omega
    clear h
    go_enter Tryd.func22, Tryd.ntmps22
    go_wp2
    go_ret2
    exact ⟨rfl, rfl⟩
set_option maxHeartbeats 1000000 in
theorem narrow_ok {w : World} {ao : Option Addr} {n ca : Nat} {f : Nat → Int} (ha : RdA w ao 1 n ca (fun i => .int .i64 (f i))) (s : Int) (s0 : 0 ≤ s) (s1 : s ≤ 24)
    (hf : ∀ i, i < n → -9223372036854775808 ≤ f i ∧ f i ≤ 9223372036854775807) (hn : n ≤ 281474976710656) :
    Calls Tryd.prog 22 #[.slice ao n ca, .int .i64 s] w fun e w' => ∃ b F, e = .returned (.tuple #[.slice (some ⟨b, 0, none⟩) n n, .int .i64 0]) ∧ w.heap.size ≤ b ∧ w'.rowIs b 48 n F ∧ (∀ j, j < n → F j = .int .i8 (nar f s j)) ∧ Below w.heap.size w w' := by
  have hmk := run_make_row' (P := Tryd.prog) 26 48 (.int .i8 0) 1 Tryd.underlying26 infoI8 rfl .i64 .i64 n (by omega) (by omega)
  have HF0 := hidd hf
  clear hf
  go_enter Tryd.func22, Tryd.ntmps22
  go_wp2
  clear hmk
  go_loopw [20] (fun i wr => ∃ (k : Nat) (F : Nat → Value), k ≤ n ∧ i = .int .i64 k ∧ wr.rowIs w.heap.size 48 n F ∧ Hid (∀ j, j < k → F j = .int .i8 (nar f s j)) ∧ Below w.heap.size w wr) (fun i _ => n - (intOf i).toNat)
  case atStart => exact ⟨0, _, by omega, rfl, World.rowIs_made w (.int .i8 0) n 48, fun j hj => absurd hj (by omega), fresh_alloc _ _⟩
  case round =>
    obtain ⟨k, F, hk, rfl, hrow, HF, hf1⟩ := hrel
    by_cases hlt : k < n
    · obtain ⟨b1, o1, rfl, h1⟩ := (ha.fresh hf1).one (by omega)
      have c1 := h1 k hlt
      have fa := hrow.frozen
      have cak := hrow.cell (i := k) hlt
      have bk := HF0.out k hlt
      have bs := Fix.sh_bd (f k) s bk.1 bk.2
      clear h1
      go_wp2_with fail
      refine (shift_any (f k) s _ bk.1 bk.2 (by omega) (by omega)).mono ?_
      rintro e w2 ⟨rfl, hw2⟩
      rw [hw2]
      clear hw2
      go_wp2_with fail
      refine (clamp8_any _ _ bs.1 bs.2).mono ?_
      rintro e w2 ⟨rfl, hw2⟩
      rw [hw2]
      clear hw2
      go_wp2
      go_roundw
      case rel => exact ⟨k + 1, _, hlt, by go_num, hrow.set k _, nar_next HF.out, hf1.setCell (Nat.le_refl _) _⟩
      case measure => simp [intOf]; omega
    · obtain rfl : k = n := by omega
      go_wp2
      go_ret2
      exact ⟨_, F, rfl, Nat.le_refl _, hrow, HF.out, hf1⟩
end Go.Proofs.YtmcefgpejocjfaaDoor
