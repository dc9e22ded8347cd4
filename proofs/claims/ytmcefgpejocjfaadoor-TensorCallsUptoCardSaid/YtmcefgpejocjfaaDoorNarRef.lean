import Derived.Test.YtmcefgpejocjfaaDoorNar
import Derived.Test.YtmcefgpejocjfaaDoorRefs1
namespace Go.Proofs.YtmcefgpejocjfaaDoor
open Go.RowKit
/-! The reference's Narrow and Dot. -/
set_option maxHeartbeats 400000 in
theorem narrow_rbad {w : World} {ao : Option Addr} {n ca : Nat} (s : Int) (h : s < 0 ∨ 24 < s) :
    Calls Tryd.prog 47 #[.slice ao n ca, .int .i64 s] w fun e w' => e = .returned (.tuple #[.slice none 0 0, .int .i64 1]) ∧ w' = w := by
  by_cases h0 : s < 0
  · go_enter Tryd.func47, Tryd.ntmps47
    go_wp2
    go_ret2
    exact ⟨rfl, rfl⟩
  · have h1 : 24 < s := by omega
    clear h
    go_enter Tryd.func47, Tryd.ntmps47
    go_wp2
    go_ret2
    exact ⟨rfl, rfl⟩
set_option maxHeartbeats 1000000 in
theorem narrow_rok {w : World} {ao : Option Addr} {n ca : Nat} {f : Nat → Int} (ha : RdA w ao 1 n ca (fun i => .int .i64 (f i))) (s : Int) (s0 : 0 ≤ s) (s1 : s ≤ 24)
    (hf : ∀ i, i < n → -9223372036854775808 ≤ f i ∧ f i ≤ 9223372036854775807) (hn : n ≤ 140737488351232) :
    Calls Tryd.prog 47 #[.slice ao n ca, .int .i64 s] w fun e w' => ∃ v, e = .returned (.tuple #[v, .int .i64 0]) ∧ Own w' w.heap.size 48 1 v n (fun j => .int .i8 (nar f s j)) ∧ Below w.heap.size w w' := by
  have HF0 := hidd hf
  clear hf
  go_enter Tryd.func47, Tryd.ntmps47
  go_wp2
  go_loopw [6, 7] (fun v i wr => ∃ k : Nat, k ≤ n ∧ i = .int .i64 k ∧ Own wr w.heap.size 48 1 v k (fun j => .int .i8 (nar f s j)) ∧ Below w.heap.size w wr) (fun _ i _ => n - (intOf i).toNat)
  case atStart => exact ⟨0, by omega, rfl, own_nil _ _ _ _ _, Below.refl _ _⟩
  case round =>
    obtain ⟨k, hk, rfl, hown, hf1⟩ := hrel
    have hsz := hf1.size
    by_cases hlt : k < n
    · obtain ⟨b1, o1, rfl, h1⟩ := (ha.fresh hf1).one (by omega)
      have c1 := h1 k hlt
      have bk := HF0.out k hlt
      have bs := Fix.sh_bd (f k) s bk.1 bk.2
      clear h1
      go_wp2_with fail
      refine (shift_ref (f k) s _ bk.1 bk.2 (by omega) (by omega)).mono ?_
      rintro e w2 ⟨rfl, hw2⟩
      rw [hw2]
      clear hw2
      go_wp2_with fail
      refine (clamp8_ref _ _ bs.1 bs.2).mono ?_
      rintro e w2 ⟨rfl, hw2⟩
      rw [hw2]
      clear hw2
      go_wp2_with (at_builtin; refine wpList_app1 _ rfl _ _ 26 rfl _ 48 (.int .i8 0) 1 Tryd.underlying26 infoI8 rfl _ k _ rfl (hown.kept (fresh_alloc _ _)) _ 1 rfl (new_cell _ _ _) rfl (by omega) (by omega) (by simp; omega) ?_)
      intro v' w6 hown' happ
      have hf6 := happ.below (hf1.alloc hsz _) (hown.kept (fresh_alloc _ _)) (Nat.le_refl _) (by simp; omega)
      clear happ hown hf1 c1
      go_wp2
      go_roundw
      case rel => exact ⟨k + 1, by omega, by go_num, hown', hf6⟩
      case measure => simp [intOf]; omega
    · obtain rfl : k = n := by omega
      go_wp2
      go_ret2
      exact ⟨_, rfl, hown, hf1⟩
end Go.Proofs.YtmcefgpejocjfaaDoor
