import Derived.Test.YtmcefgpejocjfaaDoorPlays
namespace Go.Proofs.YtmcefgpejocjfaaDoor
open Go.RowKit
/-! The law TensorCalls. -/
/-- the ten cells of an operation -/
def OpC (w : World) (b off : Nat) (o : OpD) : Prop := w.cell? ⟨b, off, none⟩ = some (.int .i64 o.kind) ∧ w.cell? ⟨b, off + 1, none⟩ = some (.int .i64 o.R) ∧ w.cell? ⟨b, off + 2, none⟩ = some (.int .i64 o.C) ∧ w.cell? ⟨b, off + 3, none⟩ = some (.slice o.dO o.nD o.cD) ∧ w.cell? ⟨b, off + 4, none⟩ = some (.slice o.aO o.nA o.cA) ∧ w.cell? ⟨b, off + 5, none⟩ = some (.slice o.bO o.nB o.cB) ∧ w.cell? ⟨b, off + 6, none⟩ = some (.slice o.xO o.nX o.cX) ∧ w.cell? ⟨b, off + 7, none⟩ = some (.slice o.vO o.nV o.cV) ∧ w.cell? ⟨b, off + 8, none⟩ = some (.slice o.tO o.nT o.cT) ∧ w.cell? ⟨b, off + 9, none⟩ = some (.int .i64 o.N)
theorem OpC.fresh {w w' : World} {b off : Nat} {o : OpD} (h : OpC w b off o) (f : Below w.heap.size w w') : OpC w' b off o :=
  ⟨fresh_cell f h.1, fresh_cell f h.2.1, fresh_cell f h.2.2.1, fresh_cell f h.2.2.2.1, fresh_cell f h.2.2.2.2.1, fresh_cell f h.2.2.2.2.2.1, fresh_cell f h.2.2.2.2.2.2.1, fresh_cell f h.2.2.2.2.2.2.2.1, fresh_cell f h.2.2.2.2.2.2.2.2.1, fresh_cell f h.2.2.2.2.2.2.2.2.2⟩
set_option maxHeartbeats 400000 in
theorem long_no (n : Nat) (w : World) (h : n ≤ 1048576) : Calls Tryd.prog 5 #[.int .i64 (n : Int)] w fun e w' => e = .returned (.bool false) ∧ w' = w := by
  go_enter Tryd.func5, Tryd.ntmps5
  go_wp2
  go_ret
  exact ⟨ret_bool (by simp; omega), rfl⟩
set_option maxRecDepth 20000 in
set_option maxHeartbeats 2000000 in
theorem calls_law {w : World} {so : Option Addr} {n cap : Nat} {os : Nat → OpD} (hw : Holds w) (hs : n ≤ 1048576) (hc : 0 < n → ∃ b off, so = some ⟨b, off, none⟩ ∧ ∀ k, k < n → OpC w b (off + k * 10) (os k)) (hR : ∀ k, k < n → OpR w (os k)) :
    Calls Tryd.prog 3 #[.slice so n cap] w fun e w' => e = .returned (.bool true) ∧ Below w.heap.size w w' := by
  have HC := hidd hc
  have HR := hidd hR
  have HW := hidd hw
  clear hc hR hw
  go_enter Tryd.func3, Tryd.ntmps3
  go_wp2_with fail
  refine (long_no n _ hs).mono ?_
  rintro e w0 ⟨rfl, hw0⟩
  rw [hw0]
  clear hw0 w0
  go_wp2_with fail
  refine (fixed_any _).mono ?_
  rintro e w1 ⟨rfl, hf1⟩
  go_wp2
  go_loopw [3, 4] (fun ok i wr => ∃ k : Nat, k ≤ n ∧ i = .int .i64 k ∧ ok = .bool true ∧ Below w.heap.size w wr) (fun _ i _ => n - (intOf i).toNat)
  case atStart => exact ⟨0, by omega, rfl, rfl, hf1⟩
  case round =>
    clear hf1
    obtain ⟨k, hk, rfl, rfl, hf⟩ := hrel
    by_cases hlt : k < n
    · obtain ⟨b, off, rfl, h⟩ := HC.out (by omega)
      have hO := (h k hlt).fresh hf
      obtain ⟨x0, x1, x2, x3, x4, x5, x6, x7, x8, x9⟩ := hO
      have hRk := (HR.out k hlt).fresh hf
      have HRk := hidd hRk
      clear h hRk
      go_wp2_with fail
      refine (plays_any (HW.out.fresh hf) HRk.out).mono ?_
      rintro e w2 ⟨rfl, hf2⟩
      have hf3 := fresh_trans hf hf2
      clear hf hf2 x0 x1 x2 x3 x4 x5 x6 x7 x8 x9
      go_wp2
      go_roundw
      case rel => exact ⟨k + 1, by omega, by go_num, rfl, hf3⟩
      case measure => simp [intOf]; omega
    · go_wp2
      go_ret
      exact ⟨rfl, hf⟩
end Go.Proofs.YtmcefgpejocjfaaDoor
