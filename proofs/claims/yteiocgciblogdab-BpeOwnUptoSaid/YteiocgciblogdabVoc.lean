import Derived.Test.YteiocgciblogdabRows
import Derived.Test.YteiocgciblogdabOwn
import Derived.ChangeKeysEq
namespace Go.Proofs.Yteiocgciblogdab
open Go.RowKit
/-! A vocabulary as data: what it stands for. -/
structure VD where
  nb : Nat
  np : Nat
  B : Nat → Int
  P : Nat → Int
  Q : Nat → Int
/-- A token's bytes. -/
def VD.pc (d : VD) (t : Nat) : List Int :=
  if t = 0 then [] else if t ≤ d.nb then [d.B (t - 1)]
  else if _h : (d.P (t - d.nb - 1)).toNat < t ∧ (d.Q (t - d.nb - 1)).toNat < t then d.pc (d.P (t - d.nb - 1)).toNat ++ d.pc (d.Q (t - d.nb - 1)).toNat else []
termination_by t
decreasing_by all_goals omega
theorem VD.pc_zero (d : VD) : d.pc 0 = [] := by rw [VD.pc]; simp
theorem VD.pc_base (d : VD) {i : Nat} (h : i < d.nb) : d.pc (i + 1) = [d.B i] := by
  rw [VD.pc, if_neg (by omega), if_pos (by omega)]; rfl
def VD.okPair (d : VD) (j : Nat) : Prop := 1 ≤ d.P j ∧ 1 ≤ d.Q j ∧ d.P j < ((d.nb + 1 + j : Nat) : Int) ∧ d.Q j < ((d.nb + 1 + j : Nat) : Int)
theorem VD.pc_pair (d : VD) {j : Nat} (h : d.okPair j) : d.pc (d.nb + 1 + j) = d.pc (d.P j).toNat ++ d.pc (d.Q j).toNat := by
  obtain ⟨h1, h2, h3, h4⟩ := h
  have e : d.nb + 1 + j - d.nb - 1 = j := by omega
  rw [VD.pc, if_neg (by omega), if_neg (by omega), e, dif_pos ⟨by omega, by omega⟩]
def VD.cnt (d : VD) : Prop := 1 ≤ d.nb ∧ d.nb ≤ 48 ∧ d.np + d.nb ≤ 63
def VD.newB (d : VD) (k : Nat) : Prop := ∀ i, i < k → d.B i ≠ d.B k
def VD.newP (d : VD) (k : Nat) : Prop := ∀ i, i < k → ¬ (d.P i = d.P k ∧ d.Q i = d.Q k)
def VD.okLen (d : VD) (j : Nat) : Prop := (d.pc (d.nb + 1 + j)).length ≤ 16
structure VD.Right (d : VD) : Prop where
  cnt : d.cnt
  base : ∀ i, i < d.nb → d.newB i
  pair : ∀ j, j < d.np → d.newP j
  ok : ∀ j, j < d.np → d.okPair j
  len : ∀ j, j < d.np → d.okLen j
/-- The cells of a list of pairs. -/
def tcs (C S : Nat → Int) : Nat → Value := fun j => if j % 2 = 0 then .int .i64 (C (j / 2)) else .int .i64 (S (j / 2))
theorem tcs0 (C S : Nat → Int) (i : Nat) : tcs C S (i * 2) = .int .i64 (C i) := by
  unfold tcs; rw [if_pos (by omega), show i * 2 / 2 = i by omega]
theorem tcs1 (C S : Nat → Int) (i : Nat) : tcs C S (i * 2 + 1) = .int .i64 (S i) := by
  unfold tcs; rw [if_neg (by omega), show (i * 2 + 1) / 2 = i by omega]
theorem RdA.two {w : World} {ao : Option Addr} {n cap : Nat} {C S : Nat → Int} (h : RdA w ao 2 n cap (tcs C S)) (hn : 0 < n) : ∃ b off, ao = some ⟨b, off, none⟩ ∧ ∀ i, i < n → w.cell? ⟨b, off + i * 2, none⟩ = some (.int .i64 (C i)) ∧ w.cell? ⟨b, off + i * 2 + 1, none⟩ = some (.int .i64 (S i)) := by
  obtain ⟨b, off, rfl, hc⟩ := h.at_ hn
  refine ⟨b, off, rfl, fun i hi => ⟨?_, ?_⟩⟩
  · rw [hc (i * 2) (by omega), tcs0]
  · rw [show off + i * 2 + 1 = off + (i * 2 + 1) by omega, hc (i * 2 + 1) (by omega), tcs1]
theorem infoI : (Try.prog.info? 3).map (fun i => (i.zero, i.size, i.bytes)) = some (some (.int .i64 0), 1, 8) := by kernel_rfl
theorem infoB : (Try.prog.info? 5).map (fun i => (i.zero, i.size, i.bytes)) = some (some (.int .u8 0), 1, 1) := by kernel_rfl
theorem infoP : (Try.prog.info? 48).map (fun i => (i.zero, i.size, i.bytes)) = some (some (.agg #[.int .i64 0, .int .i64 0]), 2, 16) := by kernel_rfl
theorem infoSB : (Try.prog.info? 22).map (fun i => (i.zero, i.size, i.bytes)) = some (some (.slice none 0 0), 1, 24) := by kernel_rfl
theorem info_int : ∃ i, Try.prog.info? 3 = some i := by
  cases h : Try.prog.info? 3 with
  | some i => exact ⟨i, rfl⟩
  | none => have := infoI; rw [h] at this; cases this
/-- '==' on two pairs. -/
theorem eqP_run (a b c d : Int) (w : World) : (binOp .eql 48 (.agg #[.int .i64 a, .int .i64 b]) (.agg #[.int .i64 c, .int .i64 d])).run Try.prog w = .ok (.bool (a == c && b == d)) w := by
  obtain ⟨i, hi⟩ := info_int
  have hc : Try.prog.cellsOf 3 = 1 := by kernel_rfl
  rw [run_eql_struct, run_equalIn_array w 9999 _ _ Try.underlying48 hi, hc]
  have r2 : List.range 2 = [0, 1] := rfl
  have p1 : ∀ (x y : Int) (w : World), (part 3 #[.int .i64 x, .int .i64 y] (0 * 1)).run Try.prog w = .ok (.int .i64 x) w := fun x y w => by simp [part, go_sem]
  have p2 : ∀ (x y : Int) (w : World), (part 3 #[.int .i64 x, .int .i64 y] (1 * 1)).run Try.prog w = .ok (.int .i64 y) w := fun x y w => by simp [part, go_sem]
  have q := fun (x y : Int) (w : World) => run_equalIn_int (P := Try.prog) w 9998 3 .i64 .i64 x y Try.underlying3
  rw [r2]
  unfold Op.eqItems
  rw [Sem.run_bind, p1, Result.andThen_ok, Sem.run_bind, p1, Result.andThen_ok, Sem.run_bind, q, Result.andThen_ok]
  by_cases h1 : a = c
  · rw [if_neg (by simp [h1])]
    unfold Op.eqItems
    rw [Sem.run_bind, p2, Result.andThen_ok, Sem.run_bind, p2, Result.andThen_ok, Sem.run_bind, q, Result.andThen_ok]
    by_cases h2 : b = d
    · rw [if_neg (by simp [h2])]
      unfold Op.eqItems
      simp [h1, h2]
    · rw [if_pos (by simp [h2])]
      simp [h2]
  · rw [if_pos (by simp [h1])]
    simp [h1]
theorem neP_run (a b c d : Int) (w : World) : (binOp .neq 48 (.agg #[.int .i64 a, .int .i64 b]) (.agg #[.int .i64 c, .int .i64 d])).run Try.prog w = .ok (.bool (!(a == c && b == d))) w := by
  have h := eqP_run a b c d w
  rw [run_eql_struct] at h
  rw [run_neq_struct]
  cases hr : (Op.equalIn 10000 48 (.agg #[.int .i64 a, .int .i64 b]) (.agg #[.int .i64 c, .int .i64 d])).run Try.prog w with
  | ok r w1 => rw [hr] at h; simp only [Result.andThen_ok] at h ⊢; injection h with h1 h2; injection h1 with h1; subst h1; subst h2; rfl
  | halt x w1 => rw [hr] at h; cases h
theorem eqP_false {a b c d : Int} (h : ¬ (a = c ∧ b = d)) (w : World) : (binOp .eql 48 (.agg #[.int .i64 a, .int .i64 b]) (.agg #[.int .i64 c, .int .i64 d])).run Try.prog w = .ok (.bool false) w := by
  rw [eqP_run]
  have : (a == c && b == d) = false := by
    cases hb : (a == c && b == d) with
    | false => rfl
    | true => simp at hb; exact absurd hb h
  rw [this]
theorem eqP_true (a b : Int) (w : World) : (binOp .eql 48 (.agg #[.int .i64 a, .int .i64 b]) (.agg #[.int .i64 a, .int .i64 b])).run Try.prog w = .ok (.bool true) w := by
  rw [eqP_run]; simp
theorem neP_true (a b : Int) (w : World) : (binOp .neq 48 (.agg #[.int .i64 a, .int .i64 b]) (.agg #[.int .i64 a, .int .i64 b])).run Try.prog w = .ok (.bool false) w := by
  rw [neP_run]; simp
end Go.Proofs.Yteiocgciblogdab
