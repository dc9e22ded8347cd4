import Derived.Test.YtbpldnlafilbbabNgSy
namespace Go.Proofs.Ytbpldnlafilbbab
open Go.RowKit
/-! A script. -/
theorem lgn_no {n : Nat} (w : World) (h : n ≤ 2147483647) : Calls Try.prog 15 #[.int .i64 n] w fun e w' => e = .returned (.bool false) ∧ w' = w := by
  have hd : decide ((2147483647 : Int) < (n : Int)) = false := by simp; omega
  go_enter Try.func15, Try.ntmps15
  go_wp2
  go_ret
  exact ⟨rfl, rfl⟩
theorem lgn_yes {n : Nat} (w : World) (h : 2147483647 < n) (_h2 : n ≤ 9223372036854775807) : Calls Try.prog 15 #[.int .i64 n] w fun e w' => e = .returned (.bool true) ∧ w' = w := by
  have hd : decide ((2147483647 : Int) < (n : Int)) = true := by simp; omega
  go_enter Try.func15, Try.ntmps15
  go_wp2
  go_ret
  exact ⟨rfl, rfl⟩
structure Sc where
  WH : Nat → Int
  KD : Nat → Int
  TO : Nat → Option Addr
  TL : Nat → Nat
  TC : Nat → Nat
  T : Nat → Nat → Int
  NN : Nat → Int
  DP : Nat → Int
def opc (s : Sc) : Nat → Value := fun j => if j % 5 = 0 then .int .i64 (s.WH (j / 5)) else if j % 5 = 1 then .int .i64 (s.KD (j / 5)) else if j % 5 = 2 then .slice (s.TO (j / 5)) (s.TL (j / 5)) (s.TC (j / 5)) else if j % 5 = 3 then .int .i64 (s.NN (j / 5)) else .int .i64 (s.DP (j / 5))
structure ScAt (w : World) (so : Option Addr) (n cap : Nat) (s : Sc) : Prop where
  rd : RdA w so 5 n cap (opc s)
  tk : ∀ i, i < n → RdA w (s.TO i) 1 (s.TL i) (s.TC i) (fun j => .int .i64 (s.T i j))
  tf : ∀ i, i < n → ∀ j, j < s.TL i → fits (s.T i j)
  nf : ∀ i, i < n → fits (s.WH i) ∧ fits (s.NN i) ∧ fits (s.DP i)
  sz : n ≤ 17592186043904 ∧ ∀ i, i < n → s.TL i ≤ 17592186043904
theorem ScAt.cells {w w' : World} {so : Option Addr} {n cap : Nat} {s : Sc} (h : ScAt w so n cap s) (f : Below w.heap.size w w') (hn : 0 < n) : ∃ b off, so = some ⟨b, off, none⟩ ∧ ∀ i, i < n → w'.cell? ⟨b, off + i * 5, none⟩ = some (.int .i64 (s.WH i)) ∧ w'.cell? ⟨b, off + i * 5 + 1, none⟩ = some (.int .i64 (s.KD i)) ∧ w'.cell? ⟨b, off + i * 5 + 2, none⟩ = some (.slice (s.TO i) (s.TL i) (s.TC i)) ∧ w'.cell? ⟨b, off + i * 5 + 3, none⟩ = some (.int .i64 (s.NN i)) ∧ w'.cell? ⟨b, off + i * 5 + 4, none⟩ = some (.int .i64 (s.DP i)) := by
  obtain ⟨b, off, rfl, hc⟩ := (h.rd.fresh f).at_ hn
  refine ⟨b, off, rfl, fun i hi => ⟨?_, ?_, ?_, ?_, ?_⟩⟩
  · rw [hc (i * 5) (by omega)]
    unfold opc
    rw [if_pos (by omega), show i * 5 / 5 = i by omega]
  · rw [Nat.add_assoc, hc (i * 5 + 1) (by omega)]
    unfold opc
    rw [if_neg (by omega), if_pos (by omega), show (i * 5 + 1) / 5 = i by omega]
  · rw [Nat.add_assoc, hc (i * 5 + 2) (by omega)]
    unfold opc
    rw [if_neg (by omega), if_neg (by omega), if_pos (by omega), show (i * 5 + 2) / 5 = i by omega]
  · rw [Nat.add_assoc, hc (i * 5 + 3) (by omega)]
    unfold opc
    rw [if_neg (by omega), if_neg (by omega), if_neg (by omega), if_pos (by omega), show (i * 5 + 3) / 5 = i by omega]
  · rw [Nat.add_assoc, hc (i * 5 + 4) (by omega)]
    unfold opc
    rw [if_neg (by omega), if_neg (by omega), if_neg (by omega), if_neg (by omega), show (i * 5 + 4) / 5 = i by omega]
/-- how many tokens the first i steps have -/
def tot (s : Sc) : Nat → Nat
  | 0 => 0
  | i + 1 => tot s i + s.TL i
theorem tot_mono (s : Sc) {i j : Nat} (h : i ≤ j) : tot s i ≤ tot s j := by
  induction j with
  | zero => rw [show i = 0 by omega]; exact Nat.le_refl _
  | succ j ih =>
    by_cases e : i = j + 1
    · rw [e]; exact Nat.le_refl _
    · exact Nat.le_trans (ih (by omega)) (Nat.le_add_right _ _)
/-- what a round keeps -/
structure Sk (w wr : World) (s : Sc) (ba bb i : Nat) : Prop where
  ex : ∃ lab px py z, Sr w wr lab ba bb px py z z ∧ (∀ k, k < 2 → lenZ (z k) ≤ tot s i) ∧ ∀ k, k < 2 → (px k = none ↔ py k = none)
theorem Sk.fresh {w wr w' : World} {s : Sc} {ba bb i : Nat} (h : Sk w wr s ba bb i) (f : Below wr.heap.size wr w') : Sk w w' s ba bb i := by
  obtain ⟨lab, px, py, z, h1, h2, h3⟩ := h.ex
  exact ⟨lab, px, py, z, h1.fresh f, h2, h3⟩
theorem Sk.low {w wr : World} {s : Sc} {ba bb i : Nat} (h : Sk w wr s ba bb i) : Below w.heap.size w wr := by
  obtain ⟨lab, px, py, z, h1, h2, h3⟩ := h.ex
  exact h1.low
end Go.Proofs.Ytbpldnlafilbbab
