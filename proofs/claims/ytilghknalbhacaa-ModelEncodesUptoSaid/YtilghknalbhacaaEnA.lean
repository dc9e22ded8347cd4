import Derived.Test.YtilghknalbhacaaBase
import Derived.Test.YtilghknalbhacaaSmall
import Derived.Test.YtilghknalbhacaaTens
namespace Go.Proofs.Ytilghknalbhacaa
open Go.RowKit
/-! Bytes: numbers, narrow lists, digests. -/
theorem infoU8 : (Try.prog.info? 5).map (fun i => (i.zero, i.size, i.bytes)) = some (some (.int .u8 0), 1, 1) := by kernel_rfl
def bV (L : List Int) : Nat → Value := fun i => .int .u8 (L.getD i 0)
/-- a list of bytes of the call's own -/
def OwB (w : World) (base : Nat) (v : Value) (L : List Int) : Prop := Own w base 5 1 v L.length (bV L)
/-- a list of bytes that is read -/
def RdB (w : World) (v : Value) (L : List Int) : Prop := Rd w v 1 L.length (bV L)
theorem bV_pre (L M : List Int) {i : Nat} (h : i < L.length) : bV L i = bV (L ++ M) i := by
  unfold bV
  rw [List.getD_eq_getElem?_getD, List.getD_eq_getElem?_getD, List.getElem?_append_left h]
theorem bV_suf (L M : List Int) (j : Nat) : bV (L ++ M) (L.length + j) = bV M j := by
  unfold bV
  rw [List.getD_eq_getElem?_getD, List.getD_eq_getElem?_getD, List.getElem?_append_right (by omega), Nat.add_sub_cancel_left]
theorem bV_one (L : List Int) (i : Nat) : (bV L i).oneCell' = true := rfl
/-- the lowest k bytes of a number -/
def num (n k : Nat) : List Int := (List.range k).map (fun i => ((n / 256 ^ i % 256 : Nat) : Int))
theorem num_len (n k : Nat) : (num n k).length = k := by simp [num]
theorem num_at {n k i : Nat} (h : i < k) : bV (num n k) i = .int .u8 ((n / 256 ^ i % 256 : Nat) : Int) := by
  unfold bV num
  rw [List.getD_eq_getElem?_getD, List.getElem?_map, List.getElem?_range h]
  rfl
theorem num_next (n i : Nat) : n / 256 ^ i / 256 = n / 256 ^ (i + 1) := by rw [Nat.div_div_eq_div_mul, Nat.pow_succ]
/-- narrow numbers as bytes -/
def nbL (f : Nat → Int) (n : Nat) : List Int := (List.range n).map (fun i => f i % 256)
theorem nbL_len (f : Nat → Int) (n : Nat) : (nbL f n).length = n := by simp [nbL]
theorem nbL_at {f : Nat → Int} {n i : Nat} (h : i < n) : bV (nbL f n) i = .int .u8 (f i % 256) := by
  unfold bV nbL
  rw [List.getD_eq_getElem?_getD, List.getElem?_map, List.getElem?_range h]
  rfl
/-- the digest of the first i bytes -/
def dgF (L : List Int) : Nat → Nat
  | 0 => 14695981039346656037
  | i + 1 => ((dgF L i) ^^^ (L.getD i 0).toNat) * 1099511628211 % 18446744073709551616
/-- bytes -/
def Byt (L : List Int) : Prop := ∀ x ∈ L, 0 ≤ x ∧ x < 256
theorem Byt.app {L M : List Int} (h : Byt L) (k : Byt M) : Byt (L ++ M) := fun x hx => by
  rcases List.mem_append.1 hx with e | e
  · exact h x e
  · exact k x e
theorem Byt.at_ {L : List Int} (h : Byt L) (i : Nat) : 0 ≤ L.getD i 0 ∧ L.getD i 0 < 256 := by
  rw [List.getD_eq_getElem?_getD]
  by_cases hi : i < L.length
  · rw [List.getElem?_eq_getElem hi]
    exact h _ (List.getElem_mem _)
  · rw [List.getElem?_eq_none (by omega)]
    exact ⟨by decide, by decide⟩
theorem num_byt (n k : Nat) : Byt (num n k) := fun x hx => by
  obtain ⟨i, _, rfl⟩ := List.mem_map.1 hx
  omega
theorem nbL_byt (f : Nat → Int) (n : Nat) : Byt (nbL f n) := fun x hx => by
  obtain ⟨i, _, rfl⟩ := List.mem_map.1 hx
  omega
theorem dgF_lt (L : List Int) (i : Nat) : dgF L i < 18446744073709551616 := by
  cases i with
  | zero => show 14695981039346656037 < 18446744073709551616; decide
  | succ i => exact Nat.mod_lt _ (by decide)
theorem dgF_pre (L M : List Int) : ∀ i, i ≤ L.length → dgF (L ++ M) i = dgF L i
  | 0, _ => rfl
  | i + 1, h => by
    unfold dgF
    rw [dgF_pre L M i (by omega), List.getD_eq_getElem?_getD, List.getD_eq_getElem?_getD, List.getElem?_append_left (by omega)]
end Go.Proofs.Ytilghknalbhacaa
