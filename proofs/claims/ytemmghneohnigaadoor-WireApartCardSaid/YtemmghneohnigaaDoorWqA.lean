import Derived.Test.YtemmghneohnigaaDoorChecked
import Derived.Test.YtemmghneohnigaaDoorOwn
import Derived.Laws.BytesArg
namespace Go.Proofs.YtemmghneohnigaaDoor
open Go.RowKit
/-! Literals as data. -/
theorem infoB : (Tryd.prog.info? 5).map (fun i => (i.zero, i.size, i.bytes)) = some (some (.int .u8 0), 1, 1) := by kernel_rfl
def Byt (l : List Int) : Prop := ∀ x ∈ l, 0 ≤ x ∧ x ≤ 255
/-- a hexadecimal digit -/
def hxD (n : Int) : Int := if n < 10 then 48 + n else 87 + n
/-- a byte's piece -/
def pie (c : Int) : List Int := if c = 34 ∨ c = 92 then [92, c] else if 32 ≤ c ∧ c ≤ 126 then [c] else [92, 120, hxD (c / 16), hxD (c % 16)]
def pies : List Int → List Int
  | [] => []
  | c :: r => pie c ++ pies r
def lit (l : List Int) : List Int := 34 :: (pies l ++ [34])
theorem pie_quo {c : Int} (h : c = 34 ∨ c = 92) : pie c = [92, c] := by unfold pie; rw [if_pos h]
theorem pie_own {c : Int} (h : ¬ (c = 34 ∨ c = 92)) (k : 32 ≤ c ∧ c ≤ 126) : pie c = [c] := by unfold pie; rw [if_neg h, if_pos k]
theorem pie_hex {c : Int} (h : ¬ (c = 34 ∨ c = 92)) (k : ¬ (32 ≤ c ∧ c ≤ 126)) : pie c = [92, 120, hxD (c / 16), hxD (c % 16)] := by unfold pie; rw [if_neg h, if_neg k]
theorem pie_len (c : Int) : 1 ≤ (pie c).length ∧ (pie c).length ≤ 4 := by
  unfold pie
  split
  · simp
  · split <;> simp
theorem pies_app : ∀ (a b : List Int), pies (a ++ b) = pies a ++ pies b
  | [], b => rfl
  | c :: r, b => by simp only [List.cons_append, pies, pies_app r b, List.append_assoc]
theorem pies_one (c : Int) : pies [c] = pie c := by simp [pies]
theorem pies_len : ∀ (l : List Int), l.length ≤ (pies l).length ∧ (pies l).length ≤ 4 * l.length
  | [] => by simp [pies]
  | c :: r => by
    have h1 := pie_len c
    have h2 := pies_len r
    simp only [pies, List.length_append, List.length_cons]
    omega
theorem lit_len (l : List Int) : (lit l).length = (pies l).length + 2 := by simp [lit]
theorem take_one {l : List Int} {i : Nat} (h : i < l.length) : l.take (i + 1) = l.take i ++ [l.getD i 0] := by
  rw [List.take_add_one, List.getElem?_eq_getElem h]
  simp [List.getD_eq_getElem?_getD, h]
theorem pies_succ {l : List Int} {i : Nat} (h : i < l.length) : pies (l.take (i + 1)) = pies (l.take i) ++ pie (l.getD i 0) := by rw [take_one h, pies_app, pies_one]
theorem pies_cut (l : List Int) (i : Nat) : pies l = pies (l.take i) ++ pies (l.drop i) := by rw [← pies_app, List.take_append_drop]
theorem drop_one {l : List Int} {i : Nat} (h : i < l.length) : l.drop i = l.getD i 0 :: l.drop (i + 1) := by
  rw [List.drop_eq_getElem_cons h]
  simp [List.getD_eq_getElem?_getD, h]
theorem getD_mid (a b c : List Int) (j : Nat) (h : j < b.length) : (a ++ (b ++ c)).getD (a.length + j) 0 = b.getD j 0 := by
  simp [List.getD_eq_getElem?_getD, List.getElem?_append_right, List.getElem?_append_left, h]
theorem lit_get {l : List Int} {i j : Nat} (h : i < l.length) (hj : j < (pie (l.getD i 0)).length) : (lit l).getD (1 + (pies (l.take i)).length + j) 0 = (pie (l.getD i 0)).getD j 0 := by
  have e : lit l = (34 :: pies (l.take i)) ++ (pie (l.getD i 0) ++ (pies (l.drop (i + 1)) ++ [34])) := by
    unfold lit
    rw [pies_cut l i, drop_one h]
    simp [pies]
  rw [e, show 1 + (pies (l.take i)).length + j = (34 :: pies (l.take i)).length + j by simp; omega]
  exact getD_mid _ _ _ j hj
theorem lit_last (l : List Int) : (lit l).getD (1 + (pies l).length) 0 = 34 := by
  rw [Nat.add_comm]
  simp [lit, List.getD_eq_getElem?_getD]
theorem hxD_u8 {n : Int} (h0 : 0 ≤ n) (h1 : n < 16) : 48 ≤ hxD n ∧ hxD n ≤ 102 := by
  unfold hxD; split <;> omega
theorem getD_one {a : Int} {j : Nat} (h : j < [a].length) : [a].getD j 0 = a := by
  obtain rfl : j = 0 := by simp at h; omega
  rfl
end Go.Proofs.YtemmghneohnigaaDoor
