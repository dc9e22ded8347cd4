import Derived.Test.YtemmghneohnigaaDoorVF
import Derived.Test.YtemmghneohnigaaDoorLat
namespace Go.Proofs.YtemmghneohnigaaDoor
open Go.RowKit
/-! The reference's Print: small facts. -/
theorem str_ne {g : List Int} (hB : Byt g) (h : g ≠ []) : (strOfNums g).toList.isEmpty = false ∧ ¬ (strOfNums g).toList = [] := by
  have hge := str_eq hB byt_nil
  rw [show strOfNums [] = (⟨#[]⟩ : ByteArray) from rfl, show (⟨#[]⟩ : ByteArray).toList = [] from by decide +kernel, decide_eq_false h] at hge
  have h2 : ¬ (strOfNums g).toList = [] := by simpa using hge
  exact ⟨by simpa using h2, h2⟩
theorem numW_nm : ∀ {k : Nat}, k < 6 → numW (wNm k) = (cntW k : Int) := by
  have h : ∀ k, k < 6 → numW (wNm k) = (cntW k : Int) := by decide
  intro k hk
  exact h k hk
theorem cnt_le (k : Nat) : cntW k ≤ 6 := by
  unfold cntW
  split
  · omega
  · split <;> omega
/-- a string made a list of bytes -/
theorem conv_rd (w : World) {s : List Int} (hB : Byt s) (hl : s.length ≤ 2097152) : ∃ cap w1, (convert 9 22 (.string (strOfNums s))).run Tryd.prog w = .ok (.slice (some ⟨w.heap.size, 0, none⟩) s.length cap) w1 ∧ RdA w1 (some ⟨w.heap.size, 0, none⟩) 1 s.length cap (byc s) ∧ Below w.heap.size w w1 := by
  have hsc : (strOfNums s).size = s.length := strOfNums_size _
  obtain ⟨cc, w1, hcv, hf1, hz1, hc1, hc2, hcl⟩ := conv_bytes w (strOfNums s) (by rw [hsc]; omega)
  rw [hsc] at hcv hc1 hcl
  rw [str_bys hB] at hcl
  exact ⟨cc, w1, hcv, ⟨hc1, hc2, fun _ => ⟨w.heap.size, 0, rfl, fun j hj => by rw [Nat.zero_add]; exact hcl j (by omega)⟩⟩, hf1⟩
theorem app3 (a b : List Int) : strOfNums a ++ ⟨#[32]⟩ ++ strOfNums b = strOfNums (a ++ 32 :: b) := by
  rw [show (⟨#[32]⟩ : ByteArray) = strOfNums [32] from rfl, str_app, str_app]
  simp
theorem app_size (a b : ByteArray) : (a ++ b).size = a.size + b.size := ByteArray.size_append
theorem stL_take {st : List (List Int)} {j : Nat} (h : j < st.length) : stL (st.take (j + 1)) = stL (st.take j) ++ 32 :: lit (st.getD j []) := by
  rw [List.take_add_one, List.getElem?_eq_getElem h, List.getD_eq_getElem?_getD, List.getElem?_eq_getElem h]
  unfold stL
  rw [List.flatMap_append]
  simp
theorem stL_bound (st : List (List Int)) (hst : ∀ s ∈ st, s.length ≤ 2097152) : ∀ j, j ≤ st.length → (stL (st.take j)).length ≤ j * 8388611
  | 0, _ => by simp [stL]
  | j + 1, h => by
    have ih := stL_bound st hst j (by omega)
    have h9 := hst (st.getD j []) (by rw [List.getD_eq_getElem?_getD, List.getElem?_eq_getElem (by omega)]; exact List.getElem_mem _)
    rw [stL_take (by omega)]
    have := lit_len (st.getD j [])
    have := pies_len (st.getD j [])
    simp only [List.length_append, List.length_cons]
    omega
end Go.Proofs.YtemmghneohnigaaDoor
