import Derived.Test.YtemmghneohnigaaDoorWpM
namespace Go.Proofs.YtemmghneohnigaaDoor
open Go.RowKit
/-! WireHeads. -/
set_option maxRecDepth 20000 in
set_option maxHeartbeats 1600000 in
theorem ascii_any {t : List Int} (ht : ∀ x ∈ t, 32 ≤ x ∧ x ≤ 126) (hl : t.length ≤ 140737488351232) (w : World) : Calls Tryd.prog 12 #[.string (strOfNums t)] w fun e w' => e = .returned (.bool true) ∧ Below w.heap.size w w' := by
  have hB : Byt t := fun x hx => by have := ht x hx; omega
  obtain ⟨s, es⟩ : ∃ s, s = strOfNums t := ⟨_, rfl⟩
  have hsz : s.size = t.length := by rw [es]; exact strOfNums_size t
  obtain ⟨n, en⟩ : ∃ n, n = t.length := ⟨_, rfl⟩
  have HAT : Hid (∀ k, k < n → ∃ X : Nat, (∀ h, (s[k]'h).toNat = X) ∧ 32 ≤ X ∧ X ≤ 126) := fun k hk => by
    rw [en] at hk
    have h2 := ht (t.getD k 0) (by rw [List.getD_eq_getElem?_getD, List.getElem?_eq_getElem hk]; exact List.getElem_mem _)
    exact ⟨(t.getD k 0).toNat, fun h => by subst es; exact str_at hB hk h, by omega, by omega⟩
  rw [← es]
  rw [← en] at hl hsz
  clear es en hB ht
  go_enter Tryd.func12, Tryd.ntmps12
  go_wp2
  go_loopw [3] (fun i wr => ∃ k : Nat, k ≤ n ∧ i = .int .i64 k ∧ Below w.heap.size w wr) (fun i _ => n - (intOf i).toNat)
  case atStart => exact ⟨0, by omega, rfl, Below.refl _ _⟩
  case round =>
    obtain ⟨k, hk, rfl, hf⟩ := hrel
    have j0 : (0 : Int) ≤ (k : Int) := Int.natCast_nonneg _
    by_cases hlt : k < n
    · obtain ⟨X, hx, h1, h2⟩ := HAT.out k hlt
      have b1 : decide ((k : Int) < (n : Int)) = true := by simp; omega
      have b2 : decide ((X : Int) < 32) = false := by simp; omega
      have b3 : decide ((126 : Int) < (X : Int)) = false := by simp; omega
      have b4 : ¬ X < 32 := by omega
      have b5 : ¬ 126 < X := by omega
      go_wp2
      go_roundw
      case rel => exact ⟨k + 1, by omega, by go_num, hf⟩
      case measure => simp [intOf]; omega
    · obtain rfl : k = n := by omega
      go_wp2
      go_ret
      exact ⟨rfl, hf⟩
/-- cut short, it is none -/
theorem cut_none {b : List Int} (hb : Byt b) {K : Nat} (hK : K < (lit b).length) : ¬ ∃ b', UnqP ((lit b).take K) b' := by
  rintro ⟨b', h1, h2⟩
  have h3 : UnqP (lit b) b' := ⟨h1, h2.trans (List.take_prefix _ _)⟩
  have h4 : UnqP (lit b) b := ⟨hb, List.prefix_refl _⟩
  obtain rfl := h3.uniq h4
  have := h2.length_le
  rw [List.length_take] at this
  omega
end Go.Proofs.YtemmghneohnigaaDoor
