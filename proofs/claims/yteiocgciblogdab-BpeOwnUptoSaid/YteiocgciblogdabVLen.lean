import Derived.Test.YteiocgciblogdabVoc
namespace Go.Proofs.Yteiocgciblogdab
open Go.RowKit
/-! How long a token's bytes are. -/
theorem VD.len_pos (d : VD) (hc : ∀ j, j < d.np → d.okPair j) : ∀ t, 1 ≤ t → t < d.nb + 1 + d.np → 1 ≤ (d.pc t).length := by
  intro t
  induction t using Nat.strongRecOn with
  | _ t ih =>
    intro h1 h2
    by_cases hb : t ≤ d.nb
    · obtain ⟨i, rfl⟩ : ∃ i, t = i + 1 := ⟨t - 1, by omega⟩
      rw [d.pc_base (by omega)]; simp
    · obtain ⟨j, rfl⟩ : ∃ j, t = d.nb + 1 + j := ⟨t - d.nb - 1, by omega⟩
      have ok := hc j (by omega)
      obtain ⟨a1, a2, a3, a4⟩ := ok
      rw [d.pc_pair ⟨a1, a2, a3, a4⟩, List.length_append]
      have := ih (d.P j).toNat (by omega) (by omega) (by omega)
      omega
theorem VD.len_le (d : VD) {m : Nat} (hl : ∀ j, j < m → d.okLen j) (t : Nat) (ht : t < d.nb + 1 + m) : (d.pc t).length ≤ 16 := by
  by_cases h0 : t = 0
  · subst h0; rw [d.pc_zero]; simp
  · by_cases hb : t ≤ d.nb
    · obtain ⟨i, rfl⟩ : ∃ i, t = i + 1 := ⟨t - 1, by omega⟩
      rw [d.pc_base (by omega)]; simp
    · obtain ⟨j, rfl⟩ : ∃ j, t = d.nb + 1 + j := ⟨t - d.nb - 1, by omega⟩
      exact hl j (by omega)
end Go.Proofs.Yteiocgciblogdab
