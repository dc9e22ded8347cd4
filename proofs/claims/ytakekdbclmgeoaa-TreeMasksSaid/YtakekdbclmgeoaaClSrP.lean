import Derived.Test.YtakekdbclmgeoaaClSrO
namespace Go.Proofs.Ytakekdbclmgeoaa.Cl
open Go.RowKit
/-! What Clean answers is a tree. -/
theorem fndK_none {P T : Nat → Int} : ∀ {n : Nat} {a b : Int}, fndK P T n a b = none → ∀ i, 0 < i → i < n → ¬ (P i = a ∧ T i = b)
  | 0, _, _, _, i, _, h2 => by omega
  | n + 1, a, b, h, i, h1, h2 => by
    unfold fndK at h
    split at h
    · next h0 => omega
    · split at h
      · cases h
      · next hne =>
        by_cases e : i = n
        · subst e; exact fun q => hne ⟨q.1.symm, q.2.symm⟩
        · exact fndK_none h i h1 (by omega)
/-- no two nodes with one parent and one token -/
def GaU (s : Ga) : Prop := ∀ i j, 0 < i → i < j → j < s.n → ¬ (s.P i = s.P j ∧ s.T i = s.T j)
theorem GaU.next {s : Ga} {k : Nat} (h : GaU s) (p t vocab : Int) : GaU (gaN s k p t vocab) := by
  unfold gaN
  split
  · exact h
  · split
    · exact h
    · next hf =>
      intro i j h1 h2 h3
      have h3 : j < s.n + 1 := h3
      show ¬ (ext s.P s.n _ i = ext s.P s.n _ j ∧ ext s.T s.n t i = ext s.T s.n t j)
      rw [ext_lt (show i < s.n by omega), ext_lt (show i < s.n by omega)]
      by_cases e : j = s.n
      · subst e
        rw [ext_at, ext_at]
        exact fndK_none hf i h1 (by omega)
      · rw [ext_ne e, ext_ne e]
        exact h i j h1 h2 (by omega)
theorem gaS_un (root vocab : Int) (Pr Tr : Nat → Int) : ∀ k, GaU (gaS root vocab Pr Tr k)
  | 0 => fun i j h1 h2 h3 => absurd h3 (by show ¬ j < 1; omega)
  | k + 1 => (gaS_un root vocab Pr Tr k).next _ _ _
end Go.Proofs.Ytakekdbclmgeoaa.Cl
