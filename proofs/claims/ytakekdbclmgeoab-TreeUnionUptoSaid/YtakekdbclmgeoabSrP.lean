import Derived.Test.YtakekdbclmgeoabSrO
namespace Go.Proofs.Ytakekdbclmgeoab
open Go.RowKit
/-! What Clean answers is a tree. -/
theorem fndK_none {P T : Nat → Int} : ∀ {n : Nat} {a b : Int}, fndK P T n a b = none → ∀ i, 0 < i → i < n → ¬ (P i = a ∧ T i = b)
  | 0, _, _, _, i, _, h2 => by omega
  | n + 1, a, b, h, i, h1, h2 => by
    unfold fndK at h
    split at h
    · next h0 => omega
    · split at h
      · cases h
      · next hne =>
        by_cases e : i = n
        · subst e; exact fun q => hne ⟨q.1.symm, q.2.symm⟩
        · exact fndK_none h i h1 (by omega)
/-- no two nodes with one parent and one token -/
def GaU (s : Ga) : Prop := ∀ i j, 0 < i → i < j → j < s.n → ¬ (s.P i = s.P j ∧ s.T i = s.T j)
theorem GaU.next {s : Ga} {k : Nat} (h : GaU s) (p t vocab : Int) : GaU (gaN s k p t vocab) := by
  unfold gaN
  split
  · exact h
  · split
    · exact h
    · next hf =>
      intro i j h1 h2 h3
      have h3 : j < s.n + 1 := h3
      show ¬ (ext s.P s.n _ i = ext s.P s.n _ j ∧ ext s.T s.n t i = ext s.T s.n t j)
      rw [ext_lt (show i < s.n by omega), ext_lt (show i < s.n by omega)]
      by_cases e : j = s.n
      · subst e
        rw [ext_at, ext_at]
        exact fndK_none hf i h1 (by omega)
      · rw [ext_ne e, ext_ne e]
        exact h i j h1 h2 (by omega)
theorem gaS_un (root vocab : Int) (Pr Tr : Nat → Int) : ∀ k, GaU (gaS root vocab Pr Tr k)
  | 0 => fun i j h1 h2 h3 => absurd h3 (by show ¬ j < 1; omega)
  | k + 1 => (gaS_un root vocab Pr Tr k).next _ _ _
theorem clean_tree {vocab : Int} {s : Ga} {k : Nat} (h : GaOk vocab s k) (hu : GaU s) (hn : s.n ≤ 1048576) {d : Nat → Nat} (hf : Fr (fun i => i) d 0 s.n) (hs : Srt s.D d 0 s.n) (h0 : d 0 = 0) {m : Nat} (hm : m = min 32 s.n) : okT m (ouP s.P d (mv d s.n)) (fun i => s.T (d i)) (fun i => s.D (d i)) := by
  have ho := h.one
  have hb : ∀ i, i < s.n → d i < s.n := hf.below (fun i hi => hi)
  have hij : ∀ i j, i < s.n → j < s.n → d i = d j → i = j := fun i j q1 q2 q3 => hs.inj q1 q2 q3
  have hmv : ∀ v, v < s.n → mv d s.n v < s.n ∧ d (mv d s.n v) = v := fun v hv => by
    obtain ⟨j, j1, rfl⟩ := onto_of s.n d hb hij v hv
    rw [mv_at hij s.n (Nat.le_refl _) j j1]
    exact ⟨j1, rfl⟩
  have hpos : ∀ i, 1 ≤ i → i < s.n → 0 < d i := fun i i1 i2 => by
    by_cases e : d i = 0
    · have := hij i 0 i2 (by omega) (by rw [e, h0]); omega
    · omega
  refine ⟨by omega, by omega, ?_, ?_, fun i i1 i2 => ?_⟩
  · unfold ouP; rw [if_pos rfl, h0]; exact h.root.1
  · show s.D (d 0) = 0
    rw [h0]; exact h.root.2
  · have hi : i < s.n := by omega
    have hx := hpos i i1 hi
    obtain ⟨p1, p2, p3, p4, p5⟩ := h.par (d i) hx (hb i hi)
    have hbi := hb i hi
    obtain ⟨q1, q2⟩ := hmv (s.P (d i)).toNat (by omega)
    have eP : ouP s.P d (mv d s.n) i = ((mv d s.n (s.P (d i)).toNat : Nat) : Int) := by unfold ouP; rw [if_neg (by omega)]
    have hD := h.dep (s.P (d i)).toNat (by omega)
    unfold okN okAt
    rw [eP]
    refine ⟨by omega, ?_, p4, ?_, ?_, fun l l1 l2 => ?_⟩
    · generalize mv d s.n (s.P (d i)).toNat = q at q1 q2
      by_cases c : q < i
      · omega
      · exfalso
        by_cases c2 : q = i
        · rw [c2] at q2; rw [← q2] at p3; omega
        · have := hs i q (Nat.zero_le _) (by omega) q1
          rw [q2] at this
          unfold ltK at this
          omega
    · show s.D (d i) = IntKind.i64.wrap (s.D (d ((mv d s.n (s.P (d i)).toNat : Nat) : Int).toNat) + 1)
      rw [Int.toNat_natCast, q2, p3, IntKind.wrap_i64]
      omega
    · show s.D (d (i - 1)) ≤ s.D (d i)
      have := hs (i - 1) i (Nat.zero_le _) (by omega) hi
      unfold ltK at this
      omega
    · rintro ⟨e1, e2⟩
      have hl : l < s.n := by omega
      have hxl := hpos l l1 hl
      have hbl := hb l hl
      obtain ⟨r1, r2, _, _, _⟩ := h.par (d l) hxl hbl
      obtain ⟨_, q4⟩ := hmv (s.P (d l)).toNat (by omega)
      have eL : ouP s.P d (mv d s.n) l = ((mv d s.n (s.P (d l)).toNat : Nat) : Int) := by unfold ouP; rw [if_neg (by omega)]
      rw [eL] at e1
      have e3 : mv d s.n (s.P (d l)).toNat = mv d s.n (s.P (d i)).toNat := by omega
      have e4 : s.P (d l) = s.P (d i) := by rw [e3, q2] at q4; omega
      have hne : d l ≠ d i := fun c => by have := hij l i hl hi c; omega
      have e2 : s.T (d l) = s.T (d i) := e2
      by_cases c : d l < d i
      · exact hu _ _ hxl c hbi ⟨e4, e2⟩
      · exact hu _ _ hx (by omega) hbl ⟨e4.symm, e2.symm⟩
end Go.Proofs.Ytakekdbclmgeoab
