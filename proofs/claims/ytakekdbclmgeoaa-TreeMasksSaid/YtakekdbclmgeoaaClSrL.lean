import Derived.Test.YtakekdbclmgeoaaClSrK
namespace Go.Proofs.Ytakekdbclmgeoaa.Cl
open Go.RowKit
/-! What gather makes: nodes, and for each raw node its place. -/
/-- which node has this parent and this token -/
def fndK (P T : Nat → Int) : Nat → Int → Int → Option Int
  | 0, _, _ => none
  | n + 1, a, b => if n = 0 then none else if a = P n ∧ b = T n then some (n : Int) else fndK P T n a b
theorem fndK_some {P T : Nat → Int} : ∀ {n : Nat} {a b v : Int}, fndK P T n a b = some v → 0 < v ∧ v < n ∧ P v.toNat = a ∧ T v.toNat = b
  | 0, _, _, _, h => by simp [fndK] at h
  | n + 1, a, b, v, h => by
    unfold fndK at h
    split at h
    · cases h
    · next h0 =>
      split at h
      · next h1 =>
        cases h
        exact ⟨by omega, by omega, h1.1.symm, h1.2.symm⟩
      · obtain ⟨h1, h2, h3, h4⟩ := fndK_some h
        exact ⟨h1, by omega, h3, h4⟩
theorem fndK_congr {P T P' T' : Nat → Int} : ∀ {n : Nat} {a b : Int}, (∀ i, i < n → P' i = P i ∧ T' i = T i) → fndK P' T' n a b = fndK P T n a b
  | 0, _, _, _ => rfl
  | n + 1, a, b, h => by
    unfold fndK
    rw [(h n (by omega)).1, (h n (by omega)).2, fndK_congr (fun i hi => h i (by omega))]
def ext (f : Nat → Int) (m : Nat) (x : Int) : Nat → Int := fun i => if i = m then x else f i
theorem ext_at (f : Nat → Int) (m : Nat) (x : Int) : ext f m x m = x := if_pos rfl
theorem ext_ne {f : Nat → Int} {m i : Nat} {x : Int} (h : i ≠ m) : ext f m x i = f i := if_neg h
theorem ext_lt {f : Nat → Int} {m i : Nat} {x : Int} (h : i < m) : ext f m x i = f i := if_neg (by omega)
structure Ga where
  n : Nat
  P : Nat → Int
  T : Nat → Int
  D : Nat → Int
  A : Nat → Int
def ga0 (root : Int) : Ga := ⟨1, fun _ => -1, fun _ => root, fun _ => 0, fun _ => 0⟩
/-- the node above, -1 where there is none -/
def upG (s : Ga) (i : Nat) (p t vocab : Int) : Int := if -1 ≤ p ∧ p < i ∧ 1 ≤ t ∧ t < vocab then s.A (p + 1).toNat else -1
def gaOut (s : Ga) (i : Nat) (x : Int) : Ga := { s with A := ext s.A (i + 1) x }
def gaNew (s : Ga) (i : Nat) (up t : Int) : Ga := ⟨s.n + 1, ext s.P s.n up, ext s.T s.n t, ext s.D s.n (s.D up.toNat + 1), ext s.A (i + 1) s.n⟩
def gaN (s : Ga) (i : Nat) (p t vocab : Int) : Ga :=
  if upG s i p t vocab = -1 then gaOut s i (-1)
  else match fndK s.P s.T s.n (upG s i p t vocab) t with
    | some v => gaOut s i v
    | none => gaNew s i (upG s i p t vocab) t
def gaS (root vocab : Int) (Pr Tr : Nat → Int) : Nat → Ga
  | 0 => ga0 root
  | i + 1 => gaN (gaS root vocab Pr Tr i) i (Pr i) (Tr i) vocab
structure GaOk (vocab : Int) (s : Ga) (k : Nat) : Prop where
  one : 1 ≤ s.n
  le : s.n ≤ k + 1
  at_ : ∀ j, j ≤ k → -1 ≤ s.A j ∧ s.A j < s.n
  root : s.P 0 = -1 ∧ s.D 0 = 0
  par : ∀ i, 0 < i → i < s.n → 0 ≤ s.P i ∧ s.P i < i ∧ s.D i = s.D (s.P i).toNat + 1 ∧ 1 ≤ s.T i ∧ s.T i < vocab
  dep : ∀ i, i < s.n → 0 ≤ s.D i ∧ s.D i ≤ i
theorem GaOk.start (vocab root : Int) : GaOk vocab (ga0 root) 0 := ⟨Nat.le_refl _, Nat.le_refl _, fun j _ => ⟨by show (-1 : Int) ≤ 0; omega, by show (0 : Int) < 1; omega⟩, ⟨rfl, rfl⟩, fun i h1 h2 => absurd h2 (by show ¬ i < 1; omega), fun i _ => ⟨Int.le_refl _, by show (0 : Int) ≤ i; omega⟩⟩
theorem GaOk.up {vocab : Int} {s : Ga} {k : Nat} (h : GaOk vocab s k) (p t : Int) : -1 ≤ upG s k p t vocab ∧ upG s k p t vocab < s.n ∧ (upG s k p t vocab ≠ -1 → 1 ≤ t ∧ t < vocab) := by
  have := h.one
  unfold upG
  split
  · next c =>
    have := h.at_ (p + 1).toNat (by omega)
    exact ⟨this.1, this.2, fun _ => ⟨c.2.2.1, c.2.2.2⟩⟩
  · exact ⟨by omega, by omega, fun c => absurd rfl c⟩
theorem GaOk.out {vocab : Int} {s : Ga} {k : Nat} (h : GaOk vocab s k) {x : Int} (h1 : -1 ≤ x) (h2 : x < s.n) : GaOk vocab (gaOut s k x) (k + 1) := by
  refine ⟨h.one, by have := h.le; show s.n ≤ k + 1 + 1; omega, fun j hj => ?_, h.root, h.par, h.dep⟩
  show -1 ≤ ext s.A (k + 1) x j ∧ ext s.A (k + 1) x j < s.n
  by_cases e : j = k + 1
  · subst e; rw [ext_at]; exact ⟨h1, h2⟩
  · rw [ext_ne e]; exact h.at_ j (by omega)
theorem GaOk.new {vocab : Int} {s : Ga} {k : Nat} (h : GaOk vocab s k) {up t : Int} (h1 : 0 ≤ up) (h2 : up < s.n) (h3 : 1 ≤ t) (h4 : t < vocab) : GaOk vocab (gaNew s k up t) (k + 1) := by
  have ho := h.one
  have hl := h.le
  refine ⟨by show 1 ≤ s.n + 1; omega, by show s.n + 1 ≤ k + 1 + 1; omega, fun j hj => ?_, ⟨?_, ?_⟩, fun i i1 i2 => ?_, fun i hi => ?_⟩
  · show -1 ≤ ext s.A (k + 1) s.n j ∧ ext s.A (k + 1) s.n j < ((s.n + 1 : Nat) : Int)
    by_cases e : j = k + 1
    · subst e; rw [ext_at]; omega
    · rw [ext_ne e]; have := h.at_ j (by omega); omega
  · show ext s.P s.n up 0 = -1
    rw [ext_lt (by omega)]; exact h.root.1
  · show ext s.D s.n _ 0 = 0
    rw [ext_lt (by omega)]; exact h.root.2
  · have i2 : i < s.n + 1 := i2
    show 0 ≤ ext s.P s.n up i ∧ ext s.P s.n up i < i ∧ ext s.D s.n (s.D up.toNat + 1) i = ext s.D s.n (s.D up.toNat + 1) (ext s.P s.n up i).toNat + 1 ∧ 1 ≤ ext s.T s.n t i ∧ ext s.T s.n t i < vocab
    by_cases e : i = s.n
    · subst e
      rw [ext_at, ext_at, ext_at, ext_lt (by omega)]
      exact ⟨h1, h2, rfl, h3, h4⟩
    · have k1 := h.par i i1 (by omega)
      rw [ext_ne e, ext_ne e, ext_ne e, ext_lt (by omega)]
      exact k1
  · have hi : i < s.n + 1 := hi
    show 0 ≤ ext s.D s.n (s.D up.toNat + 1) i ∧ ext s.D s.n (s.D up.toNat + 1) i ≤ i
    by_cases e : i = s.n
    · subst e
      have k1 := h.dep up.toNat (by omega)
      rw [ext_at]
      omega
    · rw [ext_ne e]; exact h.dep i (by omega)
theorem GaOk.next {vocab : Int} {s : Ga} {k : Nat} (h : GaOk vocab s k) (p t : Int) : GaOk vocab (gaN s k p t vocab) (k + 1) := by
  obtain ⟨u1, u2, u3⟩ := h.up p t
  have ho := h.one
  unfold gaN
  generalize upG s k p t vocab = up at u1 u2 u3
  split
  · exact h.out (by omega) (by omega)
  · next c =>
    have := u3 c
    split
    · next v hv =>
      obtain ⟨q1, q2, _, _⟩ := fndK_some hv
      exact h.out (by omega) q2
    · exact h.new (by omega) u2 this.1 this.2
theorem gaS_ok (root vocab : Int) (Pr Tr : Nat → Int) : ∀ k, GaOk vocab (gaS root vocab Pr Tr k) k
  | 0 => GaOk.start vocab root
  | k + 1 => (gaS_ok root vocab Pr Tr k).next _ _
/-- the map's answers behind a new node -/
theorem fndK_new (s : Ga) (k : Nat) (up t : Int) (h : 1 ≤ s.n) (a b : Int) : updK (fndK s.P s.T s.n) up t s.n a b = fndK (gaNew s k up t).P (gaNew s k up t).T (gaNew s k up t).n a b := by
  show _ = fndK (ext s.P s.n up) (ext s.T s.n t) (s.n + 1) a b
  unfold updK
  rw [show fndK (ext s.P s.n up) (ext s.T s.n t) (s.n + 1) a b = if s.n = 0 then none else if a = ext s.P s.n up s.n ∧ b = ext s.T s.n t s.n then some (s.n : Int) else fndK (ext s.P s.n up) (ext s.T s.n t) s.n a b from rfl]
  rw [if_neg (show ¬ s.n = 0 by omega), ext_at, ext_at, fndK_congr (fun i hi => ⟨ext_lt hi, ext_lt hi⟩)]
/-- every node has the root's depth below its own -/
theorem GaOk.deep {vocab : Int} {s : Ga} {k : Nat} (h : GaOk vocab s k) {i : Nat} (h1 : 0 < i) (h2 : i < s.n) : s.D 0 < s.D i := by
  have k1 := h.par i h1 h2
  have k2 := h.dep (s.P i).toNat (by omega)
  rw [h.root.2, k1.2.2.1]
  omega
end Go.Proofs.Ytakekdbclmgeoaa.Cl
