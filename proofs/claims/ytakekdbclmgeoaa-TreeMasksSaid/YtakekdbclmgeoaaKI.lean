import Derived.Test.YtakekdbclmgeoaaClCqC
namespace Go.Proofs.Ytakekdbclmgeoaa.Cl
open Go.RowKit
/-! A raw tree whose nodes stand as in a tree: its Clean. -/
theorem straight_A {root v : Int} {p t : Nat → Int} {n : Nat} {Ls : Nat → List Int} (hw : ∀ i, i < n → wl p t v i = some (Ls i)) (hi : ∀ i j, i < j → j < n → Ls i ≠ Ls j) : ∀ k, k ≤ n → (gaS root v p t k).n = k + 1 ∧ ∀ j, j < k → (gaS root v p t k).A (j + 1) = ((j + 1 : Nat) : Int) := by
  intro k
  induction k with
  | zero => intro _; exact ⟨rfl, fun j hj => absurd hj (by omega)⟩
  | succ k ih =>
    intro hk
    obtain ⟨i1, i2⟩ := ih (by omega)
    have ok := gaS_ok root v p t k
    have ok1 := gaS_ok root v p t (k + 1)
    have ex := ext_gaS root v p t k (k + 1) (by omega)
    have a0 := ans_all root v p t (k + 1)
    have hc := gaN_cases (gaS root v p t k) k (p k) (t k) v ok
    have hdef : gaN (gaS root v p t k) k (p k) (t k) v = gaS root v p t (k + 1) := rfl
    rw [hdef] at hc
    have hA : ∀ j, j < k → (gaS root v p t (k + 1)).A (j + 1) = ((j + 1 : Nat) : Int) := fun j hj => by rw [ex.A (j + 1) (by omega)]; exact i2 j hj
    have ansk := a0.2 k (by omega)
    rcases hc with ⟨c1, c2 | ⟨c2, c3⟩⟩ | ⟨c1, c2⟩
    · rcases ansk with ⟨_, b2⟩ | ⟨b1, _, _⟩
      · rw [hw k (by omega)] at b2; cases b2
      · omega
    · rcases ansk with ⟨b1, _⟩ | ⟨b1, b2, b3⟩
      · omega
      · exfalso
        obtain ⟨j, hj⟩ : ∃ j : Nat, (gaS root v p t (k + 1)).A (k + 1) = ((j + 1 : Nat) : Int) := ⟨((gaS root v p t (k + 1)).A (k + 1)).toNat - 1, by omega⟩
        have hjk : j < k := by omega
        rcases a0.2 j (by omega) with ⟨d1, _⟩ | ⟨_, _, d3⟩
        · have := hA j hjk; omega
        · rw [hA j hjk, hw j (by omega)] at d3
          rw [hj, hw k (by omega)] at b3
          rw [← b3] at d3
          exact hi j k hjk (by omega) (by simpa using d3)
    · refine ⟨by omega, fun j hj => ?_⟩
      by_cases e : j = k
      · subst e; rw [c2, i1]
      · exact hA j (by omega)
theorem straight {root v : Int} {p t : Nat → Int} {n : Nat} {Ls : Nat → List Int} (hw : ∀ i, i < n → wl p t v i = some (Ls i)) (hi : ∀ i j, i < j → j < n → Ls i ≠ Ls j) (hl : ∀ i j, i < j → j < n → (Ls i).length ≤ (Ls j).length) : wsD p t v n n = (List.range n).map Ls := by
  obtain ⟨s1, s2⟩ := straight_A (root := root) hw hi n (Nat.le_refl _)
  have ok := gaS_ok root v p t n
  have an := (ans_all root v p t n).2
  rw [wsD_nl root v p t n n]
  generalize gaS root v p t n = s at *
  have hy : ∀ i, i < n → wyO s (i + 1) = Ls i := fun i h => by
    rcases an i h with ⟨a1, _⟩ | ⟨_, _, a3⟩
    · have := s2 i h; omega
    · rw [s2 i h, hw i h, Int.toNat_natCast] at a3
      simpa using a3.symm
  have hD : ∀ i, i < n → s.D (i + 1) = ((Ls i).length : Int) := fun i h => by rw [← wyO_len ok (i + 1) (by omega), hy i h]
  have e1 : nlT s n = (List.range n).map (· + 1) := by
    refine eq_sorted (r := ltK s.D) (ltK_irr _) (ltK_asy _) _ _ (nlT_sorted s n) ?_ (fun x => ?_)
    · rw [List.pairwise_map]
      refine List.Pairwise.imp_of_mem (fun {a b} ha hb hlt => ?_) List.pairwise_lt_range
      have h2 := List.mem_range.1 hb
      have := hl a b hlt h2
      have e1 := hD a (by omega)
      have e2 := hD b h2
      unfold ltK
      omega
    · rw [nlT_mem]
      constructor
      · rintro ⟨h1, h2, _⟩
        have x0 : x ≠ 0 := fun q => by rw [q, ok.root.2] at h2; omega
        exact List.mem_map.2 ⟨x - 1, List.mem_range.2 (by omega), by omega⟩
      · intro h
        obtain ⟨i, hi', e⟩ := List.mem_map.1 h
        have hi' := List.mem_range.1 hi'
        have hp := ok.par x (by omega) (by omega)
        have hd := ok.dep (s.P x).toNat (by omega)
        have hd2 := ok.dep x (by omega)
        exact ⟨by omega, by omega, by omega⟩
  rw [e1, List.map_map]
  apply List.map_congr_left
  intro i h
  exact hy i (List.mem_range.1 h)
end Go.Proofs.Ytakekdbclmgeoaa.Cl
namespace Go.Proofs.Ytakekdbclmgeoaa.Cl
open Go.RowKit
/-! Clean in the reference's words; lives; the tree's own raw tree. -/
abbrev wsOf (R : List (Int × Int)) (v : Int) : List (List Int) := wsD (rP R) (rT R) v R.length R.length
theorem clean_rc {w : World} {ao : Option Addr} {cap : Nat} {R : List (Int × Int)} {root v : Int} (h : RdA w ao 2 R.length cap (rwF R)) (hn : R.length ≤ 96) (hv : fits v) {WS : List (List Int)} (hW : WS = wsOf R v) {m : Nat} (hm : m = min 32 (WS.length + 1)) :
    Calls Try.prog 40 #[.int .i64 root, .slice ao R.length cap, .int .i64 v] w fun e w' => ∃ u c, e = .returned (.tuple #[.slice u m c, .int .i64 0]) ∧ Own w' w.heap.size 54 3 (.slice u m c) m (nds (rcP WS) (rcT root WS) (rcD WS)) ∧ Below w.heap.size w w' := by
  refine (clean_ok (root := root) (vocab := v) h hn hv rfl rfl).mono (fun e w' q => ?_)
  obtain ⟨d, ⟨d1, d2, d3⟩, u2, c2, e1, o, b⟩ := q
  have ts := trees_same (root := root) (v := v) (p := rP R) (t := rT R) (n := R.length) d1 d2 d3
  have em : min 32 (gaS root v (rP R) (rT R) R.length).n = m := by rw [hm, hW, ← ts.1]
  have em' : min 32 (gaS root v (fun i => (R.getD i (0, 0)).1) (fun i => (R.getD i (0, 0)).2) R.length).n = m := em
  rw [em'] at e1 o
  refine ⟨u2, c2, e1, o.congr (fun j hj => nds_congr (n := m) (fun i hi => ?_) hj), b⟩
  rw [hW]
  exact ts.2 i (by omega)
end Go.Proofs.Ytakekdbclmgeoaa.Cl
