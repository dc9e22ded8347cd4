import Derived.Test.YtakekdbclmgeoabCqE
import Derived.Test.YtakekdbclmgeoabRcGt
namespace Go.Proofs.Ytakekdbclmgeoab
open Go.RowKit
/-! A tree's own raw tree. -/
noncomputable def agP (WS : List (List Int)) : Nat → Int := fun i => rcP WS (i + 1) - 1
def agT (root : Int) (WS : List (List Int)) : Nat → Int := fun i => rcT root WS (i + 1)
theorem tok_last {p t : Nat → Int} {v : Int} {n d : Nat} {WS : List (List Int)} (h : WsOk p t v n d WS) {k : Nat} (hk : k < WS.length) : 1 ≤ (wAt WS k).getD ((wAt WS k).length - 1) 0 ∧ (wAt WS k).getD ((wAt WS k).length - 1) 0 < v := by
  obtain ⟨o1, _, o3⟩ := h.one hk
  exact o3 _ (by rw [List.getD_eq_getElem?_getD, List.getElem?_eq_getElem (by omega)]; exact List.getElem_mem _)
theorem again_wl {p t : Nat → Int} {v root : Int} {n d : Nat} {WS : List (List Int)} (h : WsOk p t v n d WS) : ∀ i, i < WS.length → wl (agP WS) (agT root WS) v i = some (wAt WS i) := by
  intro i
  induction i using Nat.strongRecOn with
  | ind i ih =>
    intro hi
    obtain ⟨o1, _, _⟩ := h.one hi
    obtain ⟨l1, l2⟩ := tok_last h hi
    have et : agT root WS i = (wAt WS i).getD ((wAt WS i).length - 1) 0 := rcT_at root WS i
    by_cases hl : 1 < (wAt WS i).length
    · obtain ⟨p1, p2⟩ := h.par hi hl
      have ep : agP WS i = (rpk WS (wAt WS i).dropLast : Int) := by show rcP WS (i + 1) - 1 = _; rw [rcP_up hl]; omega
      have hg : gdW (agP WS i) (agT root WS i) v i := ⟨by rw [et]; exact l1, by rw [et]; exact l2, by rw [ep]; omega, by rw [ep]; omega⟩
      rw [wl_up hg (by rw [ep]; omega), ep, Int.toNat_natCast, ih _ p1 (by omega), p2, et]
      show some ((wAt WS i).dropLast ++ [_]) = _
      rw [← drop_last o1]
    · have ep : agP WS i = -1 := by show rcP WS (i + 1) - 1 = _; rw [rcP_one hl]; rfl
      have hg : gdW (agP WS i) (agT root WS i) v i := ⟨by rw [et]; exact l1, by rw [et]; exact l2, by rw [ep]; exact Int.le_refl _, by rw [ep]; omega⟩
      rw [wl_one hg ep, et]
      have e := drop_last o1
      have f1 : (wAt WS i).dropLast = [] := List.eq_nil_of_length_eq_zero (by simp; omega)
      rw [f1] at e
      rw [List.nil_append] at e
      rw [← e]
/-- the first k ways -/
def wsT (WS : List (List Int)) (k : Nat) : List (List Int) := (List.range k).map (wAt WS)
theorem wsT_len (WS : List (List Int)) (k : Nat) : (wsT WS k).length = k := by simp [wsT]
theorem wsT_at {WS : List (List Int)} {k i : Nat} (hi : i < k) : wAt (wsT WS k) i = wAt WS i := by
  unfold wsT
  show ((List.range k).map (wAt WS)).getD i [] = _
  rw [List.getD_eq_getElem?_getD]
  simp [hi]
theorem wsT_nodup {WS : List (List Int)} (hn : WS.Nodup) {k : Nat} (hk : k ≤ WS.length) : (wsT WS k).Nodup := by
  unfold wsT
  rw [List.nodup_iff_pairwise_ne, List.pairwise_map]
  refine List.Pairwise.imp_of_mem (fun {a b} ha hb hlt e => ?_) List.pairwise_lt_range
  have h1 := List.mem_range.1 ha
  have h2 := List.mem_range.1 hb
  have := wAt_inj hn (by omega) (by omega) e
  omega
theorem again_ws {p t : Nat → Int} {v root : Int} {n d k : Nat} {WS : List (List Int)} (h : WsOk p t v n d WS) (hk : k ≤ WS.length) : wsD (agP WS) (agT root WS) v k k = wsT WS k := by
  refine straight (root := root) (Ls := wAt WS) (fun i hi => again_wl h i (by omega)) (fun i j hij hj e => ?_) (fun i j hij hj => ?_)
  · have := wAt_inj h.nodup (by omega) (by omega) e
    omega
  · rw [wAt_lt (by omega), wAt_lt (by omega)]
    exact List.pairwise_iff_getElem.1 h.up i j (by omega) (by omega) hij
theorem again_rc {p t : Nat → Int} {v root : Int} {n d k : Nat} {WS : List (List Int)} (h : WsOk p t v n d WS) (hk : k ≤ WS.length) : ∀ i, i < k + 1 → rcP (wsT WS k) i = rcP WS i ∧ rcT root (wsT WS k) i = rcT root WS i ∧ rcD (wsT WS k) i = rcD WS i := by
  intro i hi
  by_cases i0 : i = 0
  · subst i0; exact ⟨rfl, rfl, rfl⟩
  · obtain ⟨j, rfl⟩ : ∃ j, i = j + 1 := ⟨i - 1, by omega⟩
    have e := wsT_at (WS := WS) (k := k) (i := j) (by omega)
    refine ⟨?_, by rw [rcT_at, rcT_at, e], by rw [rcD_at, rcD_at, e]⟩
    by_cases hl : 1 < (wAt WS j).length
    · obtain ⟨p1, p2⟩ := h.par (by omega) hl
      rw [rcP_up hl, rcP_up (by rw [e]; exact hl), e]
      have := rpk_of (wsT_nodup h.nodup hk) (k := rpk WS (wAt WS j).dropLast) (X := (wAt WS j).dropLast) (by rw [wsT_len]; omega) (by rw [wsT_at (by omega)]; exact p2)
      rw [this]
    · rw [rcP_one hl, rcP_one (by rw [e]; exact hl)]
/-- the tokens of a node's way -/
def tkL (P T : Nat → Int) (i : Nat) : List Int := ((wy P i).drop 1).map T
theorem tk_step {n i : Nat} {P T D : Nat → Int} (h : okT n P T D) (h1 : 1 ≤ i) (h2 : i < n) : tkL P T i = tkL P T (P i).toNat ++ [T i] := by
  obtain ⟨hp, e⟩ := wy_step h h1 h2
  obtain ⟨a1, _⟩ := wy_chain h (P i).toNat (by omega)
  unfold tkL
  rw [e, List.drop_append_of_le_length a1, List.map_append]
  rfl
theorem tk_ws {p t : Nat → Int} {v root : Int} {n d m : Nat} {WS : List (List Int)} (h : WsOk p t v n d WS) (hn : n ≤ 96) (h1 : 1 ≤ m) (h2 : m ≤ 32) (h3 : m ≤ WS.length + 1) : ∀ k, k + 1 < m → tkL (rcP WS) (rcT root WS) (k + 1) = wAt WS k := by
  have hok := rc_ok (root := root) h hn h1 h2 h3
  intro k
  induction k using Nat.strongRecOn with
  | ind k ih =>
    intro hk
    have hkl : k < WS.length := by omega
    obtain ⟨o1, _, _⟩ := h.one hkl
    rw [tk_step hok (by omega) hk, rcT_at]
    by_cases hl : 1 < (wAt WS k).length
    · obtain ⟨p1, p2⟩ := h.par hkl hl
      have e1 : (rcP WS (k + 1)).toNat = rpk WS (wAt WS k).dropLast + 1 := by rw [rcP_up hl]; omega
      rw [e1, ih _ p1 (by omega), p2, ← drop_last o1]
    · have e1 : (rcP WS (k + 1)).toNat = 0 := by rw [rcP_one hl]; rfl
      have e := drop_last o1
      have f1 : (wAt WS k).dropLast = [] := List.eq_nil_of_length_eq_zero (by simp; omega)
      rw [f1] at e
      rw [e1]
      unfold tkL
      rw [wy_zero]
      exact e.symm
end Go.Proofs.Ytakekdbclmgeoab
