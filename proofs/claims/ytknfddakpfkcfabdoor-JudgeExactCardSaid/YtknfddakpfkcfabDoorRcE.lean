import Derived.Test.YtknfddakpfkcfabDoorRcD
import Derived.Test.YtknfddakpfkcfabDoorTrCj
import Derived.Deep.DeepCutAuto
namespace Go.Proofs.YtknfddakpfkcfabDoor
open Go.RowKit
/-! The reference's Clean: its tree. -/
open Classical in
noncomputable def rpk (WS : List (List Int)) (X : List Int) : Nat := if h : ∃ k, k < WS.length ∧ wAt WS k = X then Classical.choose h else 0
theorem wAt_inj {WS : List (List Int)} (hn : WS.Nodup) {i j : Nat} (hi : i < WS.length) (hj : j < WS.length) (e : wAt WS i = wAt WS j) : i = j := by
  rw [wAt_lt hi, wAt_lt hj] at e
  rw [List.nodup_iff_pairwise_ne, List.pairwise_iff_getElem] at hn
  rcases Nat.lt_trichotomy i j with q | q | q
  · exact absurd e (hn i j hi hj q)
  · exact q
  · exact absurd e.symm (hn j i hj hi q)
theorem rpk_of {WS : List (List Int)} (hn : WS.Nodup) {X : List Int} {k : Nat} (hk : k < WS.length) (e : wAt WS k = X) : rpk WS X = k := by
  have he : ∃ k, k < WS.length ∧ wAt WS k = X := ⟨k, hk, e⟩
  unfold rpk
  rw [dif_pos he]
  have := Classical.choose_spec he
  exact wAt_inj hn this.1 hk (this.2.trans e.symm)
noncomputable def rcP (WS : List (List Int)) : Nat → Int := fun i => if i = 0 then -1 else if 1 < (wAt WS (i - 1)).length then 1 + (rpk WS (wAt WS (i - 1)).dropLast : Int) else 0
def rcT (root : Int) (WS : List (List Int)) : Nat → Int := fun i => if i = 0 then root else (wAt WS (i - 1)).getD ((wAt WS (i - 1)).length - 1) 0
def rcD (WS : List (List Int)) : Nat → Int := fun i => if i = 0 then 0 else ((wAt WS (i - 1)).length : Int)
theorem rcP_up {WS : List (List Int)} {k : Nat} (h : 1 < (wAt WS k).length) : rcP WS (k + 1) = 1 + (rpk WS (wAt WS k).dropLast : Int) := by
  unfold rcP
  rw [if_neg (by omega), Nat.add_sub_cancel, if_pos h]
theorem rcP_one {WS : List (List Int)} {k : Nat} (h : ¬ 1 < (wAt WS k).length) : rcP WS (k + 1) = 0 := by
  unfold rcP
  rw [if_neg (by omega), Nat.add_sub_cancel, if_neg h]
theorem rcT_at (root : Int) (WS : List (List Int)) (k : Nat) : rcT root WS (k + 1) = (wAt WS k).getD ((wAt WS k).length - 1) 0 := by
  unfold rcT
  rw [if_neg (by omega), Nat.add_sub_cancel]
theorem rcD_at (WS : List (List Int)) (k : Nat) : rcD WS (k + 1) = ((wAt WS k).length : Int) := by
  unfold rcD
  rw [if_neg (by omega), Nat.add_sub_cancel]
theorem drop_last {L : List Int} (h : 1 ≤ L.length) : L = L.dropLast ++ [L.getD (L.length - 1) 0] := by
  apply List.ext_getElem
  · simp; omega
  · intro i h1 h2
    by_cases e : i < L.length - 1
    · rw [List.getElem_append_left (by simp; omega), List.getElem_dropLast]
    · have e2 : i = L.length - 1 := by omega
      subst e2
      rw [List.getElem_append_right (by simp)]
      simp [List.getD_eq_getElem?_getD, List.getElem?_eq_getElem h1]
/-- a way's beginning stands ahead of it -/
theorem WsOk.par {p t : Nat → Int} {v : Int} {n d : Nat} {WS : List (List Int)} (h : WsOk p t v n d WS) {k : Nat} (hk : k < WS.length) (hl : 1 < (wAt WS k).length) : rpk WS (wAt WS k).dropLast < k ∧ wAt WS (rpk WS (wAt WS k).dropLast) = (wAt WS k).dropLast := by
  rw [wAt_lt hk] at hl ⊢
  obtain ⟨j, hj, e⟩ := h.pre k hk hl
  have e2 : wAt WS j = (WS[k]).dropLast := by rw [wAt_lt (by omega)]; exact e
  rw [rpk_of h.nodup (by omega) e2]
  exact ⟨hj, e2⟩
theorem WsOk.one {p t : Nat → Int} {v : Int} {n d : Nat} {WS : List (List Int)} (h : WsOk p t v n d WS) {k : Nat} (hk : k < WS.length) : 1 ≤ (wAt WS k).length ∧ (wAt WS k).length ≤ n ∧ ∀ x ∈ wAt WS k, 1 ≤ x ∧ x < v := by
  rw [wAt_lt hk]
  obtain ⟨i, hi, e⟩ := h.some_ _ (List.getElem_mem hk)
  obtain ⟨a, b, c⟩ := wl_len i _ e
  exact ⟨a, by omega, c⟩
theorem rc_ok {p t : Nat → Int} {v root : Int} {n d m : Nat} {WS : List (List Int)} (h : WsOk p t v n d WS) (hn : n ≤ 96) (h1 : 1 ≤ m) (h2 : m ≤ 32) (h3 : m ≤ WS.length + 1) : okT m (rcP WS) (rcT root WS) (rcD WS) := by
  refine ⟨h1, h2, rfl, rfl, fun i i1 i2 => ?_⟩
  obtain ⟨k, rfl⟩ : ∃ k, i = k + 1 := ⟨i - 1, by omega⟩
  have hk : k < WS.length := by omega
  obtain ⟨o1, o2, o3⟩ := h.one hk
  have hT : 1 ≤ rcT root WS (k + 1) := by
    rw [rcT_at]
    exact (o3 _ (by rw [List.getD_eq_getElem?_getD, List.getElem?_eq_getElem (by omega)]; exact List.getElem_mem _)).1
  have hwr : ∀ x : Int, 0 ≤ x → x ≤ 1000 → IntKind.i64.wrap x = x := fun x x1 x2 => by
    unfold IntKind.wrap IntKind.bits IntKind.signed
    simp
    omega
  have hmono : rcD WS (k + 1 - 1) ≤ rcD WS (k + 1) := by
    rw [rcD_at, Nat.add_sub_cancel]
    by_cases e : k = 0
    · subst e; show (0 : Int) ≤ _; omega
    · obtain ⟨j, rfl⟩ : ∃ j, k = j + 1 := ⟨k - 1, by omega⟩
      rw [rcD_at, wAt_lt hk, wAt_lt (by omega)]
      have := List.pairwise_iff_getElem.1 h.up j (j + 1) (by omega) hk (by omega)
      omega
  have huniq : ∀ z, 1 ≤ z → z < k + 1 → ¬ (rcP WS z = rcP WS (k + 1) ∧ rcT root WS z = rcT root WS (k + 1)) := by
    rintro z z1 z2 ⟨e1, e2⟩
    obtain ⟨y, rfl⟩ : ∃ y, z = y + 1 := ⟨z - 1, by omega⟩
    have hy : y < WS.length := by omega
    obtain ⟨y1, _, _⟩ := h.one hy
    rw [rcT_at, rcT_at] at e2
    have key : (wAt WS y).dropLast = (wAt WS k).dropLast := by
      by_cases a : 1 < (wAt WS y).length
      · by_cases b : 1 < (wAt WS k).length
        · rw [rcP_up a, rcP_up b] at e1
          have pa := (h.par hy a).2
          have pb := (h.par hk b).2
          rw [← pa, ← pb]
          congr 1
          omega
        · rw [rcP_up a, rcP_one b] at e1; omega
      · by_cases b : 1 < (wAt WS k).length
        · rw [rcP_one a, rcP_up b] at e1; omega
        · have f1 : (wAt WS y).dropLast = [] := List.eq_nil_of_length_eq_zero (by simp; omega)
          have f2 : (wAt WS k).dropLast = [] := List.eq_nil_of_length_eq_zero (by simp; omega)
          rw [f1, f2]
    have : wAt WS y = wAt WS k := by rw [drop_last y1, drop_last o1, key, e2]
    have := wAt_inj h.nodup hy hk this
    omega
  by_cases hl : 1 < (wAt WS k).length
  · obtain ⟨p1, p2⟩ := h.par hk hl
    have e1 := rcP_up hl
    refine ⟨by rw [e1]; omega, by rw [e1]; omega, hT, ?_, hmono, huniq⟩
    have e2 : (rcP WS (k + 1)).toNat = rpk WS (wAt WS k).dropLast + 1 := by rw [e1]; omega
    rw [e2, rcD_at, rcD_at, p2, hwr _ (by omega) (by simp; omega)]
    simp
    omega
  · have e1 := rcP_one hl
    refine ⟨by rw [e1]; exact Int.le_refl _, by rw [e1]; omega, hT, ?_, hmono, huniq⟩
    rw [e1, rcD_at]
    show _ = IntKind.i64.wrap (0 + 1)
    rw [hwr _ (by omega) (by omega)]
    omega
end Go.Proofs.YtknfddakpfkcfabDoor
