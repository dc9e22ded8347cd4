import Derived.Test.YtbpldnlafilbbaaNgA
namespace Go.Proofs.Ytbpldnlafilbbaa
open Go.RowKit
/-! Texts, runs and places. -/
def rc (tx : Nat → Int) (q l j : Nat) : Int := if j < l then tx (q - l + j) else 0
def rn (tx : Nat → Int) (q l : Nat) : List Int := [rc tx q l 0, rc tx q l 1, rc tx q l 2, rc tx q l 3]
theorem rc_congr {tx ty : Nat → Int} {q l : Nat} (hl : l ≤ q) (h : ∀ j, j < q → tx j = ty j) (j : Nat) : rc tx q l j = rc ty q l j := by
  unfold rc
  by_cases e : j < l
  · rw [if_pos e, if_pos e]; exact h _ (by omega)
  · rw [if_neg e, if_neg e]
theorem rn_congr {tx ty : Nat → Int} {q l : Nat} (hl : l ≤ q) (h : ∀ j, j < q → tx j = ty j) : rn tx q l = rn ty q l := by
  unfold rn
  rw [rc_congr hl h, rc_congr hl h, rc_congr hl h, rc_congr hl h]
theorem rn_pc {tx : Nat → Int} {q l : Nat} (hl : l ≤ q) (h : ∀ j, j < q → fits (tx j)) : Pc (rn tx q l) := by
  have key : ∀ j, fits (rc tx q l j) := fun j => by
    unfold rc
    by_cases e : j < l
    · rw [if_pos e]; exact h _ (by omega)
    · rw [if_neg e]; unfold fits; omega
  refine ⟨rfl, fun x hx => ?_⟩
  unfold rn at hx
  simp only [List.mem_cons, List.not_mem_nil, or_false] at hx
  rcases hx with rfl | rfl | rfl | rfl <;> exact key _
theorem rn_run {tx : Nat → Int} {q l : Nat} (hl : l ≤ q) (h : ∀ j, j < q → fits (tx j)) : isRun (runV (rn tx q l)) := run_ok (rn_pc hl h)
open Classical in
noncomputable def lat (P : Nat → Prop) : Nat → Option Nat
  | 0 => none
  | n + 1 => if P (n + 1) then some (n + 1) else lat P n
theorem lat_yes {P : Nat → Prop} {n : Nat} (h : P (n + 1)) : lat P (n + 1) = some (n + 1) := if_pos h
theorem lat_no {P : Nat → Prop} {n : Nat} (h : ¬ P (n + 1)) : lat P (n + 1) = lat P n := if_neg h
theorem lat_congr {P Q : Nat → Prop} : ∀ n, (∀ q, 1 ≤ q → q ≤ n → (P q ↔ Q q)) → lat P n = lat Q n
  | 0, _ => rfl
  | n + 1, h => by
    have ih := lat_congr n (fun q h1 h2 => h q h1 (by omega))
    by_cases e : P (n + 1)
    · rw [lat_yes e, lat_yes ((h _ (by omega) (Nat.le_refl _)).1 e)]
    · rw [lat_no e, lat_no (fun k => e ((h _ (by omega) (Nat.le_refl _)).2 k)), ih]
theorem lat_some {P : Nat → Prop} : ∀ {n q : Nat}, lat P n = some q → 1 ≤ q ∧ q ≤ n ∧ P q ∧ ∀ r, q < r → r ≤ n → ¬ P r
  | 0, q, h => by cases h
  | n + 1, q, h => by
    by_cases e : P (n + 1)
    · rw [lat_yes e] at h
      cases h
      exact ⟨by omega, Nat.le_refl _, e, fun r h1 h2 => absurd h1 (by omega)⟩
    · rw [lat_no e] at h
      obtain ⟨h1, h2, h3, h4⟩ := lat_some h
      refine ⟨h1, by omega, h3, fun r k1 k2 => ?_⟩
      by_cases er : r = n + 1
      · rw [er]; exact e
      · exact h4 r k1 (by omega)
theorem lat_none {P : Nat → Prop} : ∀ {n : Nat}, lat P n = none → ∀ q, 1 ≤ q → q ≤ n → ¬ P q
  | 0, _, q, h1, h2 => absurd h1 (by omega)
  | n + 1, h, q, h1, h2 => by
    by_cases e : P (n + 1)
    · rw [lat_yes e] at h; cases h
    · rw [lat_no e] at h
      by_cases er : q = n + 1
      · rw [er]; exact e
      · exact lat_none h q h1 (by omega)
/-- the run k of i + 1 tokens stands ahead of place q -/
def Hd (tx : Nat → Int) (i : Nat) (k : Value) (q : Nat) : Prop := i + 1 ≤ q ∧ runV (rn tx q (i + 1)) = k
theorem Hd_congr {tx ty : Nat → Int} {n : Nat} (h : ∀ j, j < n → tx j = ty j) (i : Nat) (k : Value) {q : Nat} (hq : q ≤ n) : Hd tx i k q ↔ Hd ty i k q := by
  unfold Hd
  by_cases e : i + 1 ≤ q
  · rw [rn_congr e (fun j hj => h j (by omega))]
  · simp [e]
def ptO (A : Nat → Nat) : Option Nat → Value
  | none => nilP
  | some q => .pointer (some ⟨A q, 0, none⟩)
noncomputable def gm (tx : Nat → Int) (A : Nat → Nat) (n i : Nat) : Value → Value := fun k => ptO A (lat (Hd tx i k) n)
noncomputable def ear (tx : Nat → Int) (q i : Nat) : Option Nat := lat (Hd tx i (runV (rn tx q (i + 1)))) (q - 1)
theorem gm_look (tx : Nat → Int) (A : Nat → Nat) (n i : Nat) : gm tx A n i (runV (rn tx (n + 1) (i + 1))) = ptO A (ear tx (n + 1) i) := rfl
theorem gm_succ (tx : Nat → Int) (A : Nat → Nat) (n i : Nat) (hi : i ≤ n) (k : Value) : gm tx A (n + 1) i k = updV (gm tx A n i) (runV (rn tx (n + 1) (i + 1))) (.pointer (some ⟨A (n + 1), 0, none⟩)) k := by
  by_cases e : k = runV (rn tx (n + 1) (i + 1))
  · rw [e, updV_at]
    unfold gm
    rw [lat_yes ⟨by omega, rfl⟩]
    rfl
  · rw [updV_ne _ _ e]
    unfold gm
    rw [lat_no (fun h => e h.2.symm)]
theorem gm_small (tx : Nat → Int) (A : Nat → Nat) (n i : Nat) (hi : ¬ i ≤ n) (k : Value) : gm tx A (n + 1) i k = gm tx A n i k := by
  unfold gm
  rw [lat_no (fun h => hi (by have := h.1; omega))]
theorem gm_back (tx : Nat → Int) (A : Nat → Nat) (n i : Nat) (k : Value) : updV (gm tx A (n + 1) i) (runV (rn tx (n + 1) (i + 1))) (ptO A (ear tx (n + 1) i)) k = gm tx A n i k := by
  by_cases e : k = runV (rn tx (n + 1) (i + 1))
  · rw [e, updV_at]; rfl
  · rw [updV_ne _ _ e]
    unfold gm
    rw [lat_no (fun h => e h.2.symm)]
theorem ptO_congr {A B : Nat → Nat} {n : Nat} (h : ∀ q, 1 ≤ q → q ≤ n → A q = B q) {o : Option Nat} (ho : ∀ q, o = some q → 1 ≤ q ∧ q ≤ n) : ptO A o = ptO B o := by
  cases o with
  | none => rfl
  | some q =>
    show Value.pointer (some ⟨A q, 0, none⟩) = Value.pointer (some ⟨B q, 0, none⟩)
    rw [h q (ho q rfl).1 (ho q rfl).2]
theorem gm_congr {tx ty : Nat → Int} {A B : Nat → Nat} {n : Nat} (h : ∀ j, j < n → tx j = ty j) (hA : ∀ q, 1 ≤ q → q ≤ n → A q = B q) (i : Nat) (k : Value) : gm tx A n i k = gm ty B n i k := by
  unfold gm
  rw [lat_congr n (fun q _ h2 => Hd_congr h i k h2)]
  exact ptO_congr hA (fun q e => ⟨(lat_some e).1, (lat_some e).2.1⟩)
theorem ear_congr {tx ty : Nat → Int} {q : Nat} (h : ∀ j, j < q → tx j = ty j) {i : Nat} (hi : i < q) : ear tx q i = ear ty q i := by
  unfold ear
  rw [rn_congr (by omega) h]
  exact lat_congr _ (fun r _ h2 => Hd_congr h i _ (by omega))
theorem ear_lt {tx : Nat → Int} {q i r : Nat} (h : ear tx q i = some r) : 1 ≤ r ∧ r < q ∧ i + 1 ≤ r := by
  obtain ⟨h1, h2, h3, _⟩ := lat_some h
  exact ⟨h1, by omega, h3.1⟩
/-- a place's cells: its number, and the earlier ones -/
noncomputable def erV (tx : Nat → Int) (A : Nat → Nat) (most q i : Nat) : Value := if i < q ∧ i < most then ptO A (ear tx q i) else nilP
noncomputable def plF (tx : Nat → Int) (A : Nat → Nat) (most q : Nat) : Nat → Value := fun j => if j = 0 then .int .i64 q else erV tx A most q (j - 1)
theorem erV_congr {tx ty : Nat → Int} {A B : Nat → Nat} {most q : Nat} (h : ∀ j, j < q → tx j = ty j) (hA : ∀ r, 1 ≤ r → r < q → A r = B r) (i : Nat) : erV tx A most q i = erV ty B most q i := by
  unfold erV
  by_cases e : i < q ∧ i < most
  · rw [if_pos e, if_pos e, ear_congr h e.1]
    exact ptO_congr (n := q - 1) (fun r h1 h2 => hA r h1 (by omega)) (fun r e => by have := ear_lt e; omega)
  · rw [if_neg e, if_neg e]
theorem plF_congr {tx ty : Nat → Int} {A B : Nat → Nat} {most q : Nat} (h : ∀ j, j < q → tx j = ty j) (hA : ∀ r, 1 ≤ r → r < q → A r = B r) (j : Nat) : plF tx A most q j = plF ty B most q j := by
  unfold plF
  rw [erV_congr h hA]
def updT (tx : Nat → Int) (n : Nat) (t : Int) : Nat → Int := fun j => if j = n then t else tx j
theorem updT_at (tx : Nat → Int) (n : Nat) (t : Int) : updT tx n t n = t := if_pos rfl
theorem updT_lt (tx : Nat → Int) {n j : Nat} (t : Int) (h : j < n) : updT tx n t j = tx j := if_neg (by omega)
def updA (A : Nat → Nat) (n b : Nat) : Nat → Nat := fun j => if j = n then b else A j
theorem updA_at (A : Nat → Nat) (n b : Nat) : updA A n b n = b := if_pos rfl
theorem updA_ne (A : Nat → Nat) {n j : Nat} (b : Nat) (h : j ≠ n) : updA A n b j = A j := if_neg h
end Go.Proofs.Ytbpldnlafilbbaa
