import Derived.Test.YtbpldnlafilbbabNgT
namespace Go.Proofs.Ytbpldnlafilbbab
open Go.RowKit
/-! NgramCuts. -/
theorem dwn_congr {P Q : Nat → Prop} : ∀ n, (∀ q, 1 ≤ q → q ≤ n → (P q ↔ Q q)) → dwn P n = dwn Q n
  | 0, _ => rfl
  | n + 1, h => by
    have ih := dwn_congr n (fun q h1 h2 => h q h1 (by omega))
    by_cases e : P (n + 1)
    · rw [dwn_yes e, dwn_yes ((h _ (by omega) (Nat.le_refl _)).1 e), ih]
    · rw [dwn_no e, dwn_no (fun k => e ((h _ (by omega) (Nat.le_refl _)).2 k)), ih]
theorem erL_congr {tx ty : Nat → Int} {n : Nat} (h : ∀ j, j < n → tx j = ty j) : ∀ l, l ≤ n → erL tx n l = erL ty n l
  | 0, _ => rfl
  | l + 1, hl => by
    have ih := erL_congr h l (by omega)
    unfold erL
    rw [ear_congr h (by omega), ih]
theorem endL_congr {tx ty : Nat → Int} {n : Nat} (h : ∀ j, j < n → tx j = ty j) (most : Nat) : endL tx most n = endL ty most n := erL_congr h _ (Nat.min_le_left _ _)
theorem plL_congr {tx ty : Nat → Int} {n : Nat} (h : ∀ j, j < n → tx j = ty j) (most : Nat) : plL tx most n = plL ty most n := by
  have hl := (endL_le ty most n).1
  unfold plL
  rw [endL_congr h most]
  split
  · rfl
  · rw [rn_congr hl h]
    exact dwn_congr _ (fun q _ h2 => Hd_congr h _ _ (by omega))
theorem chR_congr (R : List (Int × Int)) {t s : Nat → Int} : ∀ m, (∀ j, j < m → t j = s j) → chR R t m = chR R s m
  | 0, _ => rfl
  | m + 1, h => by
    unfold chR
    rw [chR_congr R m (fun j hj => h j (by omega)), h m (by omega)]
theorem prR_congr {tx ty : Nat → Int} {n : Nat} (h : ∀ j, j < n → tx j = ty j) (d : Nat) (L : List Nat) : prR tx n d L = prR ty n d L := by
  have key : ∀ (L : List Nat) (R : List (Int × Int)), L.foldl (fun R q => chR R (fun j => tx (q + j)) (cnN n d R q)) R = L.foldl (fun R q => chR R (fun j => ty (q + j)) (cnN n d R q)) R := by
    intro L
    induction L with
    | nil => exact fun R => rfl
    | cons q r ih =>
      intro R
      rw [List.foldl_cons, List.foldl_cons, chR_congr R (s := fun j => ty (q + j)) _ (fun j hj => h _ (by unfold cnN at hj; omega))]
      exact ih _
  exact key L []
theorem prO_congr {tx ty : Nat → Int} {n : Nat} (h : ∀ j, j < n → tx j = ty j) (most : Nat) (ways deep : Int) : prO tx most n ways deep = prO ty most n ways deep := by
  unfold prO
  rw [plL_congr h most, prR_congr h]
theorem Idx.under {w w' : World} {X : Nat} {S : Nat → Prop} {most n : Nat} {tx : Nat → Int} {A : Nat → Nat} (h : Idx w X S most n tx A) {base : Nat} (f : Below base w w') (hS : ∀ b, S b → b < base) : Idx w' X S most n tx A :=
  h.chg (T := fun b => base ≤ b) ⟨f.mono (Nat.zero_le _), fun b _ hT => f.block b (by omega)⟩ (fun b hb hT => by have := hS b hb; omega)
theorem rd_lit1 (w : World) (t : TypeId) (x : Int) : RdA (w.alloc (.cells #[.int .i64 x] t)) (some ⟨w.heap.size, 0, none⟩) 1 1 1 (fun _ => .int .i64 x) := by
  refine ⟨by omega, by unfold maxLen; omega, fun _ => ⟨_, 0, rfl, fun j hj => ?_⟩⟩
  unfold World.cell?
  rw [World.alloc_heap_new]
  match j, hj with
  | 0, _ => rfl
theorem eqInts_same {w : World} {ao bo : Option Addr} {n ca cb : Nat} {L : List Nat} (ha : RdA w ao 1 n ca (qF L)) (hb : RdA w bo 1 n cb (qF L)) : Calls Try.prog 13 #[.slice ao n ca, .slice bo n cb] w fun e w' => e = .returned (.bool true) ∧ Below w.heap.size w w' := by
  refine (eqInts_any (f := fun i => ((L.getD i 0 : Nat) : Int)) (g := fun i => ((L.getD i 0 : Nat) : Int)) ha hb).mono ?_
  rintro e w' ⟨⟨r, rfl, hr⟩, h⟩
  rw [hr.2 ⟨rfl, fun _ _ => rfl⟩]
  exact ⟨rfl, h⟩
theorem rda_low {w : World} {ao : Option Addr} {n c : Nat} {cs : Nat → Value} (h : RdA w ao 1 n c cs) : ∀ b o, ao = some ⟨b, o, none⟩ → 0 < n → b < w.heap.size := fun b o e hn => by
  subst e
  obtain ⟨b', o', e', h1⟩ := h.one hn
  cases e'
  exact lt_of_cell (h1 0 hn)
/-- an index grown token by token, all of its blocks at or behind base -/
def Gr (base : Nat) (wB w : World) (Y k i : Nat) (f : Nat → Int) : Prop := ∃ S A, Idx w Y S k i f A ∧ (∀ b, S b → base ≤ b) ∧ Below base wB w
theorem Gr.step {base : Nat} {wB w w' : World} {Y k i : Nat} {f : Nat → Int} {S : Nat → Prop} {A : Nat → Nat} (hS : ∀ b, S b → base ≤ b) (hb : Below base wB w) (hB : base ≤ w.heap.size) {t : Nat → Int} {m : Nat} {ty : Nat → Int} (h : IdP w w' Y S k i (i + m) (apT f i t) A) (e : ∀ j, j < i + m → apT f i t j = ty j) : Gr base wB w' Y k (i + m) ty := by
  obtain ⟨S', A', h1, h2, h3, h4, _⟩ := h.ex
  exact ⟨S', A', h1.text e, fun b hb' => by rcases h4 b hb' with h | h; exact hS b h; omega, h2.below hb hB hS⟩
end Go.Proofs.Ytbpldnlafilbbab
