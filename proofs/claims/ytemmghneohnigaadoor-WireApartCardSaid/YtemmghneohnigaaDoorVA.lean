import Derived.Test.YtemmghneohnigaaDoorPS
import Derived.Test.YtemmghneohnigaaDoorWrJ
import Derived.Deep.RegionLaw
namespace Go.Proofs.YtemmghneohnigaaDoor
open Go.RowKit
/-! Parse as data: the reader's steps. -/
/-- nothing, or a blank ahead -/
def Hd (r : List Int) : Prop := r = [] ∨ ∃ z, r = 32 :: z
/-- a part of a text, of a kind G: G a r r': r begins with the part a, and r' is left. -/
def StepR {α : Type} (G : α → List Int → List Int → Prop) (s : Option (List Int)) (a : α) (s' : Option (List Int)) : Prop :=
  (∃ r r', s = some r ∧ G a r r' ∧ s' = some r') ∨ (s' = none ∧ ¬ ∃ r b r', s = some r ∧ G b r r')
def DetG {α : Type} (G : α → List Int → List Int → Prop) : Prop := ∀ a b r r1 r2, G a r r1 → G b r r2 → a = b ∧ r1 = r2
theorem StepR.forced {α : Type} {G : α → List Int → List Int → Prop} (hd : DetG G) {s : Option (List Int)} {a b : α} {s' : Option (List Int)} {r r2 : List Int} (h : StepR G s a s') (e : s = some r) (hb : G b r r2) : a = b ∧ s' = some r2 := by
  rcases h with ⟨q, q', e1, g, rfl⟩ | ⟨_, hn⟩
  · rw [e] at e1; cases e1
    obtain ⟨h1, h2⟩ := hd a b r q' r2 g hb
    exact ⟨h1, by rw [h2]⟩
  · exact absurd ⟨r, b, r2, e, hb⟩ hn
theorem StepR.good {α : Type} {G : α → List Int → List Int → Prop} {s : Option (List Int)} {a : α} {r' : List Int} (h : StepR G s a (some r')) : ∃ r, s = some r ∧ G a r r' := by
  rcases h with ⟨r, q, e, g, e2⟩ | ⟨e, _⟩
  · cases e2; exact ⟨r, e, g⟩
  · cases e
def GNum (n : Int) (r r' : List Int) : Prop := (-9223372036854775808 ≤ n ∧ n ≤ 9223372036854775807) ∧ r = 32 :: (numL n ++ r') ∧ Hd r'
def GId (n : Int) (r r' : List Int) : Prop := (0 ≤ n ∧ n ≤ 2147483647) ∧ r = 32 :: (numL n ++ r') ∧ Hd r'
def GSeed (n : Nat) (r r' : List Int) : Prop := n < 18446744073709551616 ∧ r = 32 :: (decL n ++ r') ∧ Hd r'
def GLit (b : List Int) (r r' : List Int) : Prop := Byt b ∧ r = 32 :: (lit b ++ r')
theorem dw_hd (r : List Int) : Hd (dw r) := by
  unfold dw
  induction r with
  | nil => exact .inl rfl
  | cons x r ih =>
    by_cases e : x = 32
    · exact .inr ⟨r, by simp [e]⟩
    · simpa [List.dropWhile, e] using ih
theorem tw_hd {a r : List Int} (h : ∀ x ∈ a, x ≠ 32) (hr : Hd r) : tw (a ++ r) = a ∧ dw (a ++ r) = r := by
  rcases hr with rfl | ⟨z, rfl⟩
  · rw [List.append_nil]; exact tw_all h
  · exact tw_app h
theorem numsU_inj {a b : List UInt8} (h : numsU a = numsU b) : a = b := by
  rw [← numsU_data a, ← numsU_data b, h]
theorem numL_inj {m n : Int} (hm : -9223372036854775808 ≤ m ∧ m ≤ 9223372036854775807) (hn : -9223372036854775808 ≤ n ∧ n ≤ 9223372036854775807) (h : numL m = numL n) : m = n := by
  have e : Lib.itoa m = Lib.itoa n := numsU_inj h
  have h1 := intB_itoa hm.1 hm.2
  have h2 := intB_itoa hn.1 hn.2
  rw [e, h2] at h1
  injection h1 with h1
  exact h1.symm
theorem decL_no32 (u : Nat) : ∀ x ∈ decL u, x ≠ 32 := by rw [← numL_pos]; exact itoa_no32 _
theorem decL_inj {m n : Nat} (hm : m < 18446744073709551616) (hn : n < 18446744073709551616) (h : decL m = decL n) : m = n := by
  have e : Lib.decDigits m = Lib.decDigits n := numsU_inj h
  have h1 := uintB_dec (u := m) (by omega)
  have h2 := uintB_dec (u := n) (by omega)
  rw [e, h2] at h1
  injection h1 with h1
  exact h1.symm
theorem numAt_iff {r : List Int} : (∃ n, NumAt r n) ↔ ∃ n r', GNum n r r' := by
  constructor
  · rintro ⟨n, h0, h1, q, rfl, ht⟩
    exact ⟨n, dw q, ⟨h0, h1⟩, by rw [← ht, tw_dw], dw_hd q⟩
  · rintro ⟨n, r', ⟨h0, h1⟩, rfl, hr⟩
    exact ⟨n, h0, h1, _, rfl, (tw_hd (itoa_no32 n) hr).1⟩
theorem det_num : DetG GNum := by
  rintro a b r r1 r2 ⟨ha, rfl, h1⟩ ⟨hb, e, h2⟩
  have e' := (List.cons.inj e).2
  have t1 := tw_hd (itoa_no32 a) h1
  have t2 := tw_hd (itoa_no32 b) h2
  rw [e'] at t1
  exact ⟨numL_inj ha hb (t1.1.symm.trans t2.1), t1.2.symm.trans t2.2⟩
theorem det_id : DetG GId := by
  rintro a b r r1 r2 ⟨ha, e1, h1⟩ ⟨hb, e2, h2⟩
  exact det_num a b r r1 r2 ⟨by omega, e1, h1⟩ ⟨by omega, e2, h2⟩
theorem det_seed : DetG GSeed := by
  rintro a b r r1 r2 ⟨ha, rfl, h1⟩ ⟨hb, e, h2⟩
  have e' := (List.cons.inj e).2
  have t1 := tw_hd (decL_no32 a) h1
  have t2 := tw_hd (decL_no32 b) h2
  rw [e'] at t1
  exact ⟨decL_inj ha hb (t1.1.symm.trans t2.1), t1.2.symm.trans t2.2⟩
theorem det_lit : DetG GLit := by
  rintro a b r r1 r2 ⟨ha, rfl⟩ ⟨hb, e⟩
  have e' := (List.cons.inj e).2
  have h1 : UnqP (lit a ++ r1) a := UnqP.of ha
  have h2 : UnqP (lit a ++ r1) b := by rw [e']; exact UnqP.of hb
  obtain rfl := h1.uniq h2
  exact ⟨rfl, List.append_cancel_left e'⟩
/-- many parts of a kind -/
inductive ManyR {α : Type} (G : α → List Int → List Int → Prop) : Option (List Int) → List α → Option (List Int) → Prop
  | nil (s : Option (List Int)) : ManyR G s [] s
  | snoc {s s1 s2 : Option (List Int)} {l : List α} {a : α} : ManyR G s l s1 → StepR G s1 a s2 → ManyR G s (l ++ [a]) s2
/-- the same, where it goes well -/
inductive ManyG {α : Type} (G : α → List Int → List Int → Prop) : List Int → List α → List Int → Prop
  | nil (r : List Int) : ManyG G r [] r
  | snoc {r r1 r2 : List Int} {l : List α} {a : α} : ManyG G r l r1 → G a r1 r2 → ManyG G r (l ++ [a]) r2
theorem ManyR.good {α : Type} {G : α → List Int → List Int → Prop} {s : Option (List Int)} {l : List α} {s' : Option (List Int)} (h : ManyR G s l s') : ∀ r', s' = some r' → ∃ r, s = some r ∧ ManyG G r l r' := by
  induction h with
  | nil => intro r' e; exact ⟨r', e, .nil _⟩
  | snoc _ hs ih =>
    intro r' e
    subst e
    obtain ⟨r1, e1, g⟩ := hs.good
    obtain ⟨r, e2, m⟩ := ih r1 e1
    exact ⟨r, e2, .snoc m g⟩
theorem ManyR.forced {α : Type} {G : α → List Int → List Int → Prop} (hd : DetG G) {s : Option (List Int)} {l : List α} {s' : Option (List Int)} (h : ManyR G s l s') : ∀ {r r2 : List Int} {l' : List α}, s = some r → ManyG G r l' r2 → l'.length = l.length → l = l' ∧ s' = some r2 := by
  induction h with
  | nil =>
    intro r r2 l' e m hl
    cases m with
    | nil => exact ⟨rfl, e⟩
    | snoc _ _ => simp at hl
  | snoc _ hs ih =>
    intro r r2 l' e m hl
    cases m with
    | nil => simp at hl
    | snoc m g =>
      obtain ⟨rfl, e1⟩ := ih e m (by simpa using hl)
      obtain ⟨rfl, e2⟩ := hs.forced hd e1 g
      exact ⟨rfl, e2⟩
/-- the stops: as long as something is left -/
inductive StsR : Option (List Int) → List (List Int) → Option (List Int) → Prop
  | nil (s : Option (List Int)) : StsR s [] s
  | snoc {s s2 : Option (List Int)} {r1 : List Int} {l : List (List Int)} {a : List Int} : StsR s l (some r1) → r1 ≠ [] → StepR GLit (some r1) a s2 → StsR s (l ++ [a]) s2
theorem stL_app (a b : List (List Int)) : stL (a ++ b) = stL a ++ stL b := by unfold stL; exact List.flatMap_append
theorem stL_one (x : List Int) : stL [x] = 32 :: lit x := by simp [stL]
theorem StsR.good {s : Option (List Int)} {l : List (List Int)} {s' : Option (List Int)} (h : StsR s l s') : ∀ r', s' = some r' → s = some (stL l ++ r') ∧ ∀ x ∈ l, Byt x := by
  induction h with
  | nil => intro r' e; exact ⟨by simpa [stL] using e, fun x hx => nomatch hx⟩
  | @snoc s2 r1 l a _ _ hs ih =>
    intro r' e
    subst e
    obtain ⟨r, e1, hb, g⟩ := hs.good
    cases e1
    obtain ⟨h1, h2⟩ := ih r1 rfl
    refine ⟨?_, fun x hx => ?_⟩
    · rw [h1, g, stL_app, stL_one]; simp
    · rcases List.mem_append.1 hx with hx | hx
      · exact h2 x hx
      · rw [List.mem_singleton.1 hx]; exact hb
theorem StsR.forced {s : Option (List Int)} {l : List (List Int)} {s' : Option (List Int)} (h : StsR s l s') : ∀ {l' : List (List Int)}, s = some (stL l') → (∀ x ∈ l', Byt x) → ∃ l2, l' = l ++ l2 ∧ s' = some (stL l2) := by
  induction h with
  | nil => intro l' e _; exact ⟨l', rfl, e⟩
  | @snoc s2 r1 l a _ hne hs ih =>
    intro l' e hb
    obtain ⟨l2, rfl, e2⟩ := ih e hb
    cases l2 with
    | nil => cases e2; exact absurd rfl hne
    | cons x l3 =>
      have hx : Byt x := hb x (by simp)
      have e3 : stL (x :: l3) = 32 :: (lit x ++ stL l3) := by simp [stL]
      rw [e3] at e2
      obtain ⟨rfl, e4⟩ := hs.forced det_lit e2 ⟨hx, rfl⟩
      exact ⟨l3, by simp, e4⟩
/-- the numbers of a line -/
def nmL (nums : List Int) : List Int := nums.flatMap (fun x => 32 :: numL x)
theorem nmL_app (a b : List Int) : nmL (a ++ b) = nmL a ++ nmL b := by unfold nmL; exact List.flatMap_append
theorem hdL_eq (k : Nat) (n : Int) (nums : List Int) : hdL k n nums = wNm k ++ 32 :: (numL n ++ nmL nums) := by
  have h : ∀ (l a : List Int), l.foldl pn a = a ++ nmL l := by
    intro l
    induction l with
    | nil => intro a; simp [nmL]
    | cons x r ih => intro a; rw [List.foldl_cons, ih]; simp [pn, nmL]
  unfold hdL
  rw [h]
  simp
theorem many_num : ∀ (nums r : List Int), Hd r → (∀ x ∈ nums, -9223372036854775808 ≤ x ∧ x ≤ 9223372036854775807) → ManyG GNum (nmL nums ++ r) nums r := by
  intro nums
  have key : ∀ (m : Nat) (nums r : List Int), nums.length = m → Hd r → (∀ x ∈ nums, -9223372036854775808 ≤ x ∧ x ≤ 9223372036854775807) → ManyG GNum (nmL nums ++ r) nums r := by
    intro m
    induction m with
    | zero =>
      intro nums r hl _ _
      obtain rfl := List.length_eq_zero_iff.1 hl
      exact .nil _
    | succ m ih =>
      intro nums r hl hr hb
      rcases List.eq_nil_or_concat nums with rfl | ⟨l, a, rfl⟩
      · simp at hl
      · have e : nmL (l ++ [a]) ++ r = nmL l ++ (32 :: (numL a ++ r)) := by rw [nmL_app]; simp [nmL]
        simp only [List.concat_eq_append] at *
        rw [e]
        refine .snoc (ih l (32 :: (numL a ++ r)) (by simpa using hl) (.inr ⟨_, rfl⟩) (fun x hx => hb x (by simp [hx]))) ⟨hb a (by simp), rfl, hr⟩
  intro r hr hb
  exact key _ nums r rfl hr hb
theorem ManyG.num {r r' nums : List Int} (h : ManyG GNum r nums r') : r = nmL nums ++ r' ∧ (∀ x ∈ nums, -9223372036854775808 ≤ x ∧ x ≤ 9223372036854775807) := by
  induction h with
  | nil => exact ⟨by simp [nmL], fun x hx => nomatch hx⟩
  | snoc _ g ih =>
    obtain ⟨hb, e, _⟩ := g
    refine ⟨?_, fun x hx => ?_⟩
    · rw [ih.1, e, nmL_app]; simp [nmL]
    · rcases List.mem_append.1 hx with hx | hx
      · exact ih.2 x hx
      · rw [List.mem_singleton.1 hx]; exact hb
/-- a line with its bounds, and its text -/
structure LineQ (k : Nat) (n : Int) (nums : List Int) (u : Nat) (g t : List Int) (st : List (List Int)) (x : List Int) : Prop where
  line : LineP (wNm k) n nums u g t st x
  kk : k < 6
  nr : ∀ y ∈ nums, -9223372036854775808 ≤ y ∧ y ≤ 9223372036854775807
  us : u < 18446744073709551616
  bg : Byt g
  bt : Byt t
  bs : ∀ s ∈ st, Byt s
end Go.Proofs.YtemmghneohnigaaDoor
namespace Go.Proofs.YtemmghneohnigaaDoor
open Go.RowKit
/-! Parse as data: lines found. The reader's calls in every way. -/
/-- what stands behind a line's numbers -/
def bhL (k u : Nat) (g t : List Int) (st : List (List Int)) : List Int := if k = 0 then 32 :: (decL u ++ 32 :: (lit g ++ 32 :: (lit t ++ stL st))) else if k = 4 then 32 :: lit t else []
theorem bhL_hd (k u : Nat) (g t : List Int) (st : List (List Int)) : Hd (bhL k u g t st) := by
  unfold bhL
  split
  · exact .inr ⟨_, rfl⟩
  · split
    · exact .inr ⟨_, rfl⟩
    · exact .inl rfl
theorem line_form (k : Nat) (n : Int) (nums : List Int) (u : Nat) (g t : List Int) (st : List (List Int)) : lineL k n nums u g t st = wNm k ++ 32 :: (numL n ++ (nmL nums ++ bhL k u g t st)) := by
  unfold lineL bhL
  rw [hdL_eq]
  split
  · simp
  · split <;> simp
theorem nm_no32 {k : Nat} (hk : k < 6) : ∀ x ∈ wNm k, x ≠ 32 := by
  match k, hk with
  | 0, _ => decide
  | 1, _ => decide
  | 2, _ => decide
  | 3, _ => decide
  | 4, _ => decide
  | 5, _ => decide
theorem LineQ.form {k : Nat} {n : Int} {nums : List Int} {u : Nat} {g t : List Int} {st : List (List Int)} {x : List Int} (h : LineQ k n nums u g t st x) : (0 ≤ n ∧ n ≤ 2147483647) ∧ nums.length = cntW k ∧ onlyW k u g t st ∧ x = wNm k ++ 32 :: (numL n ++ (nmL nums ++ bhL k u g t st)) ∧ x.length ≤ 8192 := by
  obtain ⟨j, hj, ej, h1, h2, h3, e, h4⟩ := h.line
  obtain rfl := nm_inj h.kk hj ej
  exact ⟨h1, h2, h3, by rw [e, line_form], h4⟩
theorem nmL_hd {nums r : List Int} (h : Hd r) : Hd (nmL nums ++ r) := by
  cases nums with
  | nil => simpa [nmL] using h
  | cons x l => exact .inr ⟨_, by simp [nmL]; rfl⟩
section
variable {text : List Int} {k : Nat} {n : Int} {nums : List Int} {s1 s2 : Option (List Int)}
theorem head_forced (hk : k < 6) (ht : tw text = wNm k) (h1 : StepR GId (some (dw text)) n s1) (h2 : ManyR GNum s1 nums s2) (hl : nums.length = cntW k) {k' : Nat} {n' : Int} {nums' : List Int} {u : Nat} {g t : List Int} {st : List (List Int)} (h : LineQ k' n' nums' u g t st text) : k' = k ∧ n' = n ∧ nums' = nums ∧ s2 = some (bhL k u g t st) ∧ onlyW k u g t st := by
  obtain ⟨f1, f2, f3, f4, f5⟩ := h.form
  have hr := nmL_hd (nums := nums') (bhL_hd k' u g t st)
  have tt := tw_hd (nm_no32 h.kk) (r := 32 :: (numL n' ++ (nmL nums' ++ bhL k' u g t st))) (.inr ⟨_, rfl⟩)
  rw [← f4] at tt
  obtain rfl := nm_inj hk h.kk (ht.symm.trans tt.1)
  obtain ⟨rfl, e1⟩ := h1.forced det_id (by rw [tt.2]) ⟨f1, rfl, hr⟩
  obtain ⟨rfl, e2⟩ := h2.forced det_num e1 (many_num nums' _ (bhL_hd k u g t st) h.nr) (by rw [f2, hl])
  exact ⟨rfl, rfl, rfl, e2, f3⟩
theorem head_good (ht : tw text = wNm k) (h1 : StepR GId (some (dw text)) n s1) (h2 : ManyR GNum s1 nums s2) {r2 : List Int} (e : s2 = some r2) : (0 ≤ n ∧ n ≤ 2147483647) ∧ (∀ y ∈ nums, -9223372036854775808 ≤ y ∧ y ≤ 9223372036854775807) ∧ text = wNm k ++ 32 :: (numL n ++ (nmL nums ++ r2)) := by
  obtain ⟨r1, e1, m⟩ := h2.good r2 e
  subst e1
  obtain ⟨r0, e0, hb, e3, _⟩ := h1.good
  cases e0
  obtain ⟨e4, hn⟩ := m.num
  refine ⟨hb, hn, ?_⟩
  rw [← e4, ← e3, ← ht, tw_dw]
/-- the line that was read, and what is left of the text -/
def Found (text : List Int) (k : Nat) (n : Int) (nums : List Int) (u : Nat) (g t : List Int) (st : List (List Int)) (s : Option (List Int)) : Prop :=
  (s = some [] → LineQ k n nums u g t st text) ∧ (∀ k' n' nums' u' g' t' st', LineQ k' n' nums' u' g' t' st' text → s = some [] ∧ k' = k ∧ n' = n ∧ nums' = nums ∧ u' = u ∧ g' = g ∧ t' = t ∧ st' = st)
theorem found_N (hk : k < 6) (k0 : k ≠ 0) (k4 : k ≠ 4) (hlen : text.length ≤ 8192) (ht : tw text = wNm k) (h1 : StepR GId (some (dw text)) n s1) (h2 : ManyR GNum s1 nums s2) (hl : nums.length = cntW k) : Found text k n nums 0 [] [] [] s2 := by
  have e0 : bhL k 0 [] [] [] = [] := by unfold bhL; rw [if_neg k0, if_neg k4]
  refine ⟨fun e => ?_, fun k' n' nums' u g t st h => ?_⟩
  · obtain ⟨a, b, c⟩ := head_good ht h1 h2 e
    refine ⟨⟨k, hk, rfl, a, hl, by unfold onlyW; rw [if_neg k0, if_neg k4]; exact ⟨rfl, rfl, rfl, rfl⟩, ?_, hlen⟩, hk, b, by omega, byt_nil, byt_nil, fun s hs => nomatch hs⟩
    rw [line_form, e0]; exact c
  · obtain ⟨rfl, rfl, rfl, e, ho⟩ := head_forced hk ht h1 h2 hl h
    unfold onlyW at ho
    rw [if_neg k0, if_neg k4] at ho
    obtain ⟨rfl, rfl, rfl, rfl⟩ := ho
    rw [e0] at e
    exact ⟨e, rfl, rfl, rfl, rfl, rfl, rfl, rfl⟩
theorem found_T (hlen : text.length ≤ 8192) (ht : tw text = wNm 4) (h1 : StepR GId (some (dw text)) n s1) (h2 : ManyR GNum s1 nums s2) (hl : nums.length = cntW 4) {t : List Int} {s3 : Option (List Int)} (h3 : StepR GLit s2 t s3) : Found text 4 n nums 0 [] t [] s3 := by
  refine ⟨fun e => ?_, fun k' n' nums' u g t' st h => ?_⟩
  · subst e
    obtain ⟨r2, rfl, hb, e3⟩ := h3.good
    obtain ⟨a, b, c⟩ := head_good ht h1 h2 rfl
    refine ⟨⟨4, by omega, rfl, a, hl, ⟨rfl, rfl, rfl⟩, ?_, hlen⟩, by omega, b, by omega, byt_nil, hb, fun s hs => nomatch hs⟩
    rw [line_form]
    rw [c, e3]
    simp [bhL]
  · obtain ⟨rfl, rfl, rfl, e, ho⟩ := head_forced (by omega) ht h1 h2 hl h
    obtain ⟨rfl, rfl, rfl⟩ : u = 0 ∧ g = [] ∧ st = [] := ho
    obtain ⟨rfl, e4⟩ := h3.forced det_lit e ⟨h.bt, by simp [bhL]; rfl⟩
    exact ⟨e4, rfl, rfl, rfl, rfl, rfl, rfl, rfl⟩
theorem found_A (hlen : text.length ≤ 8192) (ht : tw text = wNm 0) (h1 : StepR GId (some (dw text)) n s1) (h2 : ManyR GNum s1 nums s2) (hl : nums.length = cntW 0) {u : Nat} {g t : List Int} {st : List (List Int)} {s3 s4 s5 s6 : Option (List Int)} (h3 : StepR GSeed s2 u s3) (h4 : StepR GLit s3 g s4) (h5 : StepR GLit s4 t s5) (h6 : StsR s5 st s6) (h7 : s6.getD [] = []) : Found text 0 n nums u g t st s6 := by
  refine ⟨fun e => ?_, fun k' n' nums' u' g' t' st' h => ?_⟩
  · obtain ⟨e5, hs⟩ := h6.good [] e
    subst e5
    obtain ⟨r4, rfl, hbt, e4⟩ := h5.good
    obtain ⟨r3, rfl, hbg, e3⟩ := h4.good
    obtain ⟨r2, rfl, hu, e2, _⟩ := h3.good
    obtain ⟨a, b, c⟩ := head_good ht h1 h2 rfl
    refine ⟨⟨0, by omega, rfl, a, hl, trivial, ?_, hlen⟩, by omega, b, hu, hbg, hbt, hs⟩
    rw [line_form, c, e2, e3, e4]
    simp [bhL]
  · obtain ⟨rfl, rfl, rfl, e, ho⟩ := head_forced (by omega) ht h1 h2 hl h
    have e' : bhL 0 u' g' t' st' = 32 :: (decL u' ++ 32 :: (lit g' ++ 32 :: (lit t' ++ stL st'))) := rfl
    rw [e'] at e
    obtain ⟨rfl, q3⟩ := h3.forced det_seed e ⟨h.us, rfl, .inr ⟨_, rfl⟩⟩
    obtain ⟨rfl, q4⟩ := h4.forced det_lit q3 ⟨h.bg, rfl⟩
    obtain ⟨rfl, q5⟩ := h5.forced det_lit q4 ⟨h.bt, rfl⟩
    obtain ⟨l2, rfl, q6⟩ := h6.forced q5 h.bs
    rw [q6] at h7
    have : l2 = [] := by
      cases l2 with
      | nil => rfl
      | cons x l => simp [stL] at h7
    subst this
    exact ⟨by rw [q6]; rfl, rfl, rfl, rfl, rfl, rfl, rfl, by simp⟩
end
/-- no line: its word is none -/
theorem none_word {text : List Int} (h : ∀ k, k < 6 → tw text ≠ wNm k) : ¬ ∃ k n nums u g t st, LineQ k n nums u g t st text := by
  rintro ⟨k, n, nums, u, g, t, st, q⟩
  obtain ⟨_, _, _, e, _⟩ := q.form
  have tt := tw_hd (nm_no32 q.kk) (r := 32 :: (numL n ++ (nmL nums ++ bhL k u g t st))) (.inr ⟨_, rfl⟩)
  rw [← e] at tt
  exact h k q.kk tt.1
theorem none_long {text : List Int} (h : 8192 < text.length) : ¬ ∃ k n nums u g t st, LineQ k n nums u g t st text := by
  rintro ⟨k, n, nums, u, g, t, st, q⟩
  have := q.form.2.2.2.2
  omega
/-- the reader: its text, or that it has failed -/
def RdO (w : World) (rb : Nat) (s : Option (List Int)) : Prop := Rdr w rb (s.getD []) s.isNone
/-- what is left is bytes, not too many -/
def Okl (s : Option (List Int)) : Prop := ∀ r, s = some r → Byt r ∧ r.length ≤ 8192
theorem RdO.chg {w w' : World} {rb : Nat} {s : Option (List Int)} {S : Nat → Prop} (h : RdO w rb s) (c : Chg w w' S) (hS : ¬ S rb) : RdO w' rb s := Rdr.chg h c hS
theorem RdO.fresh {w w' : World} {rb : Nat} {s : Option (List Int)} (h : RdO w rb s) (c : Below w.heap.size w w') : RdO w' rb s := Rdr.fresh h c
theorem Okl.num {s s' : Option (List Int)} {n : Int} (h : Okl s) (k : StepR GNum s n s') : Okl s' := fun r e => by
  subst e
  obtain ⟨q, rfl, _, e2, _⟩ := k.good
  obtain ⟨h1, h2⟩ := h q rfl
  subst e2
  refine ⟨fun x hx => h1 x (by simp [hx]), ?_⟩
  simp at h2
  omega
theorem Okl.lit {s s' : Option (List Int)} {b : List Int} (h : Okl s) (k : StepR GLit s b s') : Okl s' := fun r e => by
  subst e
  obtain ⟨q, rfl, _, e2⟩ := k.good
  obtain ⟨h1, h2⟩ := h q rfl
  subst e2
  refine ⟨fun x hx => h1 x (by simp [hx]), ?_⟩
  simp at h2
  omega
theorem Okl.seed {s s' : Option (List Int)} {n : Nat} (h : Okl s) (k : StepR GSeed s n s') : Okl s' := fun r e => by
  subst e
  obtain ⟨q, rfl, _, e2, _⟩ := k.good
  obtain ⟨h1, h2⟩ := h q rfl
  subst e2
  refine ⟨fun x hx => h1 x (by simp [hx]), ?_⟩
  simp at h2
  omega
theorem Okl.id {s s' : Option (List Int)} {n : Int} (h : Okl s) (k : StepR GId s n s') : Okl s' := fun r e => by
  subst e
  obtain ⟨q, rfl, _, e2, _⟩ := k.good
  obtain ⟨h1, h2⟩ := h q rfl
  subst e2
  refine ⟨fun x hx => h1 x (by simp [hx]), ?_⟩
  simp at h2
  omega
theorem number_u {w : World} {rb : Nat} {s : Option (List Int)} (h : RdO w rb s) (hs : Okl s) (h6 : 6 ≤ rb) (hE : Env w) :
    Calls Tryd.prog 36 #[.pointer (some ⟨rb, 0, none⟩)] w fun e w' => ∃ n s', e = .returned (.int .i64 n) ∧ StepR GNum s n s' ∧ RdO w' rb s' ∧ Chg w w' (fun b => b = rb) := by
  cases s with
  | none =>
    refine (number_bad h byt_nil (by simp) h6 hE (by rintro ⟨n, _, _, q, e, _⟩; cases e)).mono ?_
    rintro e w' ⟨⟨n, rfl⟩, h1, h2⟩
    exact ⟨n, none, rfl, .inr ⟨rfl, by rintro ⟨r, b, r', e, _⟩; cases e⟩, h1, h2⟩
  | some r =>
    obtain ⟨hB, hl⟩ := hs r rfl
    by_cases hn : ∃ n, NumAt r n
    · obtain ⟨n, h0, h1, q, rfl, ht⟩ := hn
      refine (number_ok h (fun x hx => hB x (by simp [hx])) (by simp at hl; omega) h6 hE h0 h1 ht).mono ?_
      rintro e w' ⟨rfl, h2, h3⟩
      exact ⟨n, some (dw q), rfl, .inl ⟨_, _, rfl, ⟨⟨h0, h1⟩, by rw [← ht, tw_dw], dw_hd q⟩, rfl⟩, h2, h3⟩
    · refine (number_bad h hB (by simp; omega) h6 hE hn).mono ?_
      rintro e w' ⟨⟨n, rfl⟩, h1, h2⟩
      refine ⟨n, none, rfl, .inr ⟨rfl, ?_⟩, h1, h2⟩
      rintro ⟨r2, b, r', e, g⟩
      cases e
      exact hn (numAt_iff.2 ⟨b, r', g⟩)
theorem id_u {w : World} {rb : Nat} {s : Option (List Int)} (h : RdO w rb s) (hs : Okl s) (h6 : 6 ≤ rb) (hE : Env w) :
    Calls Tryd.prog 35 #[.pointer (some ⟨rb, 0, none⟩)] w fun e w' => ∃ n s', e = .returned (.int .i64 n) ∧ StepR GId s n s' ∧ RdO w' rb s' ∧ Chg w w' (fun b => b = rb) := by
  cases s with
  | none =>
    refine (id_bad h byt_nil (by simp) h6 hE (by rintro ⟨n, ⟨_, _, q, e, _⟩, _⟩; cases e)).mono ?_
    rintro e w' ⟨⟨n, rfl⟩, h1, h2⟩
    exact ⟨n, none, rfl, .inr ⟨rfl, by rintro ⟨r, b, r', e, _⟩; cases e⟩, h1, h2⟩
  | some r =>
    obtain ⟨hB, hl⟩ := hs r rfl
    by_cases hn : ∃ n, NumAt r n ∧ 0 ≤ n ∧ n ≤ 2147483647
    · obtain ⟨n, ⟨_, _, q, rfl, ht⟩, h0, h1⟩ := hn
      refine (id_ok h (fun x hx => hB x (by simp [hx])) (by simp at hl; omega) h6 hE h0 h1 ht).mono ?_
      rintro e w' ⟨rfl, h2, h3⟩
      exact ⟨n, some (dw q), rfl, .inl ⟨_, _, rfl, ⟨⟨h0, h1⟩, by rw [← ht, tw_dw], dw_hd q⟩, rfl⟩, h2, h3⟩
    · refine (id_bad h hB (by simp; omega) h6 hE hn).mono ?_
      rintro e w' ⟨⟨n, rfl⟩, h1, h2⟩
      refine ⟨n, none, rfl, .inr ⟨rfl, ?_⟩, h1, h2⟩
      rintro ⟨r2, b, r', e, g0, g1, g2⟩
      cases e
      exact hn ⟨b, ⟨by omega, by omega, _, g1, (tw_hd (itoa_no32 b) g2).1⟩, g0⟩
theorem seed_u {w : World} {rb : Nat} {s : Option (List Int)} (h : RdO w rb s) (hs : Okl s) (h6 : 6 ≤ rb) (hE : Env w) :
    Calls Tryd.prog 78 #[.pointer (some ⟨rb, 0, none⟩)] w fun e w' => ∃ (n : Nat) (s' : Option (List Int)), n < 18446744073709551616 ∧ e = .returned (.int .u64 (n : Int)) ∧ StepR GSeed s n s' ∧ RdO w' rb s' ∧ Chg w w' (fun b => b = rb) := by
  cases s with
  | none =>
    refine (seed_bad h byt_nil (by simp) h6 hE (by rintro ⟨n, _, q, e, _⟩; cases e)).mono ?_
    rintro e w' ⟨⟨n, h0, rfl⟩, h1, h2⟩
    exact ⟨n, none, h0, rfl, .inr ⟨rfl, by rintro ⟨r, b, r', e, _⟩; cases e⟩, h1, h2⟩
  | some r =>
    obtain ⟨hB, hl⟩ := hs r rfl
    by_cases hn : ∃ n, SeedAt r n
    · obtain ⟨n, h0, q, rfl, ht⟩ := hn
      refine (seed_ok h (fun x hx => hB x (by simp [hx])) (by simp at hl; omega) h6 hE h0 ht).mono ?_
      rintro e w' ⟨rfl, h2, h3⟩
      exact ⟨n, some (dw q), h0, rfl, .inl ⟨_, _, rfl, ⟨h0, by rw [← ht, tw_dw], dw_hd q⟩, rfl⟩, h2, h3⟩
    · refine (seed_bad h hB (by simp; omega) h6 hE hn).mono ?_
      rintro e w' ⟨⟨n, h0, rfl⟩, h1, h2⟩
      refine ⟨n, none, h0, rfl, .inr ⟨rfl, ?_⟩, h1, h2⟩
      rintro ⟨r2, b, r', e, g0, g1, g2⟩
      cases e
      exact hn ⟨b, g0, _, g1, (tw_hd (decL_no32 b) g2).1⟩
theorem lit_u {w : World} {rb : Nat} {s : Option (List Int)} (h : RdO w rb s) (hs : Okl s) (h6 : 6 ≤ rb) (hE : Env w) :
    Calls Tryd.prog 79 #[.pointer (some ⟨rb, 0, none⟩)] w fun e w' => ∃ b s' ao cap, e = .returned (.slice ao b.length cap) ∧ Byt b ∧ b.length ≤ 8192 ∧ StepR GLit s b s' ∧ RdO w' rb s' ∧ Own w' w.heap.size 5 1 (.slice ao b.length cap) b.length (byc b) ∧ Chg w w' (fun b => b = rb) := by
  cases s with
  | none =>
    refine (litr_bad h byt_nil (by simp) h6 hE (by rintro ⟨n, q, e, _⟩; cases e)).mono ?_
    rintro e w' ⟨rfl, h1, h2⟩
    exact ⟨[], none, none, 0, rfl, byt_nil, by simp, .inr ⟨rfl, by rintro ⟨r, b, r', e, _⟩; cases e⟩, h1, own_nil _ _ _ _ _, h2⟩
  | some r =>
    obtain ⟨hB, hl⟩ := hs r rfl
    by_cases hn : ∃ b, LitAt r b
    · obtain ⟨b, q, rfl, hu⟩ := hn
      refine (lit_ok h (fun x hx => hB x (by simp [hx])) (by simp at hl; omega) h6 hE hu).mono ?_
      rintro e w' ⟨ao, cap, rfl, h2, h3, h4⟩
      obtain ⟨hb, z, hz⟩ := hu
      have hbl : b.length ≤ 8192 := by
        have a1 := lit_len b
        have a2 := pies_len b
        have a3 := congrArg List.length hz
        simp at a3 hl
        omega
      have hd : q.drop (lit b).length = z := by rw [← hz]; simp
      exact ⟨b, some (q.drop (lit b).length), ao, cap, rfl, hb, hbl, .inl ⟨_, _, rfl, ⟨hb, by rw [hd, hz]⟩, rfl⟩, h2, h3, h4⟩
    · refine (litr_bad h hB (by simp; omega) h6 hE hn).mono ?_
      rintro e w' ⟨rfl, h1, h2⟩
      refine ⟨[], none, none, 0, rfl, byt_nil, by simp, .inr ⟨rfl, ?_⟩, h1, own_nil _ _ _ _ _, h2⟩
      rintro ⟨r2, b, r', e, g0, g1⟩
      cases e
      exact hn ⟨b, _, g1, UnqP.of g0⟩
theorem more_u {w : World} {rb : Nat} {s : Option (List Int)} (h : RdO w rb s) :
    Calls Tryd.prog 55 #[.pointer (some ⟨rb, 0, none⟩)] w fun e w' => e = .returned (.bool (!(s.getD []).isEmpty)) ∧ w' = w := more_any h
theorem ends_u {w : World} {rb : Nat} {s : Option (List Int)} (h : RdO w rb s) :
    Calls Tryd.prog 37 #[.pointer (some ⟨rb, 0, none⟩)] w fun e w' => e = .returned (.bool (decide (s = some []))) ∧ w' = w := by
  refine (ends_any h).mono ?_
  rintro e w' ⟨rfl, rfl⟩
  refine ⟨?_, rfl⟩
  congr 2
  cases s with
  | none => rfl
  | some r => cases r <;> simp
end Go.Proofs.YtemmghneohnigaaDoor
namespace Go.Proofs.YtemmghneohnigaaDoor
open Go.RowKit
/-! readAsk, readText, readNothing in every way. -/
theorem infoS : (Tryd.prog.info? 9).map (fun i => (i.zero, i.size, i.bytes)) = some (some (.string ⟨#[]⟩), 1, 16) := by kernel_rfl
/-- a list's block is no block of another type -/
theorem Own.ne_blk {w : World} {base : Nat} {e : TypeId} {sz : Nat} {v : Value} {n : Nat} {cs : Nat → Value} {b : Nat} {t : TypeId} {c2 : Array Value} (h : Own w base e sz v n cs) (hb : Blk w b t c2) (hne : e ≠ t) : v.ownBlock ≠ some b := by
  intro hv
  rcases h.2 with ⟨rfl, rfl⟩ | ⟨g, cap, cur, rfl, hb', hgg, _⟩
  · simp [Value.ownBlock] at hv
  · simp only [Value.ownBlock, Option.some.injEq] at hv
    subst hv
    unfold Blk at hb
    rw [hb] at hgg
    injection hgg with hgg
    injection hgg with _ h2
    exact hne h2.symm
theorem Own.rdaW {w : World} {base : Nat} {e : TypeId} {sz n c : Nat} {u : Option Addr} {cs : Nat → Value} (h : Own w base e sz (.slice u n c) n cs) : RdA w u sz n c cs := by
  obtain ⟨ao, cap, e1, hr⟩ := h.rd
  injection e1 with e2 _ e3
  subst e2 e3
  exact hr
theorem RdO.blk {w : World} {rb : Nat} {s : Option (List Int)} (h : RdO w rb s) : Blk w rb 72 #[.string (strOfNums (s.getD [])), .bool s.isNone] := h
/-- how much a reader has left -/
def rLen (w : World) (rb : Nat) : Nat := match w.cell? ⟨rb, 0, none⟩ with
  | some (.string x) => x.size
  | _ => 0
theorem RdO.len {w : World} {rb : Nat} {s : Option (List Int)} (h : RdO w rb s) : rLen w rb = (s.getD []).length := by
  have := h.blk.cell 0
  simp at this
  unfold rLen
  rw [this]
  exact strOfNums_size _
theorem StepR.less {s s' : Option (List Int)} {b : List Int} {r : List Int} (h : StepR GLit s b s') (e : s = some r) (hr : r ≠ []) : (s'.getD []).length < r.length := by
  rcases h with ⟨q, q', e1, ⟨_, e2⟩, rfl⟩ | ⟨rfl, _⟩
  · rw [e] at e1; cases e1
    subst e2
    have := lit_len b
    simp
    omega
  · cases r with
    | nil => exact absurd rfl hr
    | cons x l => simp
/-- what readAsk has read so far -/
structure AskI (w0 : World) (rb lb : Nat) (c0 c1 c3 : Value) (u : Nat) (g t : List Int) (ao : Option Addr) (ac : Nat) (st : List (List Int)) (co : Option Addr) (cc : Nat) (s : Option (List Int)) (wr : World) : Prop where
  rd : RdO wr rb s
  ln : Blk wr lb 38 #[c0, c1, .slice ao t.length ac, c3, .int .u64 (u : Int), .string (strOfNums g), .slice co st.length cc]
  ot : Own wr w0.heap.size 5 1 (.slice ao t.length ac) t.length (byc t)
  os : Own wr w0.heap.size 9 1 (.slice co st.length cc) st.length (stc st)
  chg : Chg w0 wr (fun b => b = rb ∨ b = lb)
  ok : Okl s
theorem stc_snoc (st : List (List Int)) (b : List Int) : stc (st ++ [b]) st.length = .string (strOfNums b) := by
  unfold stc
  simp [List.getD_eq_getElem?_getD]
theorem stc_low (st : List (List Int)) (b : List Int) {j : Nat} (h : j < st.length) : stc st j = stc (st ++ [b]) j := by
  unfold stc
  simp [List.getD_eq_getElem?_getD, List.getElem?_append_left, h]
theorem AskI.next {w0 : World} {rb lb : Nat} {c0 c1 c3 : Value} {u : Nat} {g t : List Int} {ao : Option Addr} {ac : Nat} {st : List (List Int)} {co : Option Addr} {cc : Nat} {s : Option (List Int)} {wr : World} (h : AskI w0 rb lb c0 c1 c3 u g t ao ac st co cc s wr) (hne : lb ≠ rb) (hr0 : rb < w0.heap.size) (hl0 : lb < w0.heap.size)
    {w5 : World} {s' : Option (List Int)} {b : List Int} (r5 : RdO w5 rb s') (k5 : Chg wr.drew w5 (fun b => b = rb)) (q5 : StepR GLit s b s')
    {w7 : World} {g' cap' : Nat} (o7 : Own w7 w0.heap.size 9 1 (.slice (some ⟨g', 0, none⟩) (st.length + 1) cap') (st.length + 1) (stc (st ++ [b]))) (a7 : App (w5.alloc (.cells #[.string (strOfNums b)] 9)) w7 (.slice co st.length cc) (.slice (some ⟨g', 0, none⟩) (st.length + 1) cap')) :
    w7.cell? ⟨lb, 6, none⟩ = some (.slice co st.length cc) ∧ w7.frozen? ⟨lb, 6, none⟩ = false ∧ AskI w0 rb lb c0 c1 c3 u g t ao ac (st ++ [b]) (some ⟨g', 0, none⟩) cap' s' (w7.setCell ⟨lb, 6, none⟩ (.slice (some ⟨g', 0, none⟩) (st.length + 1) cap')) := by
  have k : Chg wr w5 (fun b => b = rb) := Chg.pre (Below.refl _ _).drew k5
  have fa := fresh_alloc w5 (.cells #[.string (strOfNums b)] 9)
  have k6 : Chg wr (w5.alloc (.cells #[.string (strOfNums b)] 9)) (fun b => b = rb) := k.post fa
  have ln6 := h.ln.chg k6 hne
  have rl := h.rd.blk.lt
  have no : ∀ x, (Value.slice co st.length cc).ownBlock = some x → x ≠ rb := fun x hx e => by
    subst e; exact h.os.ne_blk h.rd.blk (by decide) hx
  have os6 : Own (w5.alloc (.cells #[.string (strOfNums b)] 9)) w0.heap.size 9 1 (.slice co st.length cc) st.length (stc st) := h.os.chg k6 no
  have ot6 : Own (w5.alloc (.cells #[.string (strOfNums b)] 9)) w0.heap.size 5 1 (.slice ao t.length ac) t.length (byc t) := h.ot.chg k6 (fun x hx e => by subst e; exact h.ot.ne_blk h.rd.blk (by decide) hx)
  have ca := Chg.of_app a7
  have nl : ¬ (Value.slice co st.length cc).ownBlock = some lb := os6.ne_blk ln6 (by decide)
  have nr : ¬ (Value.slice co st.length cc).ownBlock = some rb := fun e => no rb e rfl
  have ln7 := ln6.chg ca nl
  have r7 := (r5.fresh fa).chg ca nr
  have hno : ∀ x, (Value.slice ao t.length ac).ownBlock = some x → ¬ (Value.slice co st.length cc).ownBlock = some x := fun x hx e => by
    rcases ot6.2 with ⟨e1, _⟩ | ⟨gg, cap, cur, e1, hb', hgg, _⟩
    · rw [e1] at hx; simp [Value.ownBlock] at hx
    · rw [e1] at hx
      simp only [Value.ownBlock, Option.some.injEq] at hx
      subst hx
      exact os6.ne_blk (b := gg) (t := 5) (c2 := cur) hgg (by decide) e
  have ot7 := ot6.chg ca hno
  have cs := Chg.of_set w7 lb 6 (.slice (some ⟨g', 0, none⟩) (st.length + 1) cap')
  have hlen : (st ++ [b]).length = st.length + 1 := by simp
  have c06 : Chg w0 (w5.alloc (.cells #[.string (strOfNums b)] 9)) (fun b => b = rb ∨ b = lb) := h.chg.trans k6 (fun _ _ e => .inl e)
  refine ⟨by have := ln7.cell 6; simpa using this, ln7.frozen 6, ⟨r7.chg cs (fun e => hne e.symm), ?_, ot7.chg cs (fun x hx e => by subst e; exact ot7.ne_blk ln7 (by decide) hx), ?_, ?_, h.ok.lit q5⟩⟩
  · rw [hlen]; exact ln7.put 6 _
  · rw [hlen]; exact o7.chg cs (fun x hx e => by subst e; exact o7.ne_blk ln7 (by decide) hx)
  · refine (c06.trans ca (fun x hx e => ?_)).trans cs (fun _ _ e => .inr e)
    have := (h.os.lt x e).1
    omega
set_option maxRecDepth 20000 in
set_option maxHeartbeats 4000000 in
theorem rask_u {w : World} {rb lb : Nat} {s : Option (List Int)} {c0 c1 c3 : Value} (h : RdO w rb s) (hs : Okl s) (h6 : 6 ≤ rb) (h6l : 6 ≤ lb) (hE : Env w) (hL : Blk w lb 38 #[c0, c1, .slice none 0 0, c3, .int .u64 0, .string ⟨#[]⟩, .slice none 0 0]) (hne : lb ≠ rb) :
    Calls Tryd.prog 59 #[.pointer (some ⟨rb, 0, none⟩), .pointer (some ⟨lb, 0, none⟩)] w fun e w' => ∃ u g t ao ac st co cc s1 s2 s3 s4, e = .returned (.tuple #[]) ∧ AskI w rb lb c0 c1 c3 u g t ao ac st co cc s4 w' ∧ u < 18446744073709551616 ∧ StepR GSeed s u s1 ∧ StepR GLit s1 g s2 ∧ StepR GLit s2 t s3 ∧ StsR s3 st s4 ∧ s4.getD [] = [] := by
  have HSE := hidd (seed_u h hs h6 hE)
  have HLI := hidd (fun (w1 : World) (s1 : Option (List Int)) (h1 : RdO w1 rb s1) (hs1 : Okl s1) (hE1 : Env w1) => lit_u h1 hs1 h6 hE1)
  have HMO := hidd (fun (w1 : World) (s1 : Option (List Int)) (h1 : RdO w1 rb s1) => more_u h1)
  have HE := hidd hE
  have HL := hidd hL
  have HS := hidd hs
  have hr0 := h.blk.lt
  have hl0 := hL.lt
  clear h hE hL hs
  go_enter Tryd.func59, Tryd.ntmps59
  go_upto_region 1 with (go_at_call 78; with_reducible refine (HSE.out).mono ?_; rintro e w1 ⟨u, s1, hu, rfl, q1, r1, k1⟩; have L1 := HL.out.chg k1 hne; have y4 := L1.cell 4; have z4 := L1.frozen 4; simp at y4)
  have L2 := L1.put 4 (.int .u64 (u : Int))
  simp at L2
  have cs2 := Chg.of_set w1 lb 4 (.int .u64 (u : Int))
  have R2 := hidd (r1.chg cs2 (fun e => hne e.symm))
  have K2 := hidd ((k1.imp (fun _ _ h => Or.inl (b := _ = lb) h)).trans cs2 (fun _ _ h => .inr h))
  have Q1 := hidd q1
  have O1 := hidd (HS.out.seed q1)
  have L2 := hidd L2
  clear r1 k1 q1 L1 y4 z4 cs2 HSE HL HS
  generalize w1.setCell ⟨lb, 4, none⟩ (.int .u64 (u : Int)) = w2 at *
  have HE2 := hidd (HE.out.chg K2.out (fun b hb => by rcases hb with hb | hb <;> omega))
  have HC := hidd (HLI.out _ _ R2.out O1.out HE2.out)
  go_upto_region 2 with (go_at_call 79; with_reducible refine (HC.out).mono ?_; rintro e w3 ⟨g, s2, ao3, cp3, rfl, hbg, hlg, q2, r3, o3, k3⟩; have L3 := L2.out.chg k3 hne; have y5 := L3.cell 5; have z5 := L3.frozen 5; simp at y5; have hrd3 := o3.rdaW; have hcv := conv_str hrd3)
  have L4 := L3.put 5 (.string (strOfNums g))
  simp at L4
  have cs4 := Chg.of_set w3 lb 5 (.string (strOfNums g))
  have R4 := hidd (r3.chg cs4 (fun e => hne e.symm))
  have K4 := hidd ((K2.out.trans k3 (fun _ _ h => Or.inl h)).trans cs4 (fun _ _ h => .inr h))
  have Q2 := hidd q2
  have O2 := hidd (O1.out.lit q2)
  have L4 := hidd L4
  clear r3 k3 q2 L3 y5 z5 cs4 HC hcv o3 hrd3 R2 K2 O1 L2 HE2
  generalize w3.setCell ⟨lb, 5, none⟩ (.string (strOfNums g)) = w4 at *
  have HE4 := hidd (HE.out.chg K4.out (fun b hb => by rcases hb with hb | hb <;> omega))
  have HC := hidd (HLI.out _ _ R4.out O2.out HE4.out)
  go_upto_region 3 with (go_at_call 79; with_reducible refine (HC.out).mono ?_; rintro e w5 ⟨t, s3, ao, ac, rfl, hbt, hlt, q3, r5, o5, k5⟩; have L5 := L4.out.chg k5 hne; have y2 := L5.cell 2; have z2 := L5.frozen 2; simp at y2)
  have HI : Hid (AskI w rb lb c0 c1 c3 u g t ao ac [] none 0 s3 (w5.setCell ⟨lb, 2, none⟩ (.slice ao t.length ac))) := by
    have L6 := L5.put 2 (.slice ao t.length ac)
    simp at L6
    have cs6 := Chg.of_set w5 lb 2 (.slice ao t.length ac)
    have K5 := K4.out.trans k5 (fun _ _ h => Or.inl h)
    exact ⟨r5.chg cs6 (fun e => hne e.symm), L6, (o5.chg cs6 (fun x hx e => by subst e; exact o5.ne_blk L5 (by decide) hx)).weaken K4.out.size, own_nil _ _ _ _ _, K5.trans cs6 (fun _ _ h => .inr h), O2.out.lit q3⟩
  have Q3 := hidd q3
  have O3 := hidd HI.out.ok
  clear r5 k5 q3 L5 y2 z2 HC R4 K4 O2 L4 HE4 o5
  generalize w5.setCell ⟨lb, 2, none⟩ (.slice ao t.length ac) = w6 at *
  go_loopw [] (fun wr => ∃ st co cc s4, Hid (AskI w rb lb c0 c1 c3 u g t ao ac st co cc s4 wr) ∧ Hid (StsR s3 st s4)) (fun wr => rLen wr rb)
  case atStart => exact ⟨[], none, 0, s3, HI.out, StsR.nil _⟩
  case round =>
    clear HI
    obtain ⟨st, co, cc, s4, hI, hst⟩ := hrel
    have HC := hidd (HMO.out _ _ hI.out.rd)
    by_cases hz : s4.getD [] = []
    · rw [hz] at HC
      go_wp2_with (go_at_call 55; with_reducible refine (HC.out).mono ?_; rintro e w8 ⟨rfl, hw8⟩; rw [hw8]; clear hw8)
      go_end0
      exact ⟨u, g, t, ao, ac, st, co, cc, s1, s2, s3, s4, rfl, hI.out, hu, Q1.out, Q2.out, Q3.out, hst.out, hz⟩
    · obtain ⟨r4, rfl⟩ : ∃ r4, s4 = some r4 := by
        cases s4 with
        | none => exact absurd rfl hz
        | some r => exact ⟨r, rfl⟩
      have hz' : r4 ≠ [] := hz
      have hem : (!((some r4).getD []).isEmpty) = true := by cases r4 with
        | nil => exact absurd rfl hz'
        | cons x l => rfl
      rw [hem] at HC
      have HZ := hidd hz'
      have hlen : Hid (rLen wr rb = r4.length) := hI.out.rd.len
      clear hz hem hz'
      have HE7 := hidd ((HE.out.chg hI.out.chg (fun b hb => by rcases hb with hb | hb <;> omega)).fresh (Below.refl _ _).drew)
      have HCL := hidd (HLI.out _ _ (hI.out.rd.fresh (Below.refl _ _).drew) hI.out.ok HE7.out)
      have y6 := (hI.out.ln.fresh (Below.refl _ _).drew).cell 6
      simp at y6
      have HNX := hidd (fun (w8 : World) (b : List Int) (s5 : Option (List Int)) (r8 : RdO w8 rb s5) (k8 : Chg wr.drew w8 (fun b => b = rb)) (q8 : StepR GLit (some r4) b s5) w9 g' cap' o9 a9 => hI.out.next hne hr0 hl0 r8 k8 q8 (w7 := w9) (g' := g') (cap' := cap') o9 a9)
      have HY6 : Hid (∀ (w8 : World) (b : List Int), Chg wr.drew w8 (fun b => b = rb) → w8.cell? ⟨lb, 6, none⟩ = some (.slice co st.length cc) ∧ (w8.alloc (.cells #[.string (strOfNums b)] 9)).cell? ⟨lb, 6, none⟩ = some (.slice co st.length cc) ∧ Own (w8.alloc (.cells #[.string (strOfNums b)] 9)) w.heap.size 9 1 (.slice co st.length cc) st.length (stc (st ++ [b])) ∧ w.heap.size ≤ (w8.alloc (.cells #[.string (strOfNums b)] 9)).heap.size) := fun w8 b k8 => by
        have k := Chg.pre (Below.refl wr.heap.size wr).drew k8
        have l8 := hI.out.ln.chg k hne
        have o8 := hI.out.os.chg k (fun x hx e => by subst e; exact hI.out.os.ne_blk hI.out.rd.blk (by decide) hx)
        have fa := fresh_alloc w8 (.cells #[.string (strOfNums b)] 9)
        refine ⟨by have := l8.cell 6; simpa using this, by have := (l8.fresh fa).cell 6; simpa using this, (o8.kept fa).congr (fun j hj => stc_low st b (by omega)), ?_⟩
        have := hI.out.chg.size
        have := k.size
        simp
        omega
      have HMS : Hid (∀ b, stc (st ++ [b]) st.length = .string (strOfNums b)) := stc_snoc st
      have hstl : st.length ≤ 8192 := by
        obtain ⟨e, _⟩ := hst.out.good r4 rfl
        have h1 := (O3.out _ e).2
        have h2 := stL_len st
        rw [List.length_append] at h1
        omega
      obtain ⟨m, em⟩ : ∃ m, m = st.length := ⟨_, rfl⟩
      have EM := hidd em
      rw [← em] at y6 HNX HY6 HMS hstl
      clear em
      go_upto_region 4 with (go_at_call 55; with_reducible refine (HC.out).mono ?_; rintro e w8 ⟨rfl, hw8⟩; rw [hw8]; clear hw8)
      go_region_law (first
        | (refine step_app1 _ (by rfl) _ _ _ (by rfl) w.heap.size 9 (.string ⟨#[]⟩) 16 Tryd.underlying33 infoS rfl _ m (stc (st ++ [b])) (by rfl) Z3.out w8.heap.size 1 (by rfl) HX.out (by rw [HMS.out]; rfl) (by omega) (by omega) Z4.out ?_; intro g' cap' w9 ho9 ha9; obtain ⟨n1, n2, n3⟩ := HNX.out w8 b s5 r8 k8 q8 w9 g' cap' ho9 ha9; have N3 := hidd n3; clear n3 ho9 ha9)
        | (go_simp; go_at_call 79; with_reducible refine (HCL.out).mono ?_; rintro e w8 ⟨b, s5, ao8, cp8, rfl, hbb, hbl, q8, r8, o8, k8⟩; obtain ⟨z1, z2, z3, z4⟩ := HY6.out w8 b k8; have Z3 := hidd z3; have Z4 := hidd z4; clear z3 z4; have hcv := conv_str o8.rdaW; have HX : Hid ((w8.alloc (.cells #[.string (strOfNums b)] 9)).cell? ⟨w8.heap.size, 0, none⟩ = some (stc (st ++ [b]) m)) := (by rw [HMS.out]; exact hidd (new_cell _ _ _))))
      all_goals (
        have HSX := hidd (StsR.snoc hst.out HZ.out q8)
        have hls := q8.less rfl HZ.out
        have hl2 := N3.out.rd.len
        go_wp2
        go_roundw
        case rel => exact ⟨st ++ [b], some ⟨g', 0, none⟩, cap', s5, N3.out, HSX.out⟩
        case measure => rw [hl2, hlen.out]; exact hls)
end Go.Proofs.YtemmghneohnigaaDoor
