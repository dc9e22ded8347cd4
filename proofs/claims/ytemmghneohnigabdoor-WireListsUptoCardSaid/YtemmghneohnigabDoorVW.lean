import Derived.Test.YtemmghneohnigabDoorWvI
import Derived.Test.YtemmghneohnigabDoorWvR
namespace Go.Proofs.YtemmghneohnigabDoor
open Go.RowKit
/-! The reference's Parse, as data. -/
section
variable {T : List Int} {p : Nat}
/-- the next word, and where the one behind it begins -/
def rwV (T : List Int) (p : Nat) : List Int := if T.length < p then [] else tw (T.drop p)
def nxV (T : List Int) (p : Nat) : Nat := if T.length < p then p else p + (tw (T.drop p)).length + 1
theorem nx_le (h : p ≤ T.length + 1) : nxV T p ≤ T.length + 1 := by
  unfold nxV
  split
  · omega
  · have := tw_len (T.drop p)
    rw [List.length_drop] at this
    omega
theorem rw_byt (h : Byt T) (p : Nat) : Byt (rwV T p) := by
  unfold rwV
  split
  · exact byt_nil
  · exact tw_byt (h.drop p)
theorem rw_len (T : List Int) (p : Nat) : (rwV T p).length ≤ T.length := by
  unfold rwV
  split
  · simp
  · have := tw_len (T.drop p)
    rw [List.length_drop] at this
    omega
/-- what is left, with the blank ahead, begins here -/
def AtV (T : List Int) (p : Nat) (r : List Int) : Prop := (r = [] ∧ p = T.length + 1) ∨ (∃ z, r = 32 :: z ∧ p ≤ T.length ∧ T.drop p = z)
theorem at_next {d : Nat} (h : d ≤ T.length) {r : List Int} (e : T.drop d = r) (hr : Hd r) : AtV T (d + 1) r := by
  rcases hr with rfl | ⟨z, rfl⟩
  · left
    refine ⟨rfl, ?_⟩
    have := congrArg List.length e
    rw [List.length_drop] at this
    simp at this
    omega
  · right
    have hl := congrArg List.length e
    rw [List.length_drop, List.length_cons] at hl
    refine ⟨z, rfl, by omega, ?_⟩
    rw [← List.drop_drop, e]
    rfl
theorem at_drop {a r : List Int} (h : p ≤ T.length) (e : T.drop p = a ++ r) (ha : ∀ x ∈ a, x ≠ 32) (hr : Hd r) : rwV T p = a ∧ AtV T (nxV T p) r := by
  have ht := tw_hd ha hr
  have hl := congrArg List.length e
  rw [List.length_drop, List.length_append] at hl
  have e1 : rwV T p = a := by unfold rwV; rw [if_neg (by omega), e]; exact ht.1
  refine ⟨e1, ?_⟩
  have e2 : nxV T p = p + a.length + 1 := by unfold nxV; rw [if_neg (by omega), e, ht.1]
  rw [e2]
  refine at_next (by omega) ?_ hr
  rw [← List.drop_drop, e]
  simp
theorem at_word {a r : List Int} (h : AtV T p (32 :: (a ++ r))) (ha : ∀ x ∈ a, x ≠ 32) (hr : Hd r) : rwV T p = a ∧ AtV T (nxV T p) r := by
  rcases h with ⟨e, _⟩ | ⟨z, e, h1, h2⟩
  · cases e
  · cases e
    exact at_drop h1 h2 ha hr
end
/-- a word's digits as a number -/
def nvD : Nat → List Int → Nat
  | m, [] => m
  | m, x :: r => nvD (if 48 ≤ x ∧ x ≤ 57 then (10 * m + (x - 48).toNat) % 18446744073709551616 else m) r
theorem nvD_app : ∀ (a b : List Int) (m : Nat), nvD m (a ++ b) = nvD (nvD m a) b
  | [], _, _ => rfl
  | _ :: a, b, _ => nvD_app a b _
theorem nvD_lt : ∀ (l : List Int) (m : Nat), m < 18446744073709551616 → nvD m l < 18446744073709551616
  | [], _, h => h
  | x :: r, m, h => by
    refine nvD_lt r _ ?_
    split
    · omega
    · exact h
def nvV (l : List Int) : Nat := if l.head? = some 45 then (18446744073709551616 - nvD 0 l) % 18446744073709551616 else nvD 0 l
theorem nvV_lt (l : List Int) : nvV l < 18446744073709551616 := by
  unfold nvV
  split
  · omega
  · exact nvD_lt l 0 (by omega)
def ivV (l : List Int) : Int := IntKind.i64.wrap (nvV l : Int)
theorem ivV_range (l : List Int) : -9223372036854775808 ≤ ivV l ∧ ivV l ≤ 9223372036854775807 := by
  unfold ivV
  rw [IntKind.wrap_i64]
  have := nvV_lt l
  omega
theorem nvD_dec (u : Nat) (h : u < 18446744073709551616) : nvD 0 (decL u) = u := by
  induction u using Nat.strongRecOn with
  | ind u ih =>
    by_cases h9 : 9 < u
    · rw [decL_step h9, nvD_app, ih (u / 10) (by omega) (by omega)]
      simp only [nvD]
      rw [if_pos (by omega)]
      omega
    · rw [decL_low (by omega)]
      simp only [nvD]
      rw [if_pos (by omega)]
      omega
theorem dec_head (u : Nat) : (decL u).head? ≠ some 45 := fun e => by
  have hm : (45 : Int) ∈ decL u := by
    cases hd : decL u with
    | nil => rw [hd] at e; cases e
    | cons x r => rw [hd] at e; simp at e; rw [e]; simp
  obtain ⟨b, hb, e2⟩ := List.mem_map.1 hm
  have := dec_dig u b hb
  omega
theorem nvV_dec {u : Nat} (h : u < 18446744073709551616) : nvV (decL u) = u := by
  unfold nvV
  rw [if_neg (dec_head u), nvD_dec u h]
theorem ivV_num {n : Int} (h0 : -9223372036854775808 ≤ n) (h1 : n ≤ 9223372036854775807) : ivV (numL n) = n := by
  by_cases hn : n < 0
  · obtain ⟨u, rfl⟩ : ∃ u : Nat, n = -(u : Int) := ⟨n.natAbs, by omega⟩
    have e : nvV (numL (-(u : Int))) = 18446744073709551616 - u := by
      rw [numL_neg (by omega)]
      unfold nvV
      rw [if_pos (show (45 :: decL u).head? = some 45 from rfl)]
      have : nvD 0 (45 :: decL u) = u := by
        show nvD (if 48 ≤ (45 : Int) ∧ (45 : Int) ≤ 57 then _ else 0) (decL u) = u
        rw [if_neg (by omega), nvD_dec u (by omega)]
      rw [this]
      omega
    unfold ivV
    rw [e, IntKind.wrap_i64]
    omega
  · obtain ⟨u, rfl⟩ : ∃ u : Nat, n = (u : Int) := ⟨n.toNat, by omega⟩
    unfold ivV
    rw [numL_pos, nvV_dec (by omega), IntKind.wrap_i64]
    omega
/-- the places of numbers one behind the other -/
def posV (T : List Int) (p : Nat) : Nat → Nat
  | 0 => p
  | c + 1 => nxV T (posV T p c)
theorem pos_le {T : List Int} {p : Nat} (h : p ≤ T.length + 1) : ∀ c, posV T p c ≤ T.length + 1
  | 0 => h
  | c + 1 => nx_le (pos_le h c)
def numsV (T : List Int) (p c : Nat) : List Int := (List.range c).map (fun i => ivV (rwV T (posV T p i)))
theorem numsV_len (T : List Int) (p c : Nat) : (numsV T p c).length = c := by unfold numsV; simp
theorem numsV_succ (T : List Int) (p c : Nat) : numsV T p (c + 1) = numsV T p c ++ [ivV (rwV T (posV T p c))] := by
  unfold numsV
  rw [List.range_succ, List.map_append]
  rfl
theorem numsV_range (T : List Int) (p c : Nat) : ∀ x ∈ numsV T p c, -9223372036854775808 ≤ x ∧ x ≤ 9223372036854775807 := fun x hx => by
  obtain ⟨i, _, rfl⟩ := List.mem_map.1 hx
  exact ivV_range _
theorem at_nums {T : List Int} {p : Nat} {r : List Int} (hr : Hd r) : ∀ (nums pre : List Int) (c : Nat), numsV T p c = pre → (∀ x ∈ nums, -9223372036854775808 ≤ x ∧ x ≤ 9223372036854775807) → AtV T (posV T p c) (nmL nums ++ r) → numsV T p (c + nums.length) = pre ++ nums ∧ AtV T (posV T p (c + nums.length)) r
  | [], pre, c, e, _, h => by simpa [nmL] using And.intro e h
  | x :: l, pre, c, e, hb, h => by
    have e1 : nmL (x :: l) ++ r = 32 :: (numL x ++ (nmL l ++ r)) := by simp [nmL]
    rw [e1] at h
    obtain ⟨h1, h2⟩ := at_word h (itoa_no32 x) (nmL_hd hr)
    have hx := hb x (by simp)
    have h3 := at_nums hr l (pre ++ [x]) (c + 1) (by rw [numsV_succ, e, h1, ivV_num hx.1 hx.2]) (fun y hy => hb y (by simp [hy])) h2
    rw [List.length_cons, show c + (l.length + 1) = c + 1 + l.length by omega]
    simpa using h3
/-- a literal as the reference reads it -/
structure LitV (T : List Int) (p : Nat) (b : List Int) (p' : Nat) : Prop where
  byt : Byt b
  len : b.length ≤ T.length
  le : p' ≤ T.length + 1
  lt : p < T.length → p < p'
  good : ∀ b0, p < T.length → UnqP (T.drop p) b0 → b = b0 ∧ p' = p + (lit b0).length + 1
theorem LitV.at {T : List Int} {p : Nat} {b b0 r : List Int} {p' : Nat} (h : LitV T p b p') (ha : AtV T p (32 :: (lit b0 ++ r))) (hb : Byt b0) (hr : Hd r) : b = b0 ∧ AtV T p' r := by
  rcases ha with ⟨e, _⟩ | ⟨z, e, h1, h2⟩
  · cases e
  · cases e
    have hl := congrArg List.length h2
    rw [List.length_drop, List.length_append] at hl
    have hll := lit_len b0
    obtain ⟨e1, e2⟩ := h.good b0 (by omega) (by rw [h2]; exact UnqP.of hb)
    refine ⟨e1, ?_⟩
    rw [e2]
    refine at_next (by omega) ?_ hr
    rw [← List.drop_drop, h2]
    simp
/-- the stops as the reference reads them -/
inductive StV (T : List Int) (p : Nat) : List (List Int) → Nat → Prop
  | nil : StV T p [] p
  | snoc {l : List (List Int)} {q q' : Nat} {b : List Int} : StV T p l q → q < T.length → LitV T q b q' → StV T p (l ++ [b]) q'
theorem stL_hd (st : List (List Int)) : Hd (stL st) := by
  cases st with
  | nil => exact .inl rfl
  | cons x l => exact .inr ⟨_, by simp [stL]; rfl⟩
theorem StV.bytes {T : List Int} {p q : Nat} {st : List (List Int)} (h : StV T p st q) : ∀ s ∈ st, Byt s ∧ s.length ≤ T.length := by
  induction h with
  | nil => exact fun s hs => nomatch hs
  | snoc _ _ hl ih =>
    intro s hs
    rcases List.mem_append.1 hs with hs | hs
    · exact ih s hs
    · rw [List.mem_singleton.1 hs]; exact ⟨hl.byt, hl.len⟩
theorem StV.long {T : List Int} {p q : Nat} {st : List (List Int)} (h : StV T p st q) : st.length + p ≤ q := by
  induction h with
  | nil => simp
  | snoc _ hq hl ih =>
    have := hl.lt hq
    simp
    omega
theorem StV.at {T : List Int} {p q : Nat} {st st0 : List (List Int)} (h : StV T p st q) (ha : AtV T p (stL st0)) (hb : ∀ x ∈ st0, Byt x) : ∃ st2, st0 = st ++ st2 ∧ AtV T q (stL st2) := by
  induction h with
  | nil => exact ⟨st0, rfl, ha⟩
  | @snoc l q q' b _ hq hl ih =>
    obtain ⟨st2, e, h2⟩ := ih
    cases st2 with
    | nil =>
      rcases h2 with ⟨_, e2⟩ | ⟨z, e2, _⟩
      · omega
      · cases e2
    | cons x l3 =>
      have e3 : stL (x :: l3) = 32 :: (lit x ++ stL l3) := by simp [stL]
      rw [e3] at h2
      obtain ⟨rfl, h4⟩ := hl.at h2 (hb x (by rw [e]; simp)) (stL_hd l3)
      exact ⟨l3, by rw [e]; simp, h4⟩
/-- what the reference has read of a text -/
def ReadV (T : List Int) (wl : List Int) (n : Int) (nums : List Int) (u : Nat) (g t : List Int) (st : List (List Int)) : Prop :=
  wl = rwV T 0 ∧ n = ivV (rwV T (nxV T 0)) ∧ ∃ p3, p3 = posV T (nxV T (nxV T 0)) (numW wl).toNat ∧ nums = numsV T (nxV T (nxV T 0)) (numW wl).toNat ∧
    (if wl = wNm 0 then u = nvV (rwV T p3) ∧ ∃ p5 p6 p7, LitV T (nxV T p3) g p5 ∧ LitV T p5 t p6 ∧ StV T p6 st p7 ∧ T.length ≤ p7 else if wl = wNm 4 then u = 0 ∧ g = [] ∧ st = [] ∧ ∃ p4, LitV T p3 t p4 else u = 0 ∧ g = [] ∧ t = [] ∧ st = [])
theorem read_line {T wl : List Int} {n : Int} {nums : List Int} {u : Nat} {g t : List Int} {st : List (List Int)} (h : ReadV T wl n nums u g t st) {k' : Nat} {n' : Int} {nums' : List Int} {u' : Nat} {g' t' : List Int} {st' : List (List Int)} (q : LineQ k' n' nums' u' g' t' st' T) : wl = wNm k' ∧ n = n' ∧ nums = nums' ∧ u = u' ∧ g = g' ∧ t = t' ∧ st = st' := by
  obtain ⟨e1, e2, p3, e3, e4, h5⟩ := h
  obtain ⟨f1, f2, f3, f4, f5⟩ := q.form
  have hh := nmL_hd (nums := nums') (bhL_hd k' u' g' t' st')
  obtain ⟨w1, w2⟩ := at_drop (T := T) (p := 0) (Nat.zero_le _) (by rw [List.drop_zero]; exact f4) (nm_no32 q.kk) (.inr ⟨_, rfl⟩)
  obtain ⟨w3, w4⟩ := at_word w2 (itoa_no32 n') hh
  have hwl : wl = wNm k' := by rw [e1, w1]
  have hc : (numW wl).toNat = nums'.length := by rw [hwl, numW_nm q.kk, f2]; simp
  obtain ⟨w5, w6⟩ := at_nums (T := T) (p := nxV T (nxV T 0)) (bhL_hd k' u' g' t' st') nums' [] 0 rfl q.nr w4
  rw [Nat.zero_add, List.nil_append] at w5
  rw [Nat.zero_add, ← hc, ← e3] at w6
  have hn : n = n' := by rw [e2, w3, ivV_num (by omega) (by omega)]
  have hns : nums = nums' := by rw [e4, hc]; exact w5
  refine ⟨hwl, hn, hns, ?_⟩
  by_cases k0 : k' = 0
  · subst k0
    rw [hwl, if_pos rfl] at h5
    obtain ⟨a1, p5, p6, p7, a2, a3, a4, a5⟩ := h5
    have eb : bhL 0 u' g' t' st' = 32 :: (decL u' ++ 32 :: (lit g' ++ 32 :: (lit t' ++ stL st'))) := rfl
    rw [eb] at w6
    obtain ⟨w7, w8⟩ := at_word w6 (decL_no32 u') (.inr ⟨_, rfl⟩)
    obtain ⟨rfl, w9⟩ := a2.at w8 q.bg (.inr ⟨_, rfl⟩)
    obtain ⟨rfl, w10⟩ := a3.at w9 q.bt (stL_hd st')
    obtain ⟨st2, e9, w11⟩ := a4.at w10 q.bs
    have hs2 : st2 = [] := by
      cases st2 with
      | nil => rfl
      | cons x l =>
        have e3 : stL (x :: l) = 32 :: (lit x ++ stL l) := by simp [stL]
        rw [e3] at w11
        rcases w11 with ⟨e, _⟩ | ⟨z, e, h1, h2⟩
        · cases e
        · cases e
          have hl := congrArg List.length h2
          rw [List.length_drop, List.length_append, lit_len] at hl
          omega
    subst hs2
    exact ⟨by rw [a1, w7, nvV_dec q.us], rfl, rfl, by rw [e9]; simp⟩
  · have n0 : wl ≠ wNm 0 := fun e => k0 (nm_inj q.kk (by omega) (hwl.symm.trans e))
    rw [if_neg n0] at h5
    unfold onlyW at f3
    rw [if_neg k0] at f3
    by_cases k4 : k' = 4
    · subst k4
      rw [if_pos hwl] at h5
      rw [if_pos rfl] at f3
      obtain ⟨rfl, rfl, rfl, p4, a2⟩ := h5
      obtain ⟨rfl, rfl, rfl⟩ := f3
      have eb : bhL 4 0 [] t' [] = 32 :: (lit t' ++ []) := by simp [bhL]
      rw [eb] at w6
      obtain ⟨rfl, _⟩ := a2.at w6 q.bt (.inl rfl)
      exact ⟨rfl, rfl, rfl, rfl⟩
    · have n4 : wl ≠ wNm 4 := fun e => k4 (nm_inj q.kk (by omega) (hwl.symm.trans e))
      rw [if_neg n4] at h5
      rw [if_neg k4] at f3
      obtain ⟨rfl, rfl, rfl, rfl⟩ := h5
      obtain ⟨rfl, rfl, rfl, rfl⟩ := f3
      exact ⟨rfl, rfl, rfl, rfl⟩
/-- where reading gives a line whose text this is, it is the line; else there is none -/
theorem read_only {T wl : List Int} {n : Int} {nums : List Int} {u : Nat} {g t : List Int} {st : List (List Int)} (h : ReadV T wl n nums u g t st) (hno : ¬ LineP wl n nums u g t st T) : ¬ ∃ k n nums u g t st, LineQ k n nums u g t st T := by
  rintro ⟨k', n', nums', u', g', t', st', q⟩
  obtain ⟨rfl, rfl, rfl, rfl, rfl, rfl, rfl⟩ := read_line h q
  exact hno q.line
end Go.Proofs.YtemmghneohnigabDoor
namespace Go.Proofs.YtemmghneohnigabDoor
open Go.RowKit
/-! The reference's View: word, number, literal. -/
def Vw (w : World) (vb : Nat) (T : List Int) (p : Nat) : Prop := Blk w vb 57 #[.string (strOfNums T), .int .i64 (p : Int)]
theorem Vw.fresh {w w' : World} {vb : Nat} {T : List Int} {p : Nat} (h : Vw w vb T p) (f : Below w.heap.size w w') : Vw w' vb T p := Blk.fresh h f
theorem Vw.chg {w w' : World} {S : Nat → Prop} {vb : Nat} {T : List Int} {p : Nat} (h : Vw w vb T p) (c : Chg w w' S) (hS : ¬ S vb) : Vw w' vb T p := Blk.chg h c hS
theorem Vw.put {w : World} {vb : Nat} {T : List Int} {p : Nat} (h : Vw w vb T p) (q : Nat) : Vw (w.setCell ⟨vb, 1, none⟩ (.int .i64 (q : Int))) vb T q := by
  have := Blk.put h 1 (.int .i64 (q : Int))
  simp at this
  exact this
theorem Vw.put1 {w : World} {vb : Nat} {T : List Int} {p : Nat} (h : Vw w vb T p) (q : Nat) : Vw (w.setCell ⟨vb, 1, none⟩ (.int .i64 ((q : Int) + 1))) vb T (q + 1) := h.put (q + 1)
/-- where a view stands -/
def vAt (w : World) (vb : Nat) : Nat := match w.cell? ⟨vb, 1, none⟩ with
  | some (.int _ x) => x.toNat
  | _ => 0
theorem Vw.at_ {w : World} {vb : Nat} {T : List Int} {p : Nat} (h : Vw w vb T p) : vAt w vb = p := by
  have := Blk.cell h 1
  simp at this
  unfold vAt
  rw [this]
  simp
theorem tw_no : ∀ (r : List Int), ∀ x ∈ tw r, x ≠ 32
  | [], x, hx => by simp [tw] at hx
  | y :: r, x, hx => by
    have ih := tw_no r x
    by_cases e : y = 32
    · subst e; simp [tw] at hx
    · have e2 : tw (y :: r) = y :: tw r := by simp [tw, e]
      rw [e2] at hx
      rcases List.mem_cons.1 hx with rfl | hx
      · exact e
      · exact ih hx
theorem tw_at {r : List Int} {j : Nat} (h : j < (tw r).length) : r.getD j 0 ≠ 32 := by
  have hm : (tw r).getD j 0 ∈ tw r := by rw [List.getD_eq_getElem?_getD, List.getElem?_eq_getElem h]; exact List.getElem_mem _
  have h1 : (tw r).getD j 0 = r.getD j 0 := by
    have key : ∀ (a b : List Int), j < a.length → a.getD j 0 = (a ++ b).getD j 0 := fun a b hj => by
      simp [List.getD_eq_getElem?_getD, List.getElem?_append_left, hj]
    have := key (tw r) (dw r) h
    rwa [tw_dw] at this
  rw [← h1]
  exact tw_no r _ hm
theorem tw_behind {r : List Int} (h : (tw r).length < r.length) : r.getD (tw r).length 0 = 32 := by
  have hl := congrArg List.length (tw_dw r)
  rw [List.length_append] at hl
  rcases dw_hd r with e | ⟨z, e⟩
  · rw [e] at hl; simp at hl; omega
  · have key : ∀ (a z : List Int), (a ++ 32 :: z).getD a.length 0 = 32 := fun a z => by simp [List.getD_eq_getElem?_getD]
    have e2 : tw r ++ 32 :: z = r := by rw [← e, tw_dw]
    have := key (tw r) z
    rwa [e2] at this
set_option maxRecDepth 20000 in
set_option maxHeartbeats 4000000 in
theorem word_any {w : World} {vb : Nat} {T : List Int} {p : Nat} (h : Vw w vb T p) (hB : Byt T) (hN : T.length ≤ 8192) :
    Calls Tryd.prog 18 #[.pointer (some ⟨vb, 0, none⟩)] w fun e w' => e = .returned (.string (strOfNums (rwV T p))) ∧ Vw w' vb T (nxV T p) ∧ Chg w w' (fun b => b = vb) := by
  have hsz : (strOfNums T).size = T.length := strOfNums_size T
  have x0 := Blk.cell h 0
  have x1 := Blk.cell h 1
  simp at x0 x1
  have HAT : Hid (∀ k, k < T.length → ∃ X : Nat, (∀ h, ((strOfNums T)[k]'h).toNat = X) ∧ T.getD k 0 = (X : Int)) := fun k hk => by
    have hb := hB (T.getD k 0) (by rw [List.getD_eq_getElem?_getD, List.getElem?_eq_getElem hk]; exact List.getElem_mem _)
    exact ⟨(T.getD k 0).toNat, fun h => str_at hB hk h, by omega⟩
  by_cases hlt : T.length < p
  · have er : rwV T p = [] := by unfold rwV; rw [if_pos hlt]
    have en : nxV T p = p := by unfold nxV; rw [if_pos hlt]
    rw [er, en]
    have HV := hidd (fun k => h.fresh (fresh_drewN w k))
    have HC := hidd (fun k => Chg.of_below (fun b => b = vb) (fresh_drewN w k))
    obtain ⟨N, eN⟩ : ∃ N, N = T.length := ⟨_, rfl⟩
    rw [← eN] at hsz hlt hN
    have b1 : decide ((N : Int) < (p : Int)) = true := by simp; omega
    clear h HAT hB er en eN
    generalize strOfNums T = s at *
    go_enter Tryd.func18, Tryd.ntmps18
    go_wp2
    go_quiet (fail)
    go_wp2
    go_ret
    exact ⟨rfl, HV.out _, HC.out _⟩
  · have hple : p ≤ T.length := by omega
    obtain ⟨m, em⟩ : ∃ m, m = (tw (T.drop p)).length := ⟨_, rfl⟩
    have hdl : (T.drop p).length = T.length - p := List.length_drop
    have hml : m ≤ T.length - p := by rw [em, ← hdl]; exact tw_len _
    have gd : ∀ j, (T.drop p).getD j 0 = T.getD (p + j) 0 := fun j => by simp [List.getD_eq_getElem?_getD, List.getElem?_drop]
    have HNE : Hid (∀ j, j < m → T.getD (p + j) 0 ≠ 32) := fun j hj => by rw [← gd]; exact tw_at (by rw [← em]; exact hj)
    have HEQ : Hid (p + m < T.length → T.getD (p + m) 0 = 32) := fun hj => by
      rw [← gd, em]
      exact tw_behind (by rw [← em, hdl]; omega)
    have er : rwV T p = tw (T.drop p) := by unfold rwV; rw [if_neg hlt]
    have en : nxV T p = p + m + 1 := by unfold nxV; rw [if_neg hlt, em]
    have hx := str_ext T p (p + m)
    have ex : (T.take (p + m)).drop p = tw (T.drop p) := by
      rw [List.drop_take, show p + m - p = m by omega, em]
      have : (tw (T.drop p) ++ dw (T.drop p)).take (tw (T.drop p)).length = tw (T.drop p) := by simp
      rwa [tw_dw] at this
    rw [ex, ← er] at hx
    rw [en]
    have HV := hidd (fun k => h.fresh (fresh_drewN w k))
    have HC := hidd (fun k => Chg.of_below (fun b => b = vb) (fresh_drewN w k))
    obtain ⟨N, eN⟩ : ∃ N, N = T.length := ⟨_, rfl⟩
    rw [← eN] at hsz hlt hN HAT HEQ hple hml
    have b1 : decide ((N : Int) < (p : Int)) = false := by simp; omega
    generalize hsr : strOfNums (rwV T p) = sr at *
    generalize hss : strOfNums T = s at *
    have HSS := hidd hss
    clear h hB er en eN hsr hss gd ex em hdl
    go_enter Tryd.func18, Tryd.ntmps18
    go_wp2
    go_quiet (fail)
    go_wp2
    go_loopw [] (fun wr => ∃ q : Nat, p ≤ q ∧ q ≤ p + m ∧ Hid (Vw wr vb T q) ∧ Hid (Chg w wr (fun b => b = vb))) (fun wr => p + m - vAt wr vb)
    case atStart => exact ⟨p, Nat.le_refl _, by omega, HV.out _, HC.out _⟩
    case round =>
      clear HV HC x0 x1
      obtain ⟨q, hq1, hq2, hV, hC⟩ := hrel
      have y0 := Blk.cell hV.out 0
      have y1 := Blk.cell hV.out 1
      have y2 := Blk.frozen hV.out 1
      simp at y0 y1
      rw [HSS.out] at y0
      have z0 := fresh_cell (Below.refl wr.heap.size wr).drew y0
      have z1 := fresh_cell (Below.refl wr.heap.size wr).drew y1
      have HM := hidd hV.out.at_
      have j0 : (0 : Int) ≤ (q : Int) := Int.natCast_nonneg _
      by_cases hlt2 : q < p + m
      · obtain ⟨X, hX, eX⟩ := HAT.out q (by omega)
        have hne := HNE.out (q - p) (by omega)
        rw [show p + (q - p) = q by omega, eX] at hne
        have b2 : decide ((q : Int) < (N : Int)) = true := by simp; omega
        have b3 : ((X : Int) != 32) = true := by simp; omega
        have b4 : (X != 32) = true := by simp; omega
        have b5 : ¬ X = 32 := by omega
        have j1 : (q : Int) < (N : Int) := by omega
        have HV2 := hidd (fun k => (hV.out.fresh (fresh_drewN wr k)).put1 q)
        have HC2 := hidd (fun k => (hC.out.post (fresh_drewN wr k)).trans (Chg.of_set (wr.drewN k) vb 1 (.int .i64 ((q : Int) + 1))) (fun _ _ h => h))
        clear hne eX z0 z1
        go_wp2
        go_quiet (fail)
        go_wp2
        go_roundw
        case rel => exact ⟨q + 1, by omega, by omega, HV2.out _, HC2.out _⟩
        case measure =>
          have h9 := (HV2.out nq).at_
          have h8 := HM.out
          rw [h8]
          first | (rw [h9]; omega) | (simp only [] at h9 ⊢; omega)
      · obtain rfl : q = p + m := by omega
        have HV2 := hidd (fun k => (hV.out.fresh (fresh_drewN wr k)).put1 (p + m))
        have HC2 := hidd (fun k => (hC.out.post (fresh_drewN wr k)).trans (Chg.of_set (wr.drewN k) vb 1 (.int .i64 (((p + m : Nat) : Int) + 1))) (fun _ _ h => h))
        have k1 : ((p : Nat) : Int) ≤ ((p + m : Nat) : Int) := by omega
        have k2 : ((p + m : Nat) : Int) ≤ (N : Int) := by omega
        obtain ⟨Q, eQ⟩ : ∃ Q, Q = p + m := ⟨_, rfl⟩
        rw [← eQ] at HV2 HC2 k1 k2 hx y1 j0 HEQ
        have EQ := hidd eQ
        try rw [← eQ]
        clear eQ z0 z1 hlt2 hq1 hq2 hV hC HM
        by_cases hqn : Q < N
        · obtain ⟨X, hX, eX⟩ := HAT.out Q hqn
          have he := HEQ.out hqn
          rw [eX] at he
          have b2 : decide ((Q : Int) < (N : Int)) = true := by simp; omega
          have b3 : ((X : Int) != 32) = false := by simp; omega
          have b4 : (X != 32) = false := by simp; omega
          have b5 : X = 32 := by omega
          have j1 : (Q : Int) < (N : Int) := by omega
          subst b5
          clear he eX
          go_wp2
          go_quiet (fail)
          go_wp2
          go_quiet (fail)
          go_wp2
          go_ret
          exact ⟨rfl, by rw [← EQ.out]; exact HV2.out _, HC2.out _⟩
        · have b2 : decide ((Q : Int) < (N : Int)) = false := by simp; omega
          go_wp2
          go_quiet (fail)
          go_wp2
          go_quiet (fail)
          go_wp2
          go_ret
          exact ⟨rfl, by rw [← EQ.out]; exact HV2.out _, HC2.out _⟩
end Go.Proofs.YtemmghneohnigabDoor
namespace Go.Proofs.YtemmghneohnigabDoor
open Go.RowKit
/-! The reference's View: number, literal. -/
theorem nvD_take {l : List Int} {j : Nat} (h : j < l.length) : nvD 0 (l.take (j + 1)) = (if 48 ≤ l.getD j 0 ∧ l.getD j 0 ≤ 57 then (10 * nvD 0 (l.take j) + (l.getD j 0 - 48).toNat) % 18446744073709551616 else nvD 0 (l.take j)) := by
  rw [List.take_add_one, List.getElem?_eq_getElem h, nvD_app, List.getD_eq_getElem?_getD, List.getElem?_eq_getElem h]
  rfl
set_option maxRecDepth 20000 in
set_option maxHeartbeats 4000000 in
theorem number_any {w : World} {vb : Nat} {T : List Int} {p : Nat} (h : Vw w vb T p) (hB : Byt T) (hN : T.length ≤ 8192) :
    Calls Tryd.prog 19 #[.pointer (some ⟨vb, 0, none⟩)] w fun e w' => e = .returned (.int .u64 (nvV (rwV T p) : Int)) ∧ Vw w' vb T (nxV T p) ∧ Chg w w' (fun b => b = vb) := by
  have HW := hidd (word_any h hB hN)
  have hlB := rw_byt hB p
  have hlN := rw_len T p
  clear h hB
  generalize hl : rwV T p = l at *
  clear hl
  have HAT : Hid (∀ k, k < l.length → ∃ X : Nat, (∀ h, ((strOfNums l)[k]'h).toNat = X) ∧ l.getD k 0 = (X : Int) ∧ X ≤ 255) := fun k hk => by
    have hb := hlB (l.getD k 0) (by rw [List.getD_eq_getElem?_getD, List.getElem?_eq_getElem hk]; exact List.getElem_mem _)
    exact ⟨(l.getD k 0).toNat, fun h => str_at hlB hk h, by omega, by omega⟩
  have hsz : (strOfNums l).size = l.length := strOfNums_size l
  have HNT : Hid (∀ j, j < l.length → nvD 0 (l.take (j + 1)) = (if 48 ≤ l.getD j 0 ∧ l.getD j 0 ≤ 57 then (10 * nvD 0 (l.take j) + (l.getD j 0 - 48).toNat) % 18446744073709551616 else nvD 0 (l.take j))) := fun j hj => nvD_take hj
  have HTL : Hid (nvD 0 (l.take l.length) = nvD 0 l) := by show _ = _; rw [List.take_length]
  have HLT : Hid (∀ j, nvD 0 (l.take j) < 18446744073709551616) := fun j => nvD_lt _ 0 (by omega)
  have HNE : Hid (l ≠ [] → (strOfNums l).toList.isEmpty = false ∧ ¬ (strOfNums l).toList = []) := fun h => str_ne hlB h
  have HH : Hid (0 < l.length → ∀ X : Nat, l.getD 0 0 = (X : Int) → (l.head? = some 45 ↔ X = 45)) := fun h X e => by
    cases l with
    | nil => simp at h
    | cons x r =>
      simp at e
      subst e
      simp
      omega
  have HE0 : Hid (l.length = 0 → strOfNums l = ⟨#[]⟩ ∧ nvV l = nvD 0 l) := fun h => by
    obtain rfl := List.length_eq_zero_iff.1 h
    exact ⟨rfl, rfl⟩
  have HV1 : Hid (l.head? = some 45 → nvV l = (18446744073709551616 - nvD 0 l) % 18446744073709551616) := fun h => by unfold nvV; rw [if_pos h]
  have HV2 : Hid (¬ l.head? = some 45 → nvV l = nvD 0 l) := fun h => by unfold nvV; rw [if_neg h]
  obtain ⟨L, EL⟩ : ∃ L, Hid (L = l.length) := ⟨_, rfl⟩
  simp only [← EL.out] at HAT hsz HNT HTL HH HE0 hlN
  clear hlB
  generalize hs : strOfNums l = s at *
  have HS := hidd hs
  clear hs
  go_enter Tryd.func19, Tryd.ntmps19
  go_upto_region 2 with (go_at_call 18; with_reducible refine (HW.out).mono ?_; rintro e w1 ⟨rfl, v1, k1⟩)
  have HF := hidd (And.intro v1 k1)
  clear v1 k1 HW
  go_wp2
  go_loopw [4, 5] (fun v i wr => ∃ j : Nat, j ≤ L ∧ i = .int .i64 (j : Int) ∧ v = .int .u64 (nvD 0 (l.take j) : Int) ∧ wr = w1) (fun _ i _ => L - (intOf i).toNat)
  case atStart => exact ⟨0, by omega, rfl, rfl, rfl⟩
  case round =>
    obtain ⟨j, hj, rfl, rfl, rfl⟩ := hrel
    have j0 : (0 : Int) ≤ (j : Int) := Int.natCast_nonneg _
    by_cases hlt : j < L
    · obtain ⟨X, hX, eX, hX2⟩ := HAT.out j hlt
      have hn := HNT.out j hlt
      rw [eX] at hn
      have hml := HLT.out j
      have j1 : (j : Int) < (L : Int) := by omega
      have b1 : decide ((j : Int) < (L : Int)) = true := by simp; omega
      generalize nvD 0 (l.take j) = M at *
      by_cases h48 : 48 ≤ X
      · by_cases h57 : X ≤ 57
        · rw [if_pos (by omega)] at hn
          have a1 : decide ((48 : Int) ≤ (X : Int)) = true := by simp; omega
          have a2 : decide ((X : Int) ≤ 57) = true := by simp; omega
          have a3 : IntKind.u8.wrap ((X : Int) - 48) = (X : Int) - 48 := by rw [IntKind.wrap_u8']; omega
          have a4 : IntKind.u64.wrap ((X : Int) - 48) = (X : Int) - 48 := by rw [IntKind.wrap_u64]; omega
          have HVE : Hid (IntKind.u64.wrap (IntKind.u64.wrap (10 * (M : Int)) + ((X : Int) - 48)) = (((10 * M + ((X : Int) - 48).toNat) % 18446744073709551616 : Nat) : Int)) := by
            show _ = _
            rw [IntKind.wrap_u64, IntKind.wrap_u64]
            omega
          have HN := hidd hn
          clear hn eX
          go_wp2
          go_roundw
          case rel => exact ⟨j + 1, by omega, by go_num, by rw [HN.out, ← HVE.out], trivial⟩
          case measure => simp [intOf]; omega
        · rw [if_neg (by omega)] at hn
          have a1 : decide ((48 : Int) ≤ (X : Int)) = true := by simp; omega
          have a2 : decide ((X : Int) ≤ 57) = false := by simp; omega
          have a5 : ¬ X ≤ 57 := h57
          have HN := hidd hn
          clear hn eX
          go_wp2
          go_roundw
          case rel => exact ⟨j + 1, by omega, by go_num, by rw [HN.out], trivial⟩
          case measure => simp [intOf]; omega
      · rw [if_neg (by omega)] at hn
        have a1 : decide ((48 : Int) ≤ (X : Int)) = false := by simp; omega
        have a5 : ¬ 48 ≤ X := h48
        have HN := hidd hn
        clear hn eX
        go_wp2
        go_roundw
        case rel => exact ⟨j + 1, by omega, by go_num, by rw [HN.out], trivial⟩
        case measure => simp [intOf]; omega
    · obtain rfl : L = j := by omega
      rw [HTL.out]
      have hml := HLT.out L
      rw [HTL.out] at hml
      by_cases hl0 : L = 0
      · obtain ⟨e1, e2⟩ := HE0.out hl0
        have E2 := hidd e2
        clear e2
        subst e1
        subst hl0
        go_wp2
        go_ret
        exact ⟨by rw [E2.out]; rfl, HF.out⟩
      · obtain ⟨X, hX, eX, hX2⟩ := HAT.out 0 (by omega)
        have hhd := HH.out (by omega) X eX
        obtain ⟨n1, n2⟩ := HNE.out (fun e => by have := EL.out; rw [e] at this; simp at this; omega)
        have z1 : (0 : Int) < (L : Int) := by omega
        by_cases h45 : X = 45
        · have HVV := hidd (HV1.out (hhd.2 h45))
          have HX : Hid (IntKind.u64.wrap (-(nvD 0 l : Int)) = (((18446744073709551616 - nvD 0 l) % 18446744073709551616 : Nat) : Int)) := by
            show _ = _
            rw [IntKind.wrap_u64]
            omega
          subst h45
          clear hhd eX
          generalize nvD 0 l = M at *
          go_wp2
          go_ret
          exact ⟨by rw [HVV.out, ← HX.out]; rfl, HF.out⟩
        · have HVV := hidd (HV2.out (fun e => h45 (hhd.1 e)))
          have c1 : ((X : Int) == 45) = false := by simp; omega
          have c2 : (X == 45) = false := by simp; omega
          clear hhd eX
          generalize nvD 0 l = M at *
          go_wp2
          go_ret
          exact ⟨by rw [HVV.out]; rfl, HF.out⟩
end Go.Proofs.YtemmghneohnigabDoor
namespace Go.Proofs.YtemmghneohnigabDoor
open Go.RowKit
/-! The reference's View: literal. -/
set_option maxRecDepth 20000 in
set_option maxHeartbeats 4000000 in
theorem literal_any {w : World} {vb : Nat} {T : List Int} {p : Nat} (h : Vw w vb T p) (hB : Byt T) (hN : T.length ≤ 8192) (hp : p ≤ T.length + 1) :
    Calls Tryd.prog 21 #[.pointer (some ⟨vb, 0, none⟩)] w fun e w' => ∃ b p' ao cap, e = .returned (.slice ao b.length cap) ∧ LitV T p b p' ∧ Vw w' vb T p' ∧ Own w' w.heap.size 5 1 (.slice ao b.length cap) b.length (byc b) ∧ Chg w w' (fun b => b = vb) := by
  have hsz : (strOfNums T).size = T.length := strOfNums_size T
  have x0 := Blk.cell h 0
  have x1 := Blk.cell h 1
  have hvl := Blk.lt h
  simp at x0 x1
  by_cases hlt : p < T.length
  · have hx := str_ext T p T.length
    rw [List.take_length] at hx
    have hdl : (T.drop p).length = T.length - p := List.length_drop
    have HV := hidd (fun k => h.fresh (fresh_drewN w k))
    by_cases hu : ∃ b, UnqP (T.drop p) b
    · obtain ⟨b, hb⟩ := hu
      have HQ := hidd (fun w1 => runq_ok (hB.drop p) (by omega) hb w1)
      have hll : (lit b).length ≤ T.length - p := by rw [← hdl]; exact hb.2.length_le
      have h1 := lit_len b
      have h2 := pies_len b
      have HL : Hid (LitV T p b (p + (lit b).length + 1)) := ⟨hb.1, by omega, by omega, fun _ => by omega, fun b0 _ h0 => by obtain rfl := hb.uniq h0; exact ⟨rfl, rfl⟩⟩
      obtain ⟨N, eN⟩ : ∃ N, N = T.length := ⟨_, rfl⟩
      obtain ⟨M, eM⟩ : ∃ M, M = (lit b).length := ⟨_, rfl⟩
      rw [← eN] at hsz hlt hN hx hll hp
      rw [← eM] at HQ HL hll
      have j0 : (0 : Int) ≤ (p : Int) := Int.natCast_nonneg _
      have j1 : (p : Int) ≤ (N : Int) := by omega
      have b1 : decide ((N : Int) ≤ (p : Int)) = false := by simp; omega
      clear h hB hb eN eM hdl h1 h2
      generalize strOfNums (T.drop p) = sd at *
      generalize hss : strOfNums T = s at *
      have HSS := hidd hss
      clear hss
      go_enter Tryd.func21, Tryd.ntmps21
      go_wp2
      go_quiet (fail)
      have HV1 := hidd (HV.out nq)
      have HC1 := hidd (Chg.of_below (fun b => b = vb) (fresh_drewN w nq))
      have HW1 : Hid (w.heap.size ≤ (w.drewN nq).heap.size) := (fresh_drewN w nq).size
      generalize w.drewN nq = w1 at *
      have y0 := Blk.cell HV1.out 0
      have y1 := Blk.cell HV1.out 1
      simp at y0 y1
      rw [HSS.out] at y0
      clear x0 x1
      have KS : Hid (∀ w' : World, Below w1.heap.size w1 w' → w'.cell? ⟨vb, 0, none⟩ = some (.string s) ∧ w'.cell? ⟨vb, 1, none⟩ = some (.int .i64 (p : Int))) := fun w' f => ⟨fresh_cell f y0, fresh_cell f y1⟩
      have s0 := KS.out _ (Below.refl w1.heap.size w1).drew
      go_upto_region 3 with fail
      go_region_held3 (fun w' => w'.cell? ⟨vb, 0, none⟩ = some (.string s) ∧ w'.cell? ⟨vb, 1, none⟩ = some (.int .i64 (p : Int)))
        (first | with_reducible exact s0 | with_reducible exact s5 | go_keep)
        (first | (go_at_call 9; with_reducible refine (HQ.out _).mono ?_; rintro e w5 ⟨ao, cap, rfl, o5, f5⟩; have f15 := fresh_trans (Below.refl w1.heap.size w1).drew f5; have s5 := KS.out _ f15))
      have v5 := HV1.out.fresh f15
      have z1 := Blk.cell v5 1
      have z2 := Blk.frozen v5 1
      simp at z1
      have cs := Chg.of_set w5 vb 1 (.int .i64 ((p : Int) + (M : Int) + 1))
      have HVF : Hid (Vw (w5.setCell ⟨vb, 1, none⟩ (.int .i64 ((p : Int) + (M : Int) + 1))) vb T (p + M + 1)) := by
        have := v5.put (p + M + 1)
        rw [show ((p + M + 1 : Nat) : Int) = (p : Int) + (M : Int) + 1 by omega] at this
        exact this
      have HOF := hidd ((o5.weaken (base' := w.heap.size) HW1.out).chg cs (fun x hx e => by subst e; exact o5.ne_blk v5 (by decide) hx))
      have HCF := hidd ((HC1.out.post f15).trans cs (fun _ _ h => h))
      clear f5 f15 o5 v5 s0 s5 y0 y1
      go_wp2
      go_ret
      exact ⟨b, p + M + 1, ao, cap, rfl, HL.out, HVF.out, HOF.out, HCF.out⟩
    · have HQ := hidd (fun w1 => runq_bad (hB.drop p) (by omega) hu w1)
      have HL : Hid (LitV T p [] (p + 1)) := ⟨byt_nil, by simp, by omega, fun _ => by omega, fun b0 _ h0 => absurd ⟨b0, h0⟩ hu⟩
      obtain ⟨N, eN⟩ : ∃ N, N = T.length := ⟨_, rfl⟩
      rw [← eN] at hsz hlt hN hx hp
      have j0 : (0 : Int) ≤ (p : Int) := Int.natCast_nonneg _
      have j1 : (p : Int) ≤ (N : Int) := by omega
      have b1 : decide ((N : Int) ≤ (p : Int)) = false := by simp; omega
      clear h hB hu eN hdl
      generalize strOfNums (T.drop p) = sd at *
      generalize hss : strOfNums T = s at *
      have HSS := hidd hss
      clear hss
      go_enter Tryd.func21, Tryd.ntmps21
      go_wp2
      go_quiet (fail)
      have HV1 := hidd (HV.out nq)
      have HC1 := hidd (Chg.of_below (fun b => b = vb) (fresh_drewN w nq))
      generalize w.drewN nq = w1 at *
      have y0 := Blk.cell HV1.out 0
      have y1 := Blk.cell HV1.out 1
      simp at y0 y1
      rw [HSS.out] at y0
      clear x0 x1
      have KS : Hid (∀ w' : World, Below w1.heap.size w1 w' → w'.cell? ⟨vb, 0, none⟩ = some (.string s) ∧ w'.cell? ⟨vb, 1, none⟩ = some (.int .i64 (p : Int))) := fun w' f => ⟨fresh_cell f y0, fresh_cell f y1⟩
      have s0 := KS.out _ (Below.refl w1.heap.size w1).drew
      go_upto_region 3 with fail
      go_region_held3 (fun w' => w'.cell? ⟨vb, 0, none⟩ = some (.string s) ∧ w'.cell? ⟨vb, 1, none⟩ = some (.int .i64 (p : Int)))
        (first | with_reducible exact s0 | with_reducible exact s5 | go_keep)
        (first | (go_at_call 9; with_reducible refine (HQ.out _).mono ?_; rintro e w5 ⟨rfl, f5⟩; have f15 := fresh_trans (Below.refl w1.heap.size w1).drew f5; have s5 := KS.out _ f15))
      have v5 := HV1.out.fresh f15
      have z1 := Blk.cell v5 1
      have z2 := Blk.frozen v5 1
      simp at z1
      have cs := Chg.of_set w5 vb 1 (.int .i64 ((p : Int) + 1))
      have HVF := hidd (v5.put1 p)
      have HCF := hidd ((HC1.out.post f15).trans cs (fun _ _ h => h))
      clear f5 f15 v5 s0 s5 y0 y1
      go_wp2
      go_ret
      exact ⟨[], p + 1, none, 0, rfl, HL.out, HVF.out, own_nil _ _ _ _ _, HCF.out⟩
  · have HL : Hid (LitV T p [] p) := ⟨byt_nil, by simp, hp, fun h => absurd h hlt, fun _ h => absurd h hlt⟩
    have HV := hidd (fun k => h.fresh (fresh_drewN w k))
    have HC := hidd (fun k => Chg.of_below (fun b => b = vb) (fresh_drewN w k))
    obtain ⟨N, eN⟩ : ∃ N, N = T.length := ⟨_, rfl⟩
    rw [← eN] at hsz hlt hN
    have b1 : decide ((N : Int) ≤ (p : Int)) = true := by simp; omega
    clear h hB eN hp
    generalize strOfNums T = s at *
    go_enter Tryd.func21, Tryd.ntmps21
    go_wp2
    go_quiet (fail)
    go_wp2
    go_ret
    exact ⟨[], p, none, 0, rfl, HL.out, HV.out _, own_nil _ _ _ _ _, HC.out _⟩
end Go.Proofs.YtemmghneohnigabDoor
namespace Go.Proofs.YtemmghneohnigabDoor
open Go.RowKit
/-! The reference's Parse: its line as it is read. -/
/-- the answer's cell, the view, the line and its lists -/
structure Rz (w0 : World) (T : List Int) (p : Nat) (wl : List Int) (n : Int) (nums : List Int) (bo : Option Addr) (bc u : Nat) (g t : List Int) (ao : Option Addr) (ac : Nat) (st : List (List Int)) (co : Option Addr) (cc : Nat) (wr : World) : Prop where
  res : Blk wr w0.heap.size 32 lz7
  vw : Vw wr (w0.heap.size + 1) T p
  ln : Blk wr (w0.heap.size + 2) 32 (lnA (strOfNums wl) n ao t.length ac bo nums.length bc (u : Int) (strOfNums g) co st.length cc)
  on : Own wr w0.heap.size 3 1 (.slice bo nums.length bc) nums.length (mkN nums)
  ot : Own wr w0.heap.size 5 1 (.slice ao t.length ac) t.length (byc t)
  os : Own wr w0.heap.size 9 1 (.slice co st.length cc) st.length (stc st)
  low : Below w0.heap.size w0 wr
section
variable {w0 : World} {T : List Int} {p : Nat} {wl : List Int} {n : Int} {nums : List Int} {bo : Option Addr} {bc u : Nat} {g t : List Int} {ao : Option Addr} {ac : Nat} {st : List (List Int)} {co : Option Addr} {cc : Nat} {wr w' : World}
theorem Rz.fresh (h : Rz w0 T p wl n nums bo bc u g t ao ac st co cc wr) (f : Below wr.heap.size wr w') : Rz w0 T p wl n nums bo bc u g t ao ac st co cc w' :=
  ⟨h.res.fresh f, h.vw.fresh f, h.ln.fresh f, h.on.kept f, h.ot.kept f, h.os.kept f, fresh_trans h.low f⟩
theorem Rz.view (h : Rz w0 T p wl n nums bo bc u g t ao ac st co cc wr) {p' : Nat} (v : Vw w' (w0.heap.size + 1) T p') (k : Chg wr w' (fun b => b = w0.heap.size + 1)) : Rz w0 T p' wl n nums bo bc u g t ao ac st co cc w' :=
  ⟨h.res.chg k (by omega), v, h.ln.chg k (by omega), h.on.chg k (fun x hx e => by subst e; exact h.on.ne_blk h.vw (by decide) hx), h.ot.chg k (fun x hx e => by subst e; exact h.ot.ne_blk h.vw (by decide) hx), h.os.chg k (fun x hx e => by subst e; exact h.os.ne_blk h.vw (by decide) hx), k.below h.low h.low.size (fun x hx => by omega)⟩
/-- a cell of the line is written -/
theorem Rz.set (h : Rz w0 T p wl n nums bo bc u g t ao ac st co cc wr) (j : Nat) (v : Value) {wl' : List Int} {n' : Int} {nums' : List Int} {bo' : Option Addr} {bc' u' : Nat} {g' t' : List Int} {ao' : Option Addr} {ac' : Nat} {st' : List (List Int)} {co' : Option Addr} {cc' : Nat}
    (hrow : (lnA (strOfNums wl) n ao t.length ac bo nums.length bc (u : Int) (strOfNums g) co st.length cc).setIfInBounds j v = lnA (strOfNums wl') n' ao' t'.length ac' bo' nums'.length bc' (u' : Int) (strOfNums g') co' st'.length cc')
    (h1 : Own wr w0.heap.size 3 1 (.slice bo' nums'.length bc') nums'.length (mkN nums')) (h2 : Own wr w0.heap.size 5 1 (.slice ao' t'.length ac') t'.length (byc t')) (h3 : Own wr w0.heap.size 9 1 (.slice co' st'.length cc') st'.length (stc st')) :
    Rz w0 T p wl' n' nums' bo' bc' u' g' t' ao' ac' st' co' cc' (wr.setCell ⟨w0.heap.size + 2, j, none⟩ v) := by
  have c := Chg.of_set wr (w0.heap.size + 2) j v
  have hl := h.ln.put j v
  rw [hrow] at hl
  exact ⟨h.res.chg c (by omega), h.vw.chg c (by omega), hl, h1.chg c (fun x hx e => by subst e; exact h1.ne_blk h.ln (by decide) hx), h2.chg c (fun x hx e => by subst e; exact h2.ne_blk h.ln (by decide) hx), h3.chg c (fun x hx e => by subst e; exact h3.ne_blk h.ln (by decide) hx), c.below h.low h.low.size (fun x hx => by omega)⟩
/-- behind an append to the numbers -/
theorem Rz.appN (h : Rz w0 T p wl n nums bo bc u g t ao ac st co cc wr) {x : Int} {w7 : World} {g' cap' : Nat} (o7 : Own w7 w0.heap.size 3 1 (.slice (some ⟨g', 0, none⟩) (nums.length + 1) cap') (nums.length + 1) (mkN (nums ++ [x]))) (a7 : App (wr.alloc (.cells #[.int .i64 x] 3)) w7 (.slice bo nums.length bc) (.slice (some ⟨g', 0, none⟩) (nums.length + 1) cap')) :
    w7.cell? ⟨w0.heap.size + 2, 3, none⟩ = some (.slice bo nums.length bc) ∧ w7.frozen? ⟨w0.heap.size + 2, 3, none⟩ = false ∧ Rz w0 T p wl n (nums ++ [x]) (some ⟨g', 0, none⟩) cap' u g t ao ac st co cc (w7.setCell ⟨w0.heap.size + 2, 3, none⟩ (.slice (some ⟨g', 0, none⟩) (nums.length + 1) cap')) := by
  have h6 := h.fresh (fresh_alloc wr (.cells #[.int .i64 x] 3))
  have ca := Chg.of_app a7
  have h7 : Rz w0 T p wl n nums bo bc u g t ao ac st co cc w7 ∨ True := .inr trivial
  clear h7
  have hl7 := h6.ln.chg ca (h6.on.off_blk h6.ln (by decide))
  have hlen : (nums ++ [x]).length = nums.length + 1 := by simp
  have cs := Chg.of_set w7 (w0.heap.size + 2) 3 (.slice (some ⟨g', 0, none⟩) (nums.length + 1) cap')
  have hr7 := h6.res.chg ca (h6.on.off_blk h6.res (by decide))
  have hv7 : Vw w7 (w0.heap.size + 1) T p := h6.vw.chg ca (h6.on.off_blk h6.vw (by decide))
  have ot7 := a7.own h6.ot (h6.on.unlike h6.ot (by decide))
  have os7 := a7.own h6.os (h6.on.unlike h6.os (by decide))
  have low7 := a7.below h6.low h6.on (Nat.le_refl _) h6.low.size
  refine ⟨by have := hl7.cell 3; simpa using this, hl7.frozen 3, ⟨hr7.chg cs (by omega), hv7.chg cs (by omega), ?_, ?_, ot7.chg cs (fun x hx e => by subst e; exact ot7.ne_blk hl7 (by decide) hx), os7.chg cs (fun x hx e => by subst e; exact os7.ne_blk hl7 (by decide) hx), cs.below low7 low7.size (fun x hx => by omega)⟩⟩
  · rw [hlen]; exact hl7.put 3 _
  · rw [hlen]; exact o7.chg cs (fun x hx e => by subst e; exact o7.ne_blk hl7 (by decide) hx)
/-- behind an append to the stops -/
theorem Rz.appS (h : Rz w0 T p wl n nums bo bc u g t ao ac st co cc wr) {b : List Int} {w7 : World} {g' cap' : Nat} (o7 : Own w7 w0.heap.size 9 1 (.slice (some ⟨g', 0, none⟩) (st.length + 1) cap') (st.length + 1) (stc (st ++ [b]))) (a7 : App (wr.alloc (.cells #[.string (strOfNums b)] 9)) w7 (.slice co st.length cc) (.slice (some ⟨g', 0, none⟩) (st.length + 1) cap')) :
    w7.cell? ⟨w0.heap.size + 2, 6, none⟩ = some (.slice co st.length cc) ∧ w7.frozen? ⟨w0.heap.size + 2, 6, none⟩ = false ∧ Rz w0 T p wl n nums bo bc u g t ao ac (st ++ [b]) (some ⟨g', 0, none⟩) cap' (w7.setCell ⟨w0.heap.size + 2, 6, none⟩ (.slice (some ⟨g', 0, none⟩) (st.length + 1) cap')) := by
  have h6 := h.fresh (fresh_alloc wr (.cells #[.string (strOfNums b)] 9))
  have ca := Chg.of_app a7
  have hl7 := h6.ln.chg ca (h6.os.off_blk h6.ln (by decide))
  have hlen : (st ++ [b]).length = st.length + 1 := by simp
  have cs := Chg.of_set w7 (w0.heap.size + 2) 6 (.slice (some ⟨g', 0, none⟩) (st.length + 1) cap')
  have hr7 := h6.res.chg ca (h6.os.off_blk h6.res (by decide))
  have hv7 : Vw w7 (w0.heap.size + 1) T p := h6.vw.chg ca (h6.os.off_blk h6.vw (by decide))
  have ot7 := a7.own h6.ot (h6.os.unlike h6.ot (by decide))
  have on7 := a7.own h6.on (h6.os.unlike h6.on (by decide))
  have low7 := a7.below h6.low h6.os (Nat.le_refl _) h6.low.size
  refine ⟨by have := hl7.cell 6; simpa using this, hl7.frozen 6, ⟨hr7.chg cs (by omega), hv7.chg cs (by omega), ?_, on7.chg cs (fun x hx e => by subst e; exact on7.ne_blk hl7 (by decide) hx), ot7.chg cs (fun x hx e => by subst e; exact ot7.ne_blk hl7 (by decide) hx), ?_, cs.below low7 low7.size (fun x hx => by omega)⟩⟩
  · rw [hlen]; exact hl7.put 6 _
  · rw [hlen]; exact o7.chg cs (fun x hx e => by subst e; exact o7.ne_blk hl7 (by decide) hx)
end
/-- what the reference's Parse answers, from what it read and Print's answer -/
theorem par_good {T wl : List Int} {n : Int} {nums : List Int} {u : Nat} {g t : List Int} {st : List (List Int)} {ao bo co : Option Addr} {ac bc cc : Nat} {w w' : World} (hR : ReadV T wl n nums u g t st) (hP : LineP wl n nums u g t st T) (hnr : ∀ y ∈ nums, -9223372036854775808 ≤ y ∧ y ≤ 9223372036854775807) (hu : u < 18446744073709551616) (hg : Byt g) (ht : Byt t) (hs : ∀ s ∈ st, Byt s)
    (o1 : Own w' w.heap.size 5 1 (.slice ao t.length ac) t.length (byc t)) (o2 : Own w' w.heap.size 3 1 (.slice bo nums.length bc) nums.length (mkN nums)) (o3 : Own w' w.heap.size 9 1 (.slice co st.length cc) st.length (stc st)) :
    ParA T w (.returned (.tuple #[.agg (lnA (strOfNums wl) n ao t.length ac bo nums.length bc (u : Int) (strOfNums g) co st.length cc), .int .i64 0])) w' := by
  obtain ⟨k, rfl, q⟩ := hP.toQ hnr hu hg ht hs
  refine .inl ⟨k, n, nums, u, g, t, st, ao, ac, bo, bc, co, cc, q, fun k' n' nums' u' g' t' st' q' => ?_, rfl, o1, o2, o3⟩
  obtain ⟨e, e2, e3, e4, e5, e6, e7⟩ := read_line hR q'
  exact ⟨(nm_inj q.kk q'.kk e).symm, e2.symm, e3.symm, e4.symm, e5.symm, e6.symm, e7.symm⟩
end Go.Proofs.YtemmghneohnigabDoor
