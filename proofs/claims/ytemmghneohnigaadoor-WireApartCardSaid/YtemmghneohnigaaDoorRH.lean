import Derived.Test.YtemmghneohnigaaDoorWrGN
import Derived.Test.YtemmghneohnigaaDoorWrGT
import Derived.Test.YtemmghneohnigaaDoorWrGA
import Derived.Test.YtemmghneohnigaaDoorWrEN
import Derived.Test.YtemmghneohnigaaDoorWrET
import Derived.Test.YtemmghneohnigaaDoorWrEA
namespace Go.Proofs.YtemmghneohnigaaDoor
open Go.RowKit
/-! Print of a line whose word is none. -/
theorem wordOf_none {l : List Int} (hB : Byt l) (hl : ∀ k, k < 6 → l ≠ wNm k) (w : World) : Calls Tryd.prog 29 #[.string (strOfNums l)] w fun e w' => e = .returned (.tuple #[.agg wz, .bool false]) ∧ Below w.heap.size w w' :=
  (wordOf_any hB w).mono (by
    rintro e w' ⟨hf, ⟨k, hk, rfl, _⟩ | ⟨_, rfl⟩⟩
    · exact absurd rfl (hl k hk)
    · exact ⟨rfl, hf⟩)
set_option maxRecDepth 20000 in
set_option maxHeartbeats 4000000 in
theorem print_no {w : World} {wl : List Int} (hwB : Byt wl) (hwl : ∀ k, k < 6 → wl ≠ wNm k) {n : Int} {g : List Int} {u tm nm sm : Nat} {ao bo co : Option Addr} {ac bc cc : Nat} (hE : Env w) :
    Calls Tryd.prog 14 #[.agg (lnA (strOfNums wl) n ao tm ac bo nm bc (u : Int) (strOfNums g) co sm cc)] w fun e w' => e = .returned (.tuple #[.string ⟨#[]⟩, .int .i64 220]) ∧ Below w.heap.size w w' := by
  have HWO := hidd (fun w => wordOf_none hwB hwl w)
  have SW5 : Hid ((Tryd.prog.info? 63).map (·.size) = some wz.size) := sizeWd
  have SO5 : Hid ((#[.string ⟨#[]⟩, .int .i64 0, .nilFunc, .nilFunc, .nilFunc] : Array Value).size = wz.size) := rfl
  have S15 : Hid (wz.all (·.oneCell') = true) := by show _ = _; decide +kernel
  generalize hT : wz = T at *
  have hbig := hE.big
  have HB0 := hidd (Blk.new w 38 (lnA (strOfNums wl) n ao tm ac bo nm bc (u : Int) (strOfNums g) co sm cc))
  have HF0 := hidd (fresh_alloc w (.cells (lnA (strOfNums wl) n ao tm ac bo nm bc (u : Int) (strOfNums g) co sm cc) 38))
  clear hE hwB hwl hT
  generalize strOfNums wl = wn at *
  generalize strOfNums g = gd at *
  go_enter Tryd.func14, Tryd.ntmps14
  go_upto_region 1 with fail
  generalize w.alloc (.cells (lnA wn n ao tm ac bo nm bc (u : Int) gd co sm cc) 38) = w1 at *
  obtain ⟨R, eR⟩ : ∃ R, R = w.heap.size := ⟨_, rfl⟩
  have ER := hidd eR
  rw [← eR] at HB0 ⊢
  have hR6 : 6 ≤ R := by omega
  clear eR
  have x0 := HB0.out.cell 0
  simp at x0
  go_upto_region 2 with (first | (go_at_call 29; with_reducible refine (HWO.out _).mono ?_; rintro e w4 ⟨rfl, f4⟩) | refine wpList_store_row rfl 63 _ _ rfl w4.heap.size T rfl rfl 63 _ (Blk.new _ _ _) SW5.out SO5.out S15.out ?_)
  have hB5 := (Blk.new w4 63 #[.string ⟨#[]⟩, .int .i64 0, .nilFunc, .nilFunc, .nilFunc]).set T
  have hF5 := below_setRow (fresh_alloc w4 (.cells #[.string ⟨#[]⟩, .int .i64 0, .nilFunc, .nilFunc, .nilFunc] 63)) (Nat.le_refl _) T
  generalize (w4.alloc (.cells #[.string ⟨#[]⟩, .int .i64 0, .nilFunc, .nilFunc, .nilFunc] 63)).setRow w4.heap.size T = w5 at *
  have HF5 := hidd (fresh_trans HF0.out (fresh_trans f4 hF5))
  clear f4 hF5 x0 SW5 SO5 S15 HWO hB5
  generalize w4.heap.size = wb
  go_upto_region 3 with fail
  go_wp2
  go_ret2
  exact ⟨rfl, HF5.out⟩
end Go.Proofs.YtemmghneohnigaaDoor
namespace Go.Proofs.YtemmghneohnigaaDoor
open Go.RowKit
/-! Print, as data. -/
def Sim (a b : List Int) : Prop := (8192 < a.length ∧ 8192 < b.length) ∨ a = b
theorem Sim.pl {a b : List Int} (h : Sim a b) (x : List Int) : Sim (pl a x) (b ++ 32 :: lit x) := by
  have hx := lit_len x
  have hp := pies_len x
  rcases h with ⟨h1, h2⟩ | rfl
  · left
    unfold _root_.Go.Proofs.YtemmghneohnigaaDoor.pl
    rw [if_pos h1]
    exact ⟨h1, by rw [List.length_append]; omega⟩
  · unfold _root_.Go.Proofs.YtemmghneohnigaaDoor.pl
    by_cases h : 8192 < a.length
    · rw [if_pos h]
      left
      exact ⟨h, by rw [List.length_append]; omega⟩
    · rw [if_neg h]
      by_cases hl : x.length ≤ 8192
      · right; rw [List.take_of_length_le hl]
      · left
        have h3 := lit_len (x.take 8192)
        have h4 := pies_len (x.take 8192)
        have h5 : (x.take 8192).length = 8192 := by rw [List.length_take]; omega
        simp only [List.length_append, List.length_cons]
        omega
def stL (st : List (List Int)) : List Int := st.flatMap (fun s => 32 :: lit s)
theorem Sim.fold {st : List (List Int)} : ∀ {a b : List Int}, Sim a b → Sim (st.foldl _root_.Go.Proofs.YtemmghneohnigaaDoor.pl a) (b ++ stL st) := by
  induction st with
  | nil => intro a b h; simpa [stL] using h
  | cons x r ih =>
    intro a b h
    have := ih (h.pl x)
    simpa [stL, List.append_assoc] using this
/-- the text of a line -/
def lineL (k : Nat) (n : Int) (nums : List Int) (u : Nat) (g t : List Int) (st : List (List Int)) : List Int :=
  if k = 0 then (hdL k n nums ++ 32 :: decL u) ++ 32 :: lit g ++ 32 :: lit t ++ stL st else if k = 4 then hdL k n nums ++ 32 :: lit t else hdL k n nums
def cntW (k : Nat) : Nat := if k = 0 then 6 else if k = 3 ∨ k = 5 then 1 else 0
def onlyW (k u : Nat) (g t : List Int) (st : List (List Int)) : Prop := if k = 0 then True else if k = 4 then (u = 0 ∧ g = [] ∧ st = []) else (t = [] ∧ u = 0 ∧ g = [] ∧ st = [])
/-- x is the text of the line -/
def LineP (wl : List Int) (n : Int) (nums : List Int) (u : Nat) (g t : List Int) (st : List (List Int)) (x : List Int) : Prop :=
  ∃ k, k < 6 ∧ wl = wNm k ∧ (0 ≤ n ∧ n ≤ 2147483647) ∧ nums.length = cntW k ∧ onlyW k u g t st ∧ x = lineL k n nums u g t st ∧ x.length ≤ 8192
theorem nm_inj : ∀ {j k : Nat}, j < 6 → k < 6 → wNm j = wNm k → j = k := by
  have h : ∀ j, j < 6 → ∀ k, k < 6 → wNm j = wNm k → j = k := by decide
  intro j k hj hk e
  exact h j hj k hk e
/-- what Print answers -/
def PrA (wl : List Int) (n : Int) (nums : List Int) (u : Nat) (g t : List Int) (st : List (List Int)) (e : Ending) : Prop :=
  (∃ x, LineP wl n nums u g t st x ∧ e = .returned (.tuple #[.string (strOfNums x), .int .i64 0])) ∨ ((¬ ∃ x, LineP wl n nums u g t st x) ∧ e = .returned (.tuple #[.string ⟨#[]⟩, .int .i64 220]))
theorem PrR.toA {k : Nat} {n : Int} {nums : List Int} {u : Nat} {g t : List Int} {st : List (List Int)} {T : List Int} {e : Ending} (hk : k < 6) (h1 : 0 ≤ n ∧ n ≤ 2147483647) (h2 : nums.length = cntW k) (h3 : onlyW k u g t st) (hS : Sim T (lineL k n nums u g t st)) (h : PrR T e) : PrA (wNm k) n nums u g t st e := by
  rcases h with ⟨hl, he⟩ | ⟨hl, he⟩
  · right
    refine ⟨?_, he⟩
    rintro ⟨x, j, hj, ej, _, _, _, rfl, hx⟩
    obtain rfl := nm_inj hk hj ej
    rcases hS with ⟨_, q⟩ | q
    · omega
    · rw [q] at hl; omega
  · left
    rcases hS with ⟨q, _⟩ | q
    · exact absurd q hl
    · exact ⟨T, ⟨k, hk, rfl, h1, h2, h3, q, by omega⟩, he⟩
theorem stL_len : ∀ (st : List (List Int)), 3 * st.length ≤ (stL st).length
  | [] => by simp [stL]
  | x :: r => by
    have h := stL_len r
    have h1 := lit_len x
    have e : (stL (x :: r)).length = (lit x).length + 1 + (stL r).length := by simp [stL]; omega
    rw [e, List.length_cons]
    omega
theorem toom_long {k : Nat} {n : Int} {nums : List Int} {u : Nat} {g t : List Int} {st : List (List Int)} (h3 : onlyW k u g t st) (h : 8192 < t.length ∨ 8192 < g.length ∨ 2730 < st.length) : 8192 < (lineL k n nums u g t st).length := by
  have a1 := lit_len g
  have a2 := pies_len g
  have a3 := lit_len t
  have a4 := pies_len t
  have a5 := stL_len st
  unfold onlyW at h3
  unfold lineL
  by_cases e0 : k = 0
  · rw [if_pos e0]
    simp only [List.length_append, List.length_cons]
    omega
  · rw [if_neg e0] at h3 ⊢
    by_cases e4 : k = 4
    · rw [if_pos e4] at h3 ⊢
      obtain ⟨_, rfl, rfl⟩ := h3
      simp only [List.length_append, List.length_cons, List.length_nil] at h ⊢
      omega
    · rw [if_neg e4] at h3
      obtain ⟨rfl, _, rfl, rfl⟩ := h3
      simp at h
theorem bad_none {k : Nat} {n : Int} {nums : List Int} {u : Nat} {g t : List Int} {st : List (List Int)} (hk : k < 6) (h : ¬ ((0 ≤ n ∧ n ≤ 2147483647) ∧ nums.length = cntW k ∧ onlyW k u g t st ∧ ¬ (8192 < t.length ∨ 8192 < g.length ∨ 2730 < st.length))) : ¬ ∃ x, LineP (wNm k) n nums u g t st x := by
  rintro ⟨x, j, hj, ej, h1, h2, h3, rfl, hx⟩
  obtain rfl := nm_inj hk hj ej
  refine h ⟨h1, h2, h3, fun q => ?_⟩
  have := toom_long (n := n) (nums := nums) h3 q
  omega
end Go.Proofs.YtemmghneohnigaaDoor
