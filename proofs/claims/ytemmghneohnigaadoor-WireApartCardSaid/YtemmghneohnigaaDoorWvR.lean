import Derived.Test.YtemmghneohnigaaDoorWvQ
import Derived.Test.YtemmghneohnigaaDoorWvG
namespace Go.Proofs.YtemmghneohnigaaDoor
open Go.RowKit
/-! A line's text, as data. -/
def Asc (l : List Int) : Prop := ∀ x ∈ l, 32 ≤ x ∧ x ≤ 126
theorem Asc.app {a b : List Int} (h : Asc a) (k : Asc b) : Asc (a ++ b) := fun x hx => by
  rcases List.mem_append.1 hx with hx | hx
  · exact h x hx
  · exact k x hx
theorem Asc.cons {b : List Int} (k : Asc b) : Asc (32 :: b) := fun x hx => by
  rcases List.mem_cons.1 hx with hx | hx
  · omega
  · exact k x hx
theorem asc_nil : Asc [] := fun _ h => nomatch h
theorem Asc.byt {l : List Int} (h : Asc l) : Byt l := fun x hx => by have := h x hx; omega
theorem numL_asc (n : Int) : Asc (numL n) := fun x hx => by
  obtain ⟨b, hb, rfl⟩ := List.mem_map.1 hx
  unfold Lib.itoa at hb
  split at hb
  · rcases List.mem_cons.1 hb with e | e
    · rw [e]; decide
    · have := dec_dig _ b e; omega
  · have := dec_dig _ b hb; omega
theorem decL_asc (n : Nat) : Asc (decL n) := by rw [← numL_pos]; exact numL_asc _
theorem nmL_asc : ∀ (l : List Int), Asc (nmL l)
  | [] => asc_nil
  | x :: r => by
    have : nmL (x :: r) = 32 :: (numL x ++ nmL r) := by simp [nmL]
    rw [this]
    exact ((numL_asc x).app (nmL_asc r)).cons
theorem stL_asc : ∀ (l : List (List Int)), (∀ x ∈ l, Byt x) → Asc (stL l)
  | [], _ => asc_nil
  | x :: r, h => by
    have : stL (x :: r) = 32 :: (lit x ++ stL r) := by simp [stL]
    rw [this]
    exact (Asc.app (lit_asc (h x (by simp))) (stL_asc r (fun y hy => h y (by simp [hy])))).cons
theorem nm_asc {k : Nat} (hk : k < 6) : Asc (wNm k) ∧ 2 ≤ (wNm k).length := by
  match k, hk with
  | 0, _ => exact ⟨(by decide : ∀ x ∈ wNm 0, 32 ≤ x ∧ x ≤ 126), by decide⟩
  | 1, _ => exact ⟨(by decide : ∀ x ∈ wNm 1, 32 ≤ x ∧ x ≤ 126), by decide⟩
  | 2, _ => exact ⟨(by decide : ∀ x ∈ wNm 2, 32 ≤ x ∧ x ≤ 126), by decide⟩
  | 3, _ => exact ⟨(by decide : ∀ x ∈ wNm 3, 32 ≤ x ∧ x ≤ 126), by decide⟩
  | 4, _ => exact ⟨(by decide : ∀ x ∈ wNm 4, 32 ≤ x ∧ x ≤ 126), by decide⟩
  | 5, _ => exact ⟨(by decide : ∀ x ∈ wNm 5, 32 ≤ x ∧ x ≤ 126), by decide⟩
section
variable {k : Nat} {n : Int} {nums : List Int} {u : Nat} {g t : List Int} {st : List (List Int)} {x : List Int}
theorem LineQ.asc (h : LineQ k n nums u g t st x) : Asc x ∧ 4 ≤ x.length ∧ x.length ≤ 8192 := by
  obtain ⟨_, _, _, e, hl⟩ := h.form
  have hb : Asc (bhL k u g t st) := by
    unfold bhL
    split
    · exact ((decL_asc u).app (Asc.cons (Asc.app (lit_asc h.bg) (Asc.cons (Asc.app (lit_asc h.bt) (stL_asc st h.bs)))))).cons
    · split
      · exact Asc.cons (lit_asc h.bt)
      · exact asc_nil
  obtain ⟨h1, h2⟩ := nm_asc h.kk
  have h3 : 0 < (numL n).length := List.length_pos_iff.2 num_ne
  refine ⟨?_, ?_, hl⟩
  · rw [e]
    exact h1.app (((numL_asc n).app ((nmL_asc nums).app hb)).cons)
  · rw [e]
    simp
    omega
/-- a line that Print knows, with its bounds -/
theorem LineP.toQ {wl : List Int} (h : LineP wl n nums u g t st x) (hnr : ∀ y ∈ nums, -9223372036854775808 ≤ y ∧ y ≤ 9223372036854775807) (hu : u < 18446744073709551616) (hg : Byt g) (ht : Byt t) (hs : ∀ s ∈ st, Byt s) : ∃ k, wl = wNm k ∧ LineQ k n nums u g t st x := by
  have h' := h
  obtain ⟨k, hk, e, _⟩ := h
  exact ⟨k, e, by rw [← e]; exact h', hk, hnr, hu, hg, ht, hs⟩
theorem LineP.one {wl : List Int} {y : List Int} (h : LineP wl n nums u g t st x) (h' : LineP wl n nums u g t st y) : x = y := by
  obtain ⟨k, hk, e, _, _, _, ex, _⟩ := h
  obtain ⟨k', hk', e', _, _, _, ey, _⟩ := h'
  obtain rfl := nm_inj hk hk' (e.symm.trans e')
  rw [ex, ey]
end
/-- what Parse answers, the empty line written out -/
def ParB (text : List Int) (w : World) (e : Ending) (w' : World) : Prop :=
  (∃ k n nums u g t st ao ac bo bc co cc, LineQ k n nums u g t st text ∧ (∀ k' n' nums' u' g' t' st', LineQ k' n' nums' u' g' t' st' text → k' = k ∧ n' = n ∧ nums' = nums ∧ u' = u ∧ g' = g ∧ t' = t ∧ st' = st) ∧ e = .returned (.tuple #[.agg (lnA (strOfNums (wNm k)) n ao t.length ac bo nums.length bc (u : Int) (strOfNums g) co st.length cc), .int .i64 0]) ∧ Own w' w.heap.size 5 1 (.slice ao t.length ac) t.length (byc t) ∧ Own w' w.heap.size 3 1 (.slice bo nums.length bc) nums.length (mkN nums) ∧ Own w' w.heap.size 9 1 (.slice co st.length cc) st.length (stc st)) ∨ ((¬ ∃ k n nums u g t st, LineQ k n nums u g t st text) ∧ e = .returned (.tuple #[.agg #[.string ⟨#[]⟩, .int .i64 0, .slice none 0 0, .slice none 0 0, .int .u64 0, .string ⟨#[]⟩, .slice none 0 0], .int .i64 220]))
theorem parse_all {w : World} {text : List Int} (hB : Byt text) (hmax : text.length ≤ 140737488351232) (hE : Env w) :
    Calls Tryd.prog 16 #[.string (strOfNums text)] w fun e w' => ParB text w e w' ∧ Below w.heap.size w w' := parse_any hB hmax hE
theorem mkN_fun (l : List Int) : (fun j => Value.int .i64 (l.getD j 0)) = mkN l := rfl
/-- a list with its marks, read up to them -/
theorem given_rd {w : World} {base : Nat} {e : TypeId} {g c n : Nat} {cs cs' : Nat → Value} (h : Own w base e 1 (.slice (some ⟨g, 0, none⟩) (n + 64) c) (n + 64) cs) (k : ∀ j, j < n → cs j = cs' j) : RdA w (some ⟨g, 0, none⟩) 1 n c cs' := by
  refine (h.short (m := n) (by omega)).congr (fun j hj => k j (by omega))
end Go.Proofs.YtemmghneohnigaaDoor
