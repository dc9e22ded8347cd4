import Derived.Test.YtemmghneohnigaaDoorRH
namespace Go.Proofs.YtemmghneohnigaaDoor
open Go.RowKit
/-! Print of any line. -/
theorem Sim.refl (a : List Int) : Sim a a := .inr rfl
set_option maxRecDepth 20000 in
theorem print_word {w : World} {n : Int} {t g nums : List Int} {u : Nat} {st : List (List Int)} {ao bo co : Option Addr} {ac bc cc : Nat} (hg : Byt g) (hgl : g.length ≤ 140737488351232) (ht : Byt t) (htl : t.length ≤ 140737488351232) (hst : ∀ s ∈ st, Byt s ∧ s.length ≤ 140737488351232) (hsl : st.length ≤ 140737488351232) (hu64 : u < 18446744073709551616) (hnr : ∀ x ∈ nums, -9223372036854775808 ≤ x ∧ x ≤ 9223372036854775807) (hE : Env w)
    (hr : RdA w ao 1 t.length ac (byc t)) (hn : RdA w bo 1 nums.length bc (fun j => .int .i64 (nums.getD j 0))) (hs : RdA w co 1 st.length cc (stc st)) : ∀ k, k < 6 →
    Calls Tryd.prog 14 #[.agg (lnA (strOfNums (wNm k)) n ao t.length ac bo nums.length bc (u : Int) (strOfNums g) co st.length cc)] w fun e w' => PrA (wNm k) n nums u g t st e ∧ Below w.heap.size w w'
  | 0, hk => by
    have ho : True ↔ onlyW 0 u g t st := Iff.rfl
    by_cases hb : (0 ≤ n ∧ n ≤ 2147483647) ∧ nums.length = 6 ∧ True ∧ ¬ (8192 < t.length ∨ 8192 < g.length ∨ 2730 < st.length)
    · refine (print_goodA (k := 0) hk (c := 6) (by omega) rfl hg hgl ht htl hst hsl hu64 hnr hE hr hn hs hb.1 hb.2.1 hb.2.2.1 hb.2.2.2).mono ?_
      rintro e w' ⟨h, hf⟩
      exact ⟨h.toA hk hb.1 hb.2.1 (ho.1 hb.2.2.1) ((((Sim.refl (hdL 0 n nums ++ 32 :: decL u)).pl g).pl t).fold), hf⟩
    · refine (print_badA (k := 0) hk (c := 6) (by omega) rfl hg hgl htl hsl hE hb).mono ?_
      rintro e w' ⟨rfl, hf⟩
      exact ⟨.inr ⟨bad_none hk (fun q => hb ⟨q.1, q.2.1, ho.2 q.2.2.1, q.2.2.2⟩), rfl⟩, hf⟩
  | 1, hk => by
    have ho : (t.length = 0 ∧ (u : Int) = 0 ∧ g = [] ∧ st.length = 0) ↔ onlyW 1 u g t st := ⟨fun ⟨d, a, b, c⟩ => ⟨List.length_eq_zero_iff.1 d, by omega, b, List.length_eq_zero_iff.1 c⟩, fun ⟨d, a, b, c⟩ => ⟨by rw [d]; rfl, by omega, b, by rw [c]; rfl⟩⟩
    by_cases hb : (0 ≤ n ∧ n ≤ 2147483647) ∧ nums.length = 0 ∧ (t.length = 0 ∧ (u : Int) = 0 ∧ g = [] ∧ st.length = 0) ∧ ¬ (8192 < t.length ∨ 8192 < g.length ∨ 2730 < st.length)
    · refine (print_goodN (k := 1) hk (c := 0) (by omega) rfl hg hgl ht htl hst hsl hu64 hnr hE hr hn hs hb.1 hb.2.1 hb.2.2.1 hb.2.2.2).mono ?_
      rintro e w' ⟨h, hf⟩
      exact ⟨h.toA hk hb.1 hb.2.1 (ho.1 hb.2.2.1) (Sim.refl (hdL 1 n nums)), hf⟩
    · refine (print_badN (k := 1) hk (c := 0) (by omega) rfl hg hgl htl hsl hE hb).mono ?_
      rintro e w' ⟨rfl, hf⟩
      exact ⟨.inr ⟨bad_none hk (fun q => hb ⟨q.1, q.2.1, ho.2 q.2.2.1, q.2.2.2⟩), rfl⟩, hf⟩
  | 2, hk => by
    have ho : (t.length = 0 ∧ (u : Int) = 0 ∧ g = [] ∧ st.length = 0) ↔ onlyW 2 u g t st := ⟨fun ⟨d, a, b, c⟩ => ⟨List.length_eq_zero_iff.1 d, by omega, b, List.length_eq_zero_iff.1 c⟩, fun ⟨d, a, b, c⟩ => ⟨by rw [d]; rfl, by omega, b, by rw [c]; rfl⟩⟩
    by_cases hb : (0 ≤ n ∧ n ≤ 2147483647) ∧ nums.length = 0 ∧ (t.length = 0 ∧ (u : Int) = 0 ∧ g = [] ∧ st.length = 0) ∧ ¬ (8192 < t.length ∨ 8192 < g.length ∨ 2730 < st.length)
    · refine (print_goodN (k := 2) hk (c := 0) (by omega) rfl hg hgl ht htl hst hsl hu64 hnr hE hr hn hs hb.1 hb.2.1 hb.2.2.1 hb.2.2.2).mono ?_
      rintro e w' ⟨h, hf⟩
      exact ⟨h.toA hk hb.1 hb.2.1 (ho.1 hb.2.2.1) (Sim.refl (hdL 2 n nums)), hf⟩
    · refine (print_badN (k := 2) hk (c := 0) (by omega) rfl hg hgl htl hsl hE hb).mono ?_
      rintro e w' ⟨rfl, hf⟩
      exact ⟨.inr ⟨bad_none hk (fun q => hb ⟨q.1, q.2.1, ho.2 q.2.2.1, q.2.2.2⟩), rfl⟩, hf⟩
  | 3, hk => by
    have ho : (t.length = 0 ∧ (u : Int) = 0 ∧ g = [] ∧ st.length = 0) ↔ onlyW 3 u g t st := ⟨fun ⟨d, a, b, c⟩ => ⟨List.length_eq_zero_iff.1 d, by omega, b, List.length_eq_zero_iff.1 c⟩, fun ⟨d, a, b, c⟩ => ⟨by rw [d]; rfl, by omega, b, by rw [c]; rfl⟩⟩
    by_cases hb : (0 ≤ n ∧ n ≤ 2147483647) ∧ nums.length = 1 ∧ (t.length = 0 ∧ (u : Int) = 0 ∧ g = [] ∧ st.length = 0) ∧ ¬ (8192 < t.length ∨ 8192 < g.length ∨ 2730 < st.length)
    · refine (print_goodN (k := 3) hk (c := 1) (by omega) rfl hg hgl ht htl hst hsl hu64 hnr hE hr hn hs hb.1 hb.2.1 hb.2.2.1 hb.2.2.2).mono ?_
      rintro e w' ⟨h, hf⟩
      exact ⟨h.toA hk hb.1 hb.2.1 (ho.1 hb.2.2.1) (Sim.refl (hdL 3 n nums)), hf⟩
    · refine (print_badN (k := 3) hk (c := 1) (by omega) rfl hg hgl htl hsl hE hb).mono ?_
      rintro e w' ⟨rfl, hf⟩
      exact ⟨.inr ⟨bad_none hk (fun q => hb ⟨q.1, q.2.1, ho.2 q.2.2.1, q.2.2.2⟩), rfl⟩, hf⟩
  | 4, hk => by
    have ho : ((u : Int) = 0 ∧ g = [] ∧ st.length = 0) ↔ onlyW 4 u g t st := ⟨fun ⟨a, b, c⟩ => ⟨by omega, b, List.length_eq_zero_iff.1 c⟩, fun ⟨a, b, c⟩ => ⟨by omega, b, by rw [c]; rfl⟩⟩
    by_cases hb : (0 ≤ n ∧ n ≤ 2147483647) ∧ nums.length = 0 ∧ ((u : Int) = 0 ∧ g = [] ∧ st.length = 0) ∧ ¬ (8192 < t.length ∨ 8192 < g.length ∨ 2730 < st.length)
    · refine (print_goodT (k := 4) hk (c := 0) (by omega) rfl hg hgl ht htl hst hsl hu64 hnr hE hr hn hs hb.1 hb.2.1 hb.2.2.1 hb.2.2.2).mono ?_
      rintro e w' ⟨h, hf⟩
      exact ⟨h.toA hk hb.1 hb.2.1 (ho.1 hb.2.2.1) ((Sim.refl (hdL 4 n nums)).pl t), hf⟩
    · refine (print_badT (k := 4) hk (c := 0) (by omega) rfl hg hgl htl hsl hE hb).mono ?_
      rintro e w' ⟨rfl, hf⟩
      exact ⟨.inr ⟨bad_none hk (fun q => hb ⟨q.1, q.2.1, ho.2 q.2.2.1, q.2.2.2⟩), rfl⟩, hf⟩
  | 5, hk => by
    have ho : (t.length = 0 ∧ (u : Int) = 0 ∧ g = [] ∧ st.length = 0) ↔ onlyW 5 u g t st := ⟨fun ⟨d, a, b, c⟩ => ⟨List.length_eq_zero_iff.1 d, by omega, b, List.length_eq_zero_iff.1 c⟩, fun ⟨d, a, b, c⟩ => ⟨by rw [d]; rfl, by omega, b, by rw [c]; rfl⟩⟩
    by_cases hb : (0 ≤ n ∧ n ≤ 2147483647) ∧ nums.length = 1 ∧ (t.length = 0 ∧ (u : Int) = 0 ∧ g = [] ∧ st.length = 0) ∧ ¬ (8192 < t.length ∨ 8192 < g.length ∨ 2730 < st.length)
    · refine (print_goodN (k := 5) hk (c := 1) (by omega) rfl hg hgl ht htl hst hsl hu64 hnr hE hr hn hs hb.1 hb.2.1 hb.2.2.1 hb.2.2.2).mono ?_
      rintro e w' ⟨h, hf⟩
      exact ⟨h.toA hk hb.1 hb.2.1 (ho.1 hb.2.2.1) (Sim.refl (hdL 5 n nums)), hf⟩
    · refine (print_badN (k := 5) hk (c := 1) (by omega) rfl hg hgl htl hsl hE hb).mono ?_
      rintro e w' ⟨rfl, hf⟩
      exact ⟨.inr ⟨bad_none hk (fun q => hb ⟨q.1, q.2.1, ho.2 q.2.2.1, q.2.2.2⟩), rfl⟩, hf⟩
theorem print_any {w : World} {wl : List Int} (hwB : Byt wl) {n : Int} {t g nums : List Int} {u : Nat} {st : List (List Int)} {ao bo co : Option Addr} {ac bc cc : Nat} (hg : Byt g) (hgl : g.length ≤ 140737488351232) (ht : Byt t) (htl : t.length ≤ 140737488351232) (hst : ∀ s ∈ st, Byt s ∧ s.length ≤ 140737488351232) (hsl : st.length ≤ 140737488351232) (hu64 : u < 18446744073709551616) (hnr : ∀ x ∈ nums, -9223372036854775808 ≤ x ∧ x ≤ 9223372036854775807) (hE : Env w)
    (hr : RdA w ao 1 t.length ac (byc t)) (hn : RdA w bo 1 nums.length bc (fun j => .int .i64 (nums.getD j 0))) (hs : RdA w co 1 st.length cc (stc st)) :
    Calls Tryd.prog 14 #[.agg (lnA (strOfNums wl) n ao t.length ac bo nums.length bc (u : Int) (strOfNums g) co st.length cc)] w fun e w' => PrA wl n nums u g t st e ∧ Below w.heap.size w w' := by
  by_cases h : ∃ k, k < 6 ∧ wl = wNm k
  · obtain ⟨k, hk, rfl⟩ := h
    exact print_word hg hgl ht htl hst hsl hu64 hnr hE hr hn hs k hk
  · refine (print_no hwB (fun k hk e => h ⟨k, hk, e⟩) hE).mono ?_
    rintro e w' ⟨rfl, hf⟩
    exact ⟨.inr ⟨fun ⟨x, k, hk, e, _⟩ => h ⟨k, hk, e⟩, rfl⟩, hf⟩
end Go.Proofs.YtemmghneohnigaaDoor
