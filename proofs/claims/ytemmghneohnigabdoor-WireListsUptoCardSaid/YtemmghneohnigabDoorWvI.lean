import Derived.Test.YtemmghneohnigabDoorWvHN
import Derived.Test.YtemmghneohnigabDoorWvHT
import Derived.Test.YtemmghneohnigabDoorWvHA
namespace Go.Proofs.YtemmghneohnigabDoor
open Go.RowKit
/-! The reference's Print of any line. -/
set_option maxRecDepth 20000 in
set_option maxHeartbeats 2000000 in
theorem rprint_no {w : World} {wl : List Int} (hwB : Byt wl) (hno : ∀ k, k < 6 → wl ≠ wNm k) {n : Int} {ao bo co : Option Addr} {am ac bm bc cm cc : Nat} {sd : Int} {gd : ByteArray} :
    Calls Tryd.prog 22 #[.agg (lnA (strOfNums wl) n ao am ac bo bm bc sd gd co cm cc)] w fun e w' => e = .returned (.tuple #[.string ⟨#[]⟩, .int .i64 220]) ∧ Below w.heap.size w w' := by
  have hnw : numW wl = -1 := by
    unfold numW
    rw [if_neg (hno 0 (by omega)), if_neg (fun h => h.elim (hno 3 (by omega)) (hno 5 (by omega))), if_neg (fun h => h.elim (hno 1 (by omega)) (fun h => h.elim (hno 2 (by omega)) (hno 4 (by omega))))]
  have q0 := str_eq hwB (nm_byt (k := 0) (by omega)).1
  rw [show strOfNums (wNm 0) = (⟨#[97, 115, 107]⟩ : ByteArray) from rfl, show (⟨#[97, 115, 107]⟩ : ByteArray).toList = [97, 115, 107] from by decide +kernel, decide_eq_false (hno 0 (by omega))] at q0
  have HNB := hidd (fun w => rnumbers_any hwB w)
  rw [hnw] at HNB
  clear hno hnw hwB
  generalize strOfNums wl = sw at *
  have HBX := hidd (Blk.new w 32 (lnA sw n ao am ac bo bm bc sd gd co cm cc))
  have HFB := hidd (fresh_alloc w (.cells (lnA sw n ao am ac bo bm bc sd gd co cm cc) 32))
  go_enter Tryd.func22, Tryd.ntmps22
  go_upto_region 1 with fail
  generalize w.alloc (.cells (lnA sw n ao am ac bo bm bc sd gd co cm cc) 32) = w1 at *
  obtain ⟨B, eB⟩ : ∃ B, B = w.heap.size := ⟨_, rfl⟩
  rw [← eB] at HBX ⊢
  clear eB
  have x0 := HBX.out.cell 0
  simp at x0
  go_upto_region 2 with (go_at_call 20; with_reducible refine (HNB.out _).mono ?_; rintro e w2 ⟨rfl, f2⟩)
  have y0 := (HBX.out.fresh f2).cell 0
  simp at y0
  have HF2 := hidd (fresh_trans HFB.out f2)
  clear f2 x0
  go_wp2
  go_ret2
  exact ⟨rfl, HF2.out⟩
section
variable {w : World} {n : Int} {t g nums : List Int} {u : Nat} {st : List (List Int)} {ao bo co : Option Addr} {ac bc cc : Nat}
theorem rprint_word (hg : Byt g) (hgl : g.length ≤ 2097152) (ht : Byt t) (htl : t.length ≤ 2097152) (hst : ∀ s ∈ st, Byt s ∧ s.length ≤ 2097152) (hsl : st.length ≤ 1048576) (hu64 : u < 18446744073709551616) (hni : -9223372036854775808 ≤ n ∧ n ≤ 9223372036854775807) (hnr : ∀ x ∈ nums, -9223372036854775808 ≤ x ∧ x ≤ 9223372036854775807)
    (hr : RdA w ao 1 t.length ac (byc t)) (hn : RdA w bo 1 nums.length bc (fun j => .int .i64 (nums.getD j 0))) (hs : RdA w co 1 st.length cc (stc st)) {k : Nat} (hk : k < 6) :
    Calls Tryd.prog 22 #[.agg (lnA (strOfNums (wNm k)) n ao t.length ac bo nums.length bc (u : Int) (strOfNums g) co st.length cc)] w fun e w' => PrA (wNm k) n nums u g t st e ∧ Below w.heap.size w w' := by
  have key : ∀ {Q : Prop}, (Q → False) → True := fun _ => trivial
  clear key
  have bad : ∀ (hno : ¬ ((0 ≤ n ∧ n ≤ 2147483647) ∧ nums.length = cntW k ∧ onlyW k u g t st)), (Calls Tryd.prog 22 #[.agg (lnA (strOfNums (wNm k)) n ao t.length ac bo nums.length bc (u : Int) (strOfNums g) co st.length cc)] w fun e w' => e = .returned (.tuple #[.string ⟨#[]⟩, .int .i64 220]) ∧ Below w.heap.size w w') → Calls Tryd.prog 22 #[.agg (lnA (strOfNums (wNm k)) n ao t.length ac bo nums.length bc (u : Int) (strOfNums g) co st.length cc)] w fun e w' => PrA (wNm k) n nums u g t st e ∧ Below w.heap.size w w' := by
    intro hno h
    refine h.mono ?_
    rintro e w' ⟨rfl, hf⟩
    exact ⟨.inr ⟨bad_none hk (fun q => hno ⟨q.1, q.2.1, q.2.2.1⟩), rfl⟩, hf⟩
  by_cases h2 : nums.length = cntW k
  · by_cases h1 : 0 ≤ n ∧ n ≤ 2147483647
    · by_cases k0 : k = 0
      · exact RpA.good hk k0 hg hgl ht htl hst hsl hu64 hni hnr hr hn hs h1 h2 trivial
      · by_cases k4 : k = 4
        · by_cases hu : u = 0
          · by_cases hg0 : g = []
            · by_cases hs0 : st = []
              · exact RpT.good hk k4 hg hgl ht htl hst hsl hu64 hni hnr hr hn hs h1 h2 ⟨hu, hg0, hs0⟩
              · refine bad (fun q => ?_) (RpT.bad52 hk k4 hg hgl ht htl hst hsl hu64 hni hnr hr hn hs h1 h2 ⟨hu, hg0, hs0⟩)
                have := q.2.2
                unfold onlyW at this
                rw [if_neg k0, if_pos k4] at this
                exact hs0 this.2.2
            · refine bad (fun q => ?_) (RpT.bad51 hk k4 hg hgl ht htl hst hsl hu64 hni hnr hr hn hs h1 h2 ⟨hu, hg0⟩)
              have := q.2.2
              unfold onlyW at this
              rw [if_neg k0, if_pos k4] at this
              exact hg0 this.2.1
          · refine bad (fun q => ?_) (RpT.bad50 hk k4 hg hgl ht htl hst hsl hu64 hni hnr hr hn hs h1 h2 hu)
            have := q.2.2
            unfold onlyW at this
            rw [if_neg k0, if_pos k4] at this
            exact hu this.1
        · by_cases hu : u = 0
          · by_cases hg0 : g = []
            · by_cases hs0 : st = []
              · by_cases ht0 : t = []
                · exact RpN.good hk k0 k4 hg hgl ht htl hst hsl hu64 hni hnr hr hn hs h1 h2 ⟨ht0, hu, hg0, hs0⟩
                · refine bad (fun q => ?_) (RpN.bad53 hk k0 k4 hg hgl ht htl hst hsl hu64 hni hnr hr hn hs h1 h2 ⟨hu, hg0, hs0, ht0⟩)
                  have := q.2.2
                  unfold onlyW at this
                  rw [if_neg k0, if_neg k4] at this
                  exact ht0 this.1
              · refine bad (fun q => ?_) (RpN.bad52 hk k0 k4 hg hgl ht htl hst hsl hu64 hni hnr hr hn hs h1 h2 ⟨hu, hg0, hs0⟩)
                have := q.2.2
                unfold onlyW at this
                rw [if_neg k0, if_neg k4] at this
                exact hs0 this.2.2.2
            · refine bad (fun q => ?_) (RpN.bad51 hk k0 k4 hg hgl ht htl hst hsl hu64 hni hnr hr hn hs h1 h2 ⟨hu, hg0⟩)
              have := q.2.2
              unfold onlyW at this
              rw [if_neg k0, if_neg k4] at this
              exact hg0 this.2.2.1
          · refine bad (fun q => ?_) (RpN.bad50 hk k0 k4 hg hgl ht htl hst hsl hu64 hni hnr hr hn hs h1 h2 hu)
            have := q.2.2
            unfold onlyW at this
            rw [if_neg k0, if_neg k4] at this
            exact hu this.2.1
    · have h3 : (nums.length = cntW k ∧ n < 0) ∨ (nums.length = cntW k ∧ 0 ≤ n ∧ 2147483647 < n) := by omega
      refine bad (fun q => h1 q.1) ?_
      by_cases k0 : k = 0
      · exact RpA.bad3 hk k0 hg hgl ht htl hst hsl hu64 hni hnr hr hn hs (.inr h3)
      · by_cases k4 : k = 4
        · exact RpT.bad3 hk k4 hg hgl ht htl hst hsl hu64 hni hnr hr hn hs (.inr h3)
        · exact RpN.bad3 hk k0 k4 hg hgl ht htl hst hsl hu64 hni hnr hr hn hs (.inr h3)
  · refine bad (fun q => h2 q.2.1) ?_
    by_cases k0 : k = 0
    · exact RpA.bad3 hk k0 hg hgl ht htl hst hsl hu64 hni hnr hr hn hs (.inl h2)
    · by_cases k4 : k = 4
      · exact RpT.bad3 hk k4 hg hgl ht htl hst hsl hu64 hni hnr hr hn hs (.inl h2)
      · exact RpN.bad3 hk k0 k4 hg hgl ht htl hst hsl hu64 hni hnr hr hn hs (.inl h2)
theorem rprint_any {wl : List Int} (hwB : Byt wl) (hg : Byt g) (hgl : g.length ≤ 2097152) (ht : Byt t) (htl : t.length ≤ 2097152) (hst : ∀ s ∈ st, Byt s ∧ s.length ≤ 2097152) (hsl : st.length ≤ 1048576) (hu64 : u < 18446744073709551616) (hni : -9223372036854775808 ≤ n ∧ n ≤ 9223372036854775807) (hnr : ∀ x ∈ nums, -9223372036854775808 ≤ x ∧ x ≤ 9223372036854775807)
    (hr : RdA w ao 1 t.length ac (byc t)) (hn : RdA w bo 1 nums.length bc (fun j => .int .i64 (nums.getD j 0))) (hs : RdA w co 1 st.length cc (stc st)) :
    Calls Tryd.prog 22 #[.agg (lnA (strOfNums wl) n ao t.length ac bo nums.length bc (u : Int) (strOfNums g) co st.length cc)] w fun e w' => PrA wl n nums u g t st e ∧ Below w.heap.size w w' := by
  by_cases h : ∃ k, k < 6 ∧ wl = wNm k
  · obtain ⟨k, hk, rfl⟩ := h
    exact rprint_word hg hgl ht htl hst hsl hu64 hni hnr hr hn hs hk
  · refine (rprint_no hwB (fun k hk e => h ⟨k, hk, e⟩)).mono ?_
    rintro e w' ⟨rfl, hf⟩
    exact ⟨.inr ⟨fun ⟨x, k, hk, e, _⟩ => h ⟨k, hk, e⟩, rfl⟩, hf⟩
end
/-- both Prints of one line answer the same -/
theorem PrA.same {wl : List Int} {n : Int} {nums : List Int} {u : Nat} {g t : List Int} {st : List (List Int)} {e e' : Ending} (h : PrA wl n nums u g t st e) (h' : PrA wl n nums u g t st e') : ∃ x c, e = .returned (.tuple #[.string (strOfNums x), .int .i64 c]) ∧ e' = .returned (.tuple #[.string (strOfNums x), .int .i64 c]) := by
  rcases h with ⟨x, hx, rfl⟩ | ⟨hx, rfl⟩
  · rcases h' with ⟨y, hy, rfl⟩ | ⟨hy, rfl⟩
    · obtain ⟨k, hk, e, _, _, _, ex, _⟩ := hx
      obtain ⟨k', hk', e', _, _, _, ey, _⟩ := hy
      obtain rfl := nm_inj hk hk' (e.symm.trans e')
      exact ⟨x, 0, rfl, by rw [ex, ey]⟩
    · exact absurd ⟨x, hx⟩ hy
  · rcases h' with ⟨y, hy, rfl⟩ | ⟨hy, rfl⟩
    · exact absurd ⟨y, hy⟩ hx
    · exact ⟨[], 220, rfl, rfl⟩
end Go.Proofs.YtemmghneohnigabDoor
