import Derived.Test.YtknfddakpfkcfabDoorJdH
import Derived.Test.YtknfddakpfkcfabDoorJdSo
import Derived.Sort.OwnSortedInts
import Derived.Lib.SliceRun
namespace Go.Proofs.YtknfddakpfkcfabDoor
open Go.RowKit Go.Shelf Go.Sort
/-! Clone and Sort of a list of ints; arePlaces, hasAlike. -/
theorem eqNil_I (a : Addr) (n k : Nat) (w : World) : (binOp .eql 23 (.slice (some a) n k) (.slice none 0 0)).run Tryd.prog w = .ok (.bool false) w := by
  exact Lib.run_eql_slice_nil (P := Tryd.prog) w 23 3 (some a) n k 0 0 Tryd.underlying23
def iL (f : Nat → Int) (n : Nat) : List Int := (List.range n).map f
theorem iL_len (f : Nat → Int) (n : Nat) : (iL f n).length = n := by simp [iL]
theorem iL_map (f : Nat → Int) (n : Nat) : (iL f n).map (Value.int .i64) = (List.range n).map (fun i => Value.int .i64 (f i)) := by simp [iL]
set_option maxRecDepth 20000 in
set_option maxHeartbeats 1600000 in
theorem cloneI_any {w : World} {b o n cap : Nat} {f : Nat → Int} (h : RdA w (some ⟨b, o, none⟩) 1 n cap (fun i => .int .i64 (f i))) (h0 : 0 < n) (hn : n ≤ 17592186043904) :
    Calls Tryd.prog 31 #[.slice (some ⟨b, o, none⟩) n cap] w fun e w' => ∃ g c, e = .returned (.slice (some ⟨g, 0, none⟩) n c) ∧ w.heap.size ≤ g ∧ Own w' w.heap.size 3 1 (.slice (some ⟨g, 0, none⟩) n c) n (fun i => .int .i64 (f i)) ∧ Below w.heap.size w w' := by
  obtain ⟨b', o', e', hc⟩ := h.one h0
  cases e'
  obtain ⟨i0, hi, hz0, hz1, hz2⟩ := info_parts infoI
  have HC : Hid (∀ j, j < n → w.cell? ⟨b, o + j, none⟩ = some (.int .i64 (f j))) := hc
  have hq := eqNil_I ⟨b, o, none⟩ n cap
  clear h hc
  go_enter Tryd.func31, Tryd.ntmps31
  go_wp2_with (at_builtin; refine wpList_append_own _ rfl _ _ 23 rfl w.heap.size 3 i0 (.int .i64 0) 1 8 Tryd.underlying23 hi hz0 hz1 hz2 rfl (by decide) _ _ _ rfl (World.ownsRow_made w #[] 0 (Nat.le_refl _) (Nat.zero_le _) rfl) ⟨b, o, none⟩ n cap ((List.range n).map (fun i => Value.int .i64 (f i))) rfl ?qc1 ?qc2 ?qc3 ?qc4 ?qc5 ?qc6 ?_)
  case qc1 => simp
  case qc2 =>
    intro j u hj
    have hjn : j < n := by
      have := (List.getElem?_eq_some_iff.1 hj).1
      simp at this
      omega
    rw [Addr.add_lit]
    refine Lib.cell?_alloc_some _ ?_
    rw [HC.out j hjn]
    simpa [hjn] using hj
  case qc3 => intro u hu; obtain ⟨x, _, rfl⟩ := List.mem_map.1 hu; rfl
  case qc4 => unfold maxLen; omega
  case qc5 => omega
  case qc6 => simp
  intro v' w1 hown hgrow hnil
  have HO : Hid (Own w1 w.heap.size 3 1 v' n (fun i => .int .i64 (f i))) := by show w1.ownsRow _ _ _ _ _ _; simpa using hown
  have HF : Hid (Below w.heap.size w w1) := ((Below.refl _ w).alloc (Nat.le_refl _) _).grown hgrow (by simp) (by intro k hk; simp [Value.ownBlock] at hk; omega)
  obtain ⟨u, c, rfl, _⟩ := HO.out.rd
  obtain ⟨g, hg1, hg2⟩ : ∃ g, u = some ⟨g, 0, none⟩ ∧ w.heap.size ≤ g := by
    rcases HO.out.2 with ⟨e, _⟩ | ⟨g, _, _, e, hb, _⟩
    · cases e; omega
    · cases e; exact ⟨g, rfl, hb⟩
  subst hg1
  clear hown hgrow hnil
  go_wp2
  go_ret
  exact ⟨g, c, rfl, hg2, HO.out, HF.out⟩
/-- the numbers in order -/
def srtL (f : Nat → Int) (n : Nat) : List Int := (iL f n).mergeSort fun x y => decide (x ≤ y)
theorem srtL_len (f : Nat → Int) (n : Nat) : (srtL f n).length = n := by unfold srtL; rw [List.length_mergeSort, iL_len]
def srt (f : Nat → Int) (n : Nat) (j : Nat) : Int := (srtL f n).getD j 0
theorem srt_map (f : Nat → Int) (n : Nat) : (srtL f n).map (Value.int .i64) = (List.range n).map (fun i => Value.int .i64 (srt f n i)) := by
  apply List.ext_getElem
  · simp [srtL_len]
  · intro i h1 h2
    simp [srt, List.getD]
    have : i < (srtL f n).length := by simpa using h1
    rw [List.getElem?_eq_getElem this]
    rfl
theorem sortI_any {w0 w : World} {base g n c : Nat} {f : Nat → Int} (ho : Own w base 3 1 (.slice (some ⟨g, 0, none⟩) n c) n (fun i => .int .i64 (f i))) (hn : n ≤ 17592186043904) (hb : Below base w0 w) (hs : base ≤ w.heap.size) :
    Calls Tryd.prog 32 #[.slice (some ⟨g, 0, none⟩) n c] w fun e w' => e = .returned (.tuple #[]) ∧ Own w' base 3 1 (.slice (some ⟨g, 0, none⟩) n c) n (fun i => .int .i64 (srt f n i)) ∧ Below base w0 w' := by
  have ho' : w.ownsRow base 3 1 (.slice (some ⟨g, 0, none⟩) n c) n ((iL f n).map (Value.int .i64)) := by rw [iL_map]; simpa [Own] using ho
  rcases ho'.2 with ⟨h0, _⟩ | ⟨g', cap', cur, hv, hbase, hbk, h1, h2, h3, h4⟩
  · cases h0
  cases hv
  have hH : Holds (Value.int .i64) w g 0 (iL f n).toArray := holds_of_blockI hbk (by rw [iL_len]; simpa using h4)
  have hl := (Array.getElem?_eq_some_iff.1 hbk).1
  have hcon := Any.slices_Sort_int YtknfddakpfkcfabDoor.sortI g 0 c (iL f n) w hH hl (by rw [iL_len]; omega)
  rw [iL_len] at hcon
  refine Calls.mono hcon ?_
  rintro e w' ⟨rfl, m, os, rfl⟩
  refine ⟨rfl, ?_, ?_⟩
  · have := ownsRow_sortedI (w := w) (n := m) (os := os) (ss := iL f n) (ts := srtL f n) (by rw [srtL_len, iL_len]) hbase hbk (by rw [iL_len]; exact h1) h2 h3
    rw [iL_len, srt_map] at this
    simpa [Own, srtL] using this
  · exact hb.grown (grownBy_sortedI _) hs (fun k hk => by cases hk; exact hbase)
/-- some two numbers are alike -/
def alk (f : Nat → Int) (n : Nat) : Prop := ∃ i j, i < j ∧ j < n ∧ f i = f j
theorem iL_nodup (f : Nat → Int) (n : Nat) : (iL f n).Nodup ↔ ¬ alk f n := by
  unfold iL
  rw [List.nodup_iff_pairwise_ne, List.pairwise_map]
  constructor
  · rintro h ⟨i, j, hij, hj, e⟩
    rw [List.pairwise_iff_getElem] at h
    have := h i j (by simp; omega) (by simpa using hj) hij
    simp at this
    exact this e
  · intro h
    rw [List.pairwise_iff_getElem]
    intro i j hi hj hij e
    simp at hi hj e
    exact h ⟨i, j, hij, hj, e⟩
theorem srt_up (f : Nat → Int) (n : Nat) {i j : Nat} (hij : i ≤ j) (hj : j < n) : srt f n i ≤ srt f n j := by
  have hp : (srtL f n).Pairwise fun x y => decide (x ≤ y) = true := List.pairwise_mergeSort (fun a b c h1 h2 => by simp at *; omega) (fun a b => by simp; omega) _
  by_cases e : i = j
  · rw [e]; exact Int.le_refl _
  · rw [List.pairwise_iff_getElem] at hp
    have hli : i < (srtL f n).length := by rw [srtL_len]; omega
    have hlj : j < (srtL f n).length := by rw [srtL_len]; omega
    have := hp i j hli hlj (by omega)
    unfold srt
    simp [List.getD, List.getElem?_eq_getElem hli, List.getElem?_eq_getElem hlj]
    simpa using this
/-- alike: two neighbours are -/
theorem alk_iff (f : Nat → Int) (n : Nat) : alk f n ↔ ∃ i, i + 1 < n ∧ srt f n i = srt f n (i + 1) := by
  have hd : (srtL f n).Nodup ↔ (iL f n).Nodup := (List.mergeSort_perm _ _).nodup_iff
  have key : ¬ (srtL f n).Nodup ↔ alk f n := by
    rw [hd, iL_nodup]
    exact Classical.not_not
  rw [← key]
  constructor
  · intro h
    apply Classical.byContradiction
    intro hn
    apply h
    rw [List.nodup_iff_pairwise_ne, List.pairwise_iff_getElem]
    intro i j hi hj hij e
    have hin : j < n := by rw [← srtL_len f n]; exact hj
    have a1 : srt f n i = (srtL f n)[i] := by simp [srt, List.getD, List.getElem?_eq_getElem hi]
    have a2 : srt f n j = (srtL f n)[j] := by simp [srt, List.getD, List.getElem?_eq_getElem hj]
    have u1 := srt_up f n (i := i) (j := i + 1) (by omega) (by omega)
    have u2 := srt_up f n (i := i + 1) (j := j) (by omega) hin
    rw [← a1, ← a2] at e
    exact hn ⟨i, by omega, by omega⟩
  · rintro ⟨i, hi, e⟩ hn
    rw [List.nodup_iff_pairwise_ne, List.pairwise_iff_getElem] at hn
    have h1 : i < (srtL f n).length := by rw [srtL_len]; omega
    have h2 : i + 1 < (srtL f n).length := by rw [srtL_len]; omega
    apply hn i (i + 1) h1 h2 (by omega)
    have a1 : srt f n i = (srtL f n)[i] := by simp [srt, List.getD, List.getElem?_eq_getElem h1]
    have a2 : srt f n (i + 1) = (srtL f n)[i + 1] := by simp [srt, List.getD, List.getElem?_eq_getElem h2]
    rw [← a1, ← a2]
    exact e
end Go.Proofs.YtknfddakpfkcfabDoor
