import Derived.Test.YtdceahebkohbjabScMl
import Derived.Test.YtdceahebkohbjabScEp
namespace Go.Proofs.Ytdceahebkohbjab
open Go.RowKit
/-! Both Makes say the same, and what they say is known ahead. -/
/-- a plan that a Make answered: two lists, an error -/
def PlnP (w : World) (no nz : Nat) (x : Int) (f a b d : Nat → Int) (e : Ending) (w' : World) : Prop :=
  ∃ (uo uz : Option Addr) (ko kz : Nat), e = .returned (.tuple #[.agg #[.slice uo no ko, .slice uz nz kz], .int .i64 x]) ∧ Below w.heap.size w w' ∧ Own w' w.heap.size 3 1 (.slice uo no ko) no (fun i => .int .i64 (f i)) ∧ Own w' w.heap.size 45 3 (.slice uz nz kz) nz (trF a b d)
theorem PlnP.empty {w w' : World} {x : Int} {f a b d : Nat → Int} (h : Below w.heap.size w w') : PlnP w 0 0 x f a b d (.returned (.tuple #[.agg #[.slice none 0 0, .slice none 0 0], .int .i64 x])) w' :=
  ⟨_, _, _, _, rfl, h, own_nil _ _ _ _ _, own_nil _ _ _ _ _⟩
theorem sorted_seats (n : Nat) (S : Nat → Se) : ∃ L, Ord n S L := by
  have hp := List.mergeSort_perm ((List.range n).map S) (fun a b => decide (a.id ≤ b.id))
  have hs : (((List.range n).map S).mergeSort (fun a b => decide (a.id ≤ b.id))).Pairwise fun a b => decide (a.id ≤ b.id) = true := List.pairwise_mergeSort (fun a b c h1 h2 => by simp at *; omega) (fun a b => by simp; omega) _
  generalize ((List.range n).map S).mergeSort (fun a b => decide (a.id ≤ b.id)) = l at *
  have hl : l.length = n := by have := hp.length_eq; simpa using this
  have e : (List.range n).map (fun i => l.getD i seZ) = l := by
    apply List.ext_getElem
    · simp [hl]
    · intro i h1 h2
      simp [h2]
  refine ⟨fun i => l.getD i seZ, by rw [e]; exact hp, fun i j hij hj => ?_⟩
  have := (List.pairwise_iff_getElem.1 hs) i j (by omega) (by omega) hij
  simp at this
  simpa [List.getD_eq_getElem?_getD, List.getElem?_eq_getElem (show i < l.length by omega), List.getElem?_eq_getElem (show j < l.length by omega)] using this
theorem Ord.po {c : Me} {n : Nat} {S L : Nat → Se} (h : Ord n S L) (hA : okA c n S) : PO n S L := by
  have h1 := h.perm.map er
  rw [List.map_map, List.map_map] at h1
  refine ⟨h1, fun i j hij hj => ?_⟩
  have hn := (ids_nodup n S).2 hA.2.2
  have hm := (ids_nodup n L).1 (h.ids.nodup_iff.2 hn)
  have := h.up i j hij hj
  have := hm i j hij hj
  omega
theorem PO.er {n : Nat} {S M L : Nat → Se} (h : PO n S L) (hE : ∀ i, i < n → er (M i) = er (S i)) : PO n M L :=
  ⟨by rw [List.map_congr_left (fun i hi => hE i (List.mem_range.1 hi))]; exact h.perm, h.up⟩
/-- whatever world it is in, and wherever its lists lie -/
structure Kn (c : Me) (n : Nat) (S : Nat → Se) (m : Nat) (P : Nat → Int) (no nz : Nat) (x : Int) (f a b d : Nat → Int) : Prop where
  prog : ∀ {w : World} {xo yo : Option Addr} {cap cp : Nat} {S1 : Nat → Se}, SeA w xo n cap S1 → (xo = none → cap = 0) → (∀ i, i < n → er (S1 i) = er (S i)) → RdA w yo 1 m cp (fun i => .int .i64 (P i)) → Calls Try.prog 9 #[mV c, .slice xo n cap, .slice yo m cp] w (PlnP w no nz x f a b d)
  ref : ∀ {w : World} {xo yo : Option Addr} {cap cp : Nat} {S1 : Nat → Se}, SeA w xo n cap S1 → (∀ i, i < n → er (S1 i) = er (S i)) → RdA w yo 1 m cp (fun i => .int .i64 (P i)) → Calls Try.prog 14 #[mV c, .slice xo n cap, .slice yo m cp] w (PlnP w no nz x f a b d)
  mo : no ≤ 256
  mz : nz ≤ 16
theorem known (c : Me) (n : Nat) (S : Nat → Se) (m : Nat) (P : Nat → Int) : ∃ no nz x f a b d, Kn c n S m P no nz x f a b d := by
  by_cases hc : okM c 1
  · by_cases ha : okA c n S
    · have hn : n ≤ 16 := ha.1
      obtain ⟨L, ho⟩ := sorted_seats n S
      have hpo := ho.po ha
      have hLs : ∀ i, i < n → okS c (L i) := fun i hi => by
        obtain ⟨j, hj, e⟩ := hpo.of_mem hi
        exact (okS_er e).2 (ha.2.1 j hj)
      have I := mkN_inv (pk := hasI P m) hc hLs hn n (Nat.le_refl _)
      have hO : ∀ k, k < (mkN c L n (hasI P m) n).O.length → (mkN c L n (hasI P m) n).O.getD k 0 < n := fun k hk => (I.outn _ ((I.mem _).2 (by rw [getD_at _ _ hk]; exact List.getElem_mem hk))).1
      have hZ : ∀ k, k < (mkN c L n (hasI P m) n).Z.length → ((mkN c L n (hasI P m) n).Z.getD k (0, 0)).1 < n := fun k hk => (I.zs _ (by rw [getD_at _ _ hk]; exact List.getElem_mem hk)).2.1
      refine ⟨(mkN c L n (hasI P m) n).O.length, (mkN c L n (hasI P m) n).Z.length, 0, fun k => (L ((mkN c L n (hasI P m) n).O.getD k 0)).id, fun k => (slc L ((mkN c L n (hasI P m) n).Z.getD k (0, 0))).1, fun k => (slc L ((mkN c L n (hasI P m) n).Z.getD k (0, 0))).2.1, fun k => (slc L ((mkN c L n (hasI P m) n).Z.getD k (0, 0))).2.2, fun {w xo yo cap cp S1} hS h0 hE hP => ?_, fun {w xo yo cap cp S1} hS hE hP => ?_, ?_, ?_⟩
      · refine (make_any c hS h0 hE hP).mono ?_
        rintro e w' ⟨vO, vZ, no, nz, x, rfl, hr⟩
        obtain ⟨rfl, K, kpo, hd, k1, k2⟩ := hr.ok hc ha
        have hLK := hpo.same kpo (List.Perm.refl _)
        rw [← mkN_er (c := c) hLK (fun i _ => rfl) n (Nat.le_refl _)] at k1 k2
        generalize mkN c L n (hasI P m) n = st at *
        obtain ⟨uo, ko, rfl, _⟩ := k1.rd
        obtain ⟨uz, kz, rfl, _⟩ := k2.rd
        refine ⟨_, _, _, _, rfl, hr.low, k1.congr (fun j hj => ?_), k2.congr (fun j hj => ?_)⟩
        · show Value.int .i64 (K (st.O.getD j 0)).id = .int .i64 (L (st.O.getD j 0)).id
          rw [er_id (hLK _ (hO j (by omega)))]
        · show slF K st.Z j = slF L st.Z j
          unfold slF
          rw [slc_er (hLK _ (hZ (j / 3) (by omega)))]
      · refine (rmake_ok hS hn hc ((okA_er hE).2 ha) (hpo.er hE) hP).mono ?_
        rintro e2 w2 ⟨vO, vZ, rfl, hb, q1, q2⟩
        obtain ⟨vo, k1, rfl, _⟩ := q1.rd
        obtain ⟨vz, k2, rfl, _⟩ := q2.rd
        exact ⟨_, _, _, _, rfl, hb, q1, q2⟩
      · have := I.olen; omega
      · have := I.zlen; omega
    · refine ⟨0, 0, 1, fun _ => 0, fun _ => 0, fun _ => 0, fun _ => 0, fun {w xo yo cap cp S1} hS h0 hE hP => ?_, fun {w xo yo cap cp S1} hS hE hP => ?_, by omega, by omega⟩
      · have hA := okA_er (c := c) hE
        have key : Calls Try.prog 9 #[mV c, .slice xo n cap, .slice yo m cp] w fun e w' => e = .returned (.tuple #[.agg #[.slice none 0 0, .slice none 0 0], .int .i64 1]) ∧ Below w.heap.size w w' := by
          by_cases hn : n ≤ 16
          · refine (make_ok c hc hS h0 hn hP).mono (fun e w' q => ?_)
            obtain ⟨q1, q2, q3⟩ := q
            exact ⟨q3 (fun h => ha (hA.1 h)), q1⟩
          · exact make_many w c hc (by omega) (by have := hS.rd.le; have := hS.rd.top; unfold maxLen at this; omega) _
        refine key.mono ?_
        rintro e w' ⟨rfl, hb⟩
        exact PlnP.empty hb
      · refine (rmake_seats hc hS (fun q => ha ((okA_er hE).1 q))).mono ?_
        rintro e2 w2 ⟨rfl, hb2⟩
        exact PlnP.empty hb2
  · refine ⟨0, 0, 200, fun _ => 0, fun _ => 0, fun _ => 0, fun _ => 0, fun {w xo yo cap cp S1} hS h0 hE hP => ?_, fun {w xo yo cap cp S1} hS hE hP => ?_, by omega, by omega⟩
    · refine (make_serve w c hc _ _).mono ?_
      rintro e w' ⟨rfl, hb⟩
      exact PlnP.empty hb
    · refine (rmake_bad hc).mono ?_
      rintro e2 w2 ⟨rfl, hb2⟩
      exact PlnP.empty hb2
end Go.Proofs.Ytdceahebkohbjab
