import Derived.Test.YtdceahebkohbjabScW
namespace Go.Proofs.Ytdceahebkohbjab
open Go.RowKit
/-! Two plans of the same seats in another order. -/
theorem perm_sorted : ∀ {l m : List Se}, l.Perm m → l.Pairwise (fun a b => a.id < b.id) → m.Pairwise (fun a b => a.id < b.id) → l = m
  | [], m, h, _, _ => by rw [List.nil_perm.1 h]
  | a :: l, [], h, _, _ => by have := h.length_eq; simp at this
  | a :: l, b :: m, h, hl, hm => by
    rw [List.pairwise_cons] at hl hm
    by_cases e : a = b
    · subst e
      rw [perm_sorted (List.Perm.cons_inv h) hl.2 hm.2]
    · have h1 : a ∈ b :: m := h.mem_iff.1 (List.mem_cons_self)
      have h2 : b ∈ a :: l := h.mem_iff.2 (List.mem_cons_self)
      rcases List.mem_cons.1 h1 with k | k
      · exact absurd k e
      · rcases List.mem_cons.1 h2 with q | q
        · exact absurd q.symm e
        · have := hm.1 a k
          have := hl.1 b q
          omega
theorem map_up {n : Nat} {L : Nat → Se} (h : ∀ i j, i < j → j < n → (L i).id < (L j).id) : ((List.range n).map fun i => er (L i)).Pairwise (fun a b => a.id < b.id) := by
  rw [List.pairwise_iff_getElem]
  intro i j hi hj hij
  simp at hi hj
  simp only [List.getElem_map, List.getElem_range]
  exact h i j hij hj
theorem PO.same {n : Nat} {S M L K : Nat → Se} (h : PO n S L) (k : PO n M K) (hp : ((List.range n).map fun i => er (M i)).Perm ((List.range n).map fun i => er (S i))) : ∀ i, i < n → er (L i) = er (K i) := by
  have e := perm_sorted (h.perm.trans (hp.symm.trans k.perm.symm)) (map_up h.up) (map_up k.up)
  intro i hi
  have := congrArg (fun l => l[i]?) e
  simp only [List.getElem?_map, List.getElem?_range hi, Option.map_some, Option.some.injEq] at this
  exact this
theorem rev_perm (n : Nat) (S : Nat → Se) : ((List.range n).map fun i => er (S (n - 1 - i))).Perm ((List.range n).map fun i => er (S i)) := by
  have e : ((List.range n).map fun i => er (S (n - 1 - i))) = ((List.range n).map fun i => er (S i)).reverse := by
    apply List.ext_getElem
    · simp
    · intro i h1 h2
      simp at h1
      simp
  rw [e]
  exact List.reverse_perm ((List.range n).map fun i => er (S i))
theorem slc_er {L K : Nat → Se} {z : Nat × Int} (h : er (L z.1) = er (K z.1)) : slc L z = slc K z := by
  unfold slc
  rw [rst_er h, er_id h]
theorem plans_same {w1 w2 : World} {b1 b2 : Nat} {c : Me} {n : Nat} {S M : Nat → Se} {pk qk : Int → Bool} {vO vZ uO uZ : Value} (h : PlD w1 b1 c n S pk vO vZ) (k : PlD w2 b2 c n M qk uO uZ) (hp : ((List.range n).map fun i => er (M i)).Perm ((List.range n).map fun i => er (S i))) (hk : ∀ i, i < n → pk (S i).id = qk (S i).id) (hc : okM c 1) (hn : n ≤ 16) :
    ∃ (mO mZ : Nat) (oI zI zT zG : Nat → Int), Own w1 b1 3 1 vO mO (fun j => .int .i64 (oI j)) ∧ Own w1 b1 45 3 vZ mZ (trF zI zT zG) ∧ Own w2 b2 3 1 uO mO (fun j => .int .i64 (oI j)) ∧ Own w2 b2 45 3 uZ mZ (trF zI zT zG) := by
  obtain ⟨L, hpo, hd, h1, h2⟩ := h
  obtain ⟨K, kpo, kd, k1, k2⟩ := k
  have I := mkN_inv (pk := pk) hc hd.1 hn n (Nat.le_refl _)
  have hLK := hpo.same kpo hp
  have hid : ∀ i, i < n → pk (L i).id = qk (L i).id := fun i hi => by
    obtain ⟨q, hq, e⟩ := hpo.of_mem hi
    rw [er_id e]
    exact hk q hq
  rw [← mkN_er (c := c) hLK hid n (Nat.le_refl _)] at k1 k2
  generalize mkN c L n pk n = st at *
  have hO : ∀ k, k < st.O.length → st.O.getD k 0 < n := fun k hk => (I.outn _ ((I.mem _).2 (by rw [getD_at _ _ hk]; exact List.getElem_mem hk))).1
  have hZ : ∀ k, k < st.Z.length → (st.Z.getD k (0, 0)).1 < n := fun k hk => (I.zs _ (by rw [getD_at _ _ hk]; exact List.getElem_mem hk)).2.1
  refine ⟨st.O.length, st.Z.length, fun k => (L (st.O.getD k 0)).id, fun k => (slc L (st.Z.getD k (0, 0))).1, fun k => (slc L (st.Z.getD k (0, 0))).2.1, fun k => (slc L (st.Z.getD k (0, 0))).2.2, h1, h2, k1.congr (fun j hj => ?_), k2.congr (fun j hj => ?_)⟩
  · show Value.int .i64 (K (st.O.getD j 0)).id = .int .i64 (L (st.O.getD j 0)).id
    rw [er_id (hLK _ (hO j (by omega)))]
  · show slF K st.Z j = slF L st.Z j
    unfold slF
    rw [slc_er (hLK _ (hZ (j / 3) (by omega)))]
end Go.Proofs.Ytdceahebkohbjab
