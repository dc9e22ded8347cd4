import Derived.Test.YtakekdbclmgeoaaClCqA
import Derived.Test.YtakekdbclmgeoaaClSrA
namespace Go.Proofs.Ytakekdbclmgeoaa.Cl
open Go.RowKit
/-! The two Cleans: one order. -/
def nlD (s : Ga) (m d : Nat) : List Nat := (List.range m).filter (fun x => decide (s.D x = (d : Int)))
theorem nlD_mem {s : Ga} {m d x : Nat} : x ∈ nlD s m d ↔ x < m ∧ s.D x = (d : Int) := by
  unfold nlD
  rw [List.mem_filter, List.mem_range, decide_eq_true_iff]
theorem nlD_new {s : Ga} {m d : Nat} (h : s.D m = (d : Int)) : nlD s (m + 1) d = nlD s m d ++ [m] := by
  unfold nlD
  rw [List.range_succ, List.filter_append]
  simp [h]
theorem nlD_old {s : Ga} {m d : Nat} (h : ¬ s.D m = (d : Int)) : nlD s (m + 1) d = nlD s m d := by
  unfold nlD
  rw [List.range_succ, List.filter_append]
  simp [h]
/-- what a raw node does to the nodes -/
theorem gaN_cases (s : Ga) (i : Nat) (p t v : Int) (_ : GaOk v s i) : ((gaN s i p t v).n = s.n ∧ ((gaN s i p t v).A (i + 1) = -1 ∨ (0 < (gaN s i p t v).A (i + 1) ∧ (gaN s i p t v).A (i + 1) < s.n))) ∨ ((gaN s i p t v).n = s.n + 1 ∧ (gaN s i p t v).A (i + 1) = s.n) := by
  unfold gaN
  split
  · exact .inl ⟨rfl, .inl (ext_at _ _ _)⟩
  · split
    · next x hx =>
      obtain ⟨x1, x2, _, _⟩ := fndK_some hx
      refine .inl ⟨rfl, .inr ?_⟩
      show 0 < ext s.A (i + 1) x (i + 1) ∧ ext s.A (i + 1) x (i + 1) < s.n
      rw [ext_at]
      exact ⟨x1, x2⟩
    · exact .inr ⟨rfl, ext_at _ _ _⟩
theorem wsR_nl {root v : Int} {p t : Nat → Int} {n d : Nat} {W0 : List (List Int)} (hd : 1 ≤ d) (hW : ∀ L ∈ W0, L.length < d) : ∀ i, i ≤ n → wsR p t v d W0 i = W0 ++ (nlD (gaS root v p t n) (gaS root v p t i).n d).map (wyO (gaS root v p t n)) := by
  have okn := gaS_ok root v p t n
  have hun := gaS_un root v p t n
  intro i
  induction i with
  | zero =>
    intro _
    have : nlD (gaS root v p t n) (gaS root v p t 0).n d = [] := by
      show nlD _ 1 d = []
      rw [show (1 : Nat) = 0 + 1 from rfl, nlD_old (by rw [okn.root.2]; omega)]
      rfl
    rw [this]
    simp [wsR]
  | succ i ih =>
    intro hi
    have e := ih (by omega)
    show wsN p t v d (wsR p t v d W0 i) i = _
    rw [e]
    have ok := gaS_ok root v p t i
    have ex := ext_gaS root v p t (i + 1) n hi
    have ans := (ans_all root v p t n).2 i (by omega)
    have ea := ex.A (i + 1) (Nat.le_refl _)
    have en := ex.n
    have hc := gaN_cases (gaS root v p t i) i (p i) (t i) v ok
    have hdef : gaN (gaS root v p t i) i (p i) (t i) v = gaS root v p t (i + 1) := rfl
    rw [hdef] at hc
    rw [← ea] at hc
    generalize gaS root v p t n = s at *
    rcases hc with ⟨c1, c2 | ⟨c2, c3⟩⟩ | ⟨c1, c2⟩
    · rw [c1]
      rcases ans with ⟨a1, a2⟩ | ⟨a1, a2, a3⟩
      · exact wsN_old (fun L q => by rw [a2] at q; cases q)
      · omega
    · rw [c1]
      rcases ans with ⟨a1, a2⟩ | ⟨a1, a2, a3⟩
      · omega
      · refine wsN_old (fun L q hl => ?_)
        rw [a3] at q
        cases q
        have hlen := wyO_len okn (s.A (i + 1)).toNat (by omega)
        exact List.mem_append_right _ (List.mem_map.2 ⟨(s.A (i + 1)).toNat, nlD_mem.2 ⟨by omega, by omega⟩, rfl⟩)
    · rcases ans with ⟨a1, a2⟩ | ⟨a1, a2, a3⟩
      · omega
      · have hx : (s.A (i + 1)).toNat = (gaS root v p t i).n := by omega
        rw [hx] at a3
        have hlen := wyO_len okn (gaS root v p t i).n (by omega)
        rw [c1]
        by_cases hl : s.D (gaS root v p t i).n = (d : Int)
        · rw [nlD_new hl, List.map_append, ← List.append_assoc]
          refine wsN_new a3 (by omega) (fun hm => ?_)
          rcases List.mem_append.1 hm with hm | hm
          · have := hW _ hm; omega
          · obtain ⟨y, hy, ey⟩ := List.mem_map.1 hm
            have hy2 := (nlD_mem.1 hy).1
            have := wyO_inj okn hun y (gaS root v p t i).n (by omega) (by omega) ey
            omega
        · rw [nlD_old hl]
          refine wsN_old (fun L q hl2 => ?_)
          rw [a3] at q
          cases q
          omega
def nlT (s : Ga) : Nat → List Nat
  | 0 => []
  | d + 1 => nlT s d ++ nlD s s.n (d + 1)
theorem nlT_mem {s : Ga} {x : Nat} : ∀ d, x ∈ nlT s d ↔ x < s.n ∧ 1 ≤ s.D x ∧ s.D x ≤ (d : Int) := by
  intro d
  induction d with
  | zero => exact ⟨fun h => absurd h (by simp [nlT]), fun h => by omega⟩
  | succ d ih =>
    show x ∈ nlT s d ++ nlD s s.n (d + 1) ↔ _
    rw [List.mem_append, ih, nlD_mem]
    constructor
    · rintro (h | h)
      · exact ⟨h.1, h.2.1, by omega⟩
      · exact ⟨h.1, by omega, by omega⟩
    · rintro ⟨h1, h2, h3⟩
      by_cases e : s.D x = ((d + 1 : Nat) : Int)
      · exact .inr ⟨h1, e⟩
      · exact .inl ⟨h1, h2, by omega⟩
theorem wsD_nl (root v : Int) (p t : Nat → Int) (n : Nat) : ∀ d, wsD p t v n d = (nlT (gaS root v p t n) d).map (wyO (gaS root v p t n)) := by
  have okn := gaS_ok root v p t n
  intro d
  induction d with
  | zero => rfl
  | succ d ih =>
    show wsR p t v (d + 1) (wsD p t v n d) n = _
    rw [wsR_nl (root := root) (by omega) (fun L hL => ?_) n (Nat.le_refl _), ih]
    · show _ = List.map _ (nlT _ d ++ nlD _ _ (d + 1))
      rw [List.map_append]
    · rw [ih] at hL
      obtain ⟨x, hx, ex⟩ := List.mem_map.1 hL
      have := (nlT_mem d).1 hx
      have hl := wyO_len okn x this.1
      rw [← ex]
      omega
theorem nlT_sorted (s : Ga) : ∀ d, (nlT s d).Pairwise (ltK s.D) := by
  intro d
  induction d with
  | zero => exact List.Pairwise.nil
  | succ d ih =>
    show (nlT s d ++ nlD s s.n (d + 1)).Pairwise _
    rw [List.pairwise_append]
    refine ⟨ih, ?_, fun a ha b hb => ?_⟩
    · have h1 : (nlD s s.n (d + 1)).Pairwise (· < ·) := List.Pairwise.sublist List.filter_sublist List.pairwise_lt_range
      refine List.Pairwise.imp_of_mem (fun {a b} ha hb hlt => ?_) h1
      have e1 := (nlD_mem.1 ha).2
      have e2 := (nlD_mem.1 hb).2
      exact .inr ⟨by omega, hlt⟩
    · have e1 := (nlT_mem d).1 ha
      have e2 := (nlD_mem.1 hb).2
      exact .inl (by omega)
theorem eq_sorted {r : Nat → Nat → Prop} (ir : ∀ a, ¬ r a a) (asy : ∀ a b, r a b → ¬ r b a) : ∀ l1 l2 : List Nat, l1.Pairwise r → l2.Pairwise r → (∀ x, x ∈ l1 ↔ x ∈ l2) → l1 = l2
  | [], [], _, _, _ => rfl
  | [], b :: l2, _, _, h => absurd ((h b).2 (by simp)) (by simp)
  | a :: l1, [], _, _, h => absurd ((h a).1 (by simp)) (by simp)
  | a :: l1, b :: l2, h1, h2, h => by
    rw [List.pairwise_cons] at h1 h2
    have hab : a = b := by
      apply Classical.byContradiction
      intro hne
      have m1 := (h a).1 (by simp)
      have m2 := (h b).2 (by simp)
      rcases List.mem_cons.1 m1 with e | e
      · exact hne e
      · rcases List.mem_cons.1 m2 with e' | e'
        · exact hne e'.symm
        · exact asy a b (h1.1 b e') (h2.1 a e)
    subst hab
    rw [eq_sorted ir asy l1 l2 h1.2 h2.2 (fun x => ?_)]
    have hx := h x
    constructor
    · intro q
      rcases List.mem_cons.1 (hx.1 (List.mem_cons_of_mem _ q)) with e | e
      · exact absurd (h1.1 x q) (by rw [e]; exact ir a)
      · exact e
    · intro q
      rcases List.mem_cons.1 (hx.2 (List.mem_cons_of_mem _ q)) with e | e
      · exact absurd (h2.1 x q) (by rw [e]; exact ir a)
      · exact e
end Go.Proofs.Ytakekdbclmgeoaa.Cl
