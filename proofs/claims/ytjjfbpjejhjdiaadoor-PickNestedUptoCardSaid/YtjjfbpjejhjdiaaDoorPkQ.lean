import Derived.Test.YtjjfbpjejhjdiaaDoorPkO
namespace Go.Proofs.YtjjfbpjejhjdiaaDoor
open Go.RowKit
/-! PickNested: lists that begin alike. -/
theorem head_take {A : List (Int × Int)} {k : Nat} (hk : 0 < k) : (A.take k).headD (0, 0) = A.headD (0, 0) := by
  cases A with
  | nil => simp
  | cons a r => cases k with
    | zero => omega
    | succ k => rfl
theorem weL_take (temp : Int) (A : List (Int × Int)) (k : Nat) : weL temp (A.take k) = (weL temp A).take k := by
  by_cases hk : k = 0
  · subst hk; rfl
  · unfold weL
    rw [head_take (by omega), List.map_take]
theorem topL_len (k : Int) (A : List (Int × Int)) : (topL k A).length ≤ A.length := by
  unfold topL
  split
  · exact Nat.le_refl _
  · rw [List.length_take]; omega
/-- the one with the smaller TopK begins the other -/
theorem topL_pre {j k : Int} (A : List (Int × Int)) (h : k = 0 ∨ (j ≠ 0 ∧ j ≤ k)) : topL j A = (topL k A).take (topL j A).length := by
  by_cases hk : k = 0
  · have e : topL k A = A := by unfold topL; rw [if_pos hk]
    rw [e]
    unfold topL
    split
    · rw [List.take_length]
    · rw [List.length_take]
      by_cases q : j.toNat ≤ A.length
      · rw [Nat.min_eq_left q]
      · rw [Nat.min_eq_right (by omega), List.take_length, List.take_of_length_le (by omega)]
  · have hj : j ≠ 0 ∧ j ≤ k := by rcases h with h | h <;> first | exact absurd h hk | exact h
    have e1 : topL k A = A.take k.toNat := by unfold topL; rw [if_neg hk]
    have e2 : topL j A = A.take j.toNat := by unfold topL; rw [if_neg hj.1]
    rw [e1, e2, List.take_take, List.length_take]
    have e3 : min (min j.toNat A.length) k.toNat = min j.toNat A.length := by omega
    rw [e3]
    by_cases q : j.toNat ≤ A.length
    · rw [Nat.min_eq_left q]
    · rw [Nat.min_eq_right (by omega), List.take_length, List.take_of_length_le (by omega)]
theorem nested {p q : Prm} (op : p.Ok) (oq : q.Ok) (ht : q.temp = p.temp) (hp : p.topp ≤ q.topp) (hk : q.topk = 0 ∨ (p.topk ≠ 0 ∧ p.topk ≤ q.topk)) (g : Nat → Int) (n : Nat) (M : Nat → Bool) :
    (chL p g n M).length ≤ (chL q g n M).length ∧ chL p g n M = (chL q g n M).take (chL p g n M).length := by
  unfold chL
  rw [ht]
  by_cases h0 : p.temp = 0
  · rw [if_pos h0, if_pos h0]
    exact ⟨Nat.le_refl _, by rw [List.take_length]⟩
  · rw [if_neg h0, if_neg h0]
    have e := topL_pre (canL g n M) hk
    generalize hB : topL p.topk (canL g n M) = B at *
    generalize hC : topL q.topk (canL g n M) = C at *
    have eW : weL p.temp B = (weL p.temp C).take B.length := by rw [← weL_take, ← e]
    have bV := weL_bd p.temp C
    have bU := weL_bd p.temp B
    have lU : (weL p.temp B).length = B.length := weL_len _ _
    have hlen : B.length ≤ C.length := by rw [e, List.length_take]; omega
    have lV : (weL p.temp C).length = C.length := weL_len _ _
    generalize weL p.temp B = U at *
    generalize weL p.temp C = V at *
    have cU := cutN_is (cut_ex (tp := p.topp) bU op.p1)
    have cV := cutN_is (cut_ex (tp := q.topp) bV oq.p1)
    generalize cutN (goalOf p.topp U) U = mu at *
    generalize cutN (goalOf q.topp V) V = mv at *
    have hpre : ∀ k, k ≤ B.length → pre U k = pre V k := fun k hk => by rw [eW, pre_take V _ _ hk]
    have hsum : pre U U.length ≤ pre V V.length := by rw [lU, lV, hpre _ (Nat.le_refl _)]; exact pre_mono bV hlen (by omega)
    have hg : goalOf p.topp U ≤ goalOf q.topp V := by
      unfold goalOf
      have h1 := (pre_bd bU (k := U.length) (Nat.le_refl _)).1
      have h2 : p.topp * pre U U.length ≤ q.topp * pre U U.length := Int.mul_le_mul_of_nonneg_right hp h1
      have h3 : q.topp * pre U U.length ≤ q.topp * pre V V.length := Int.mul_le_mul_of_nonneg_left hsum (by have := oq.p0; omega)
      omega
    have hm : mu ≤ mv := by
      by_cases q : mu ≤ mv
      · exact q
      · have h1 := cU.lt mv (by omega)
        have h2 := cU.le
        rw [hpre mv (by omega)] at h1
        have h3 := cV.ge
        omega
    have hul := cU.le
    have hvl := cV.le
    have l1 : (U.take mu).length = mu := by rw [List.length_take]; omega
    have l2 : (V.take mv).length = mv := by rw [List.length_take]; omega
    rw [l1, l2]
    refine ⟨hm, ?_⟩
    rw [List.take_take, Nat.min_eq_left hm, eW, List.take_take, Nat.min_eq_left (by omega)]
theorem PL.take {w : World} {base c : Nat} {u : Option Addr} {L K : List (Int × Int)} (h : PL w base u c L) (hk : K.length ≤ L.length) (e : K = L.take K.length) : PL w base u c K := by
  refine (Own.shrink h hk).congr fun j hj => ?_
  unfold ldP
  have : K.getD (j / 2) (0, 0) = L.getD (j / 2) (0, 0) := by
    rw [e, List.getD_eq_getElem?_getD, List.getD_eq_getElem?_getD, List.getElem?_take, if_pos (by omega)]
  rw [this]
end Go.Proofs.YtjjfbpjejhjdiaaDoor
