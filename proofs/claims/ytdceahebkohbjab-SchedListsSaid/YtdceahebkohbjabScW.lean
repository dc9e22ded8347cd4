import Derived.Test.YtdceahebkohbjabScZ
namespace Go.Proofs.Ytdceahebkohbjab
open Go.RowKit
/-! What a plan says of the seats as they came. -/
def trF (a b d : Nat → Int) (j : Nat) : Value := if j % 3 = 0 then .int .i64 (a (j / 3)) else if j % 3 = 1 then .int .i64 (b (j / 3)) else .int .i64 (d (j / 3))
def psum (T G : Nat → Int) : Nat → Int
  | 0 => 0
  | k + 1 => psum T G k + T k + G k
def BzR (c : Me) (s : Se) (t g : Int) : Prop := (0 < rst s ∧ g = 0 ∧ 1 ≤ t ∧ t ≤ rst s ∧ t ≤ c.ch) ∨ (rst s = 0 ∧ t = 0 ∧ 1 ≤ g ∧ g ≤ c.tr ∧ g ≤ max s.wa 1)
structure LwF (c : Me) (n : Nat) (S : Nat → Se) (pk : Int → Bool) (mO mZ : Nat) (oI zI zT zG : Nat → Int) : Prop where
  mz : mZ ≤ 16
  mo : mO ≤ 256
  zat : ∀ k, k < mZ → ∃ q, q < n ∧ zI k = (S q).id ∧ pk (zI k) = true ∧ hasI oI mO (zI k) = false ∧ BzR c (S q) (zT k) (zG k)
  inc : ∀ k, k + 1 < mZ → zI k < zI (k + 1)
  sum : ∀ k, k ≤ mZ → 0 ≤ psum zT zG k ∧ psum zT zG k ≤ c.bu
  oat : ∀ k, k < mO → (∃ q, q < n ∧ oI k = (S q).id ∧ 0 < (S q).hn) ∧ hasI oI k (oI k) = false ∧ 0 < mZ ∧ zI 0 < oI k ∧ ∀ i, i < n → 0 < (S i).hn → oI k < (S i).id → hasI oI mO (S i).id = true
theorem getD_at {α : Type} (l : List α) (d : α) {k : Nat} (h : k < l.length) : l.getD k d = l[k] := by
  simp [List.getD, List.getElem?_eq_getElem h]
theorem slc_sum (L : Nat → Se) (z : Nat × Int) : (slc L z).2.1 + (slc L z).2.2 = z.2 := by
  unfold slc
  split <;> simp
theorem slc_id (L : Nat → Se) (z : Nat × Int) : (slc L z).1 = (L z.1).id := by
  unfold slc
  split <;> rfl
theorem psum_tot (L : Nat → Se) (Z : List (Nat × Int)) : ∀ k, k ≤ Z.length → psum (fun k => (slc L (Z.getD k (0, 0))).2.1) (fun k => (slc L (Z.getD k (0, 0))).2.2) k = tot (Z.take k)
  | 0, _ => by simp [psum, tot]
  | k + 1, h => by
    have ih := psum_tot L Z k (by omega)
    rw [List.take_succ_eq_append_getElem (by omega), tot_app]
    unfold psum
    rw [ih, getD_at Z _ (by omega)]
    have := slc_sum L Z[k]
    omega
theorem tot_nn {Z : List (Nat × Int)} (h : ∀ z, z ∈ Z → 1 ≤ z.2) : 0 ≤ tot Z := by
  induction Z with
  | nil => exact Int.le_refl _
  | cons z Z ih =>
    have h1 := ih (fun y hy => h y (List.mem_cons_of_mem _ hy))
    have h2 := h z (List.mem_cons_self ..)
    show 0 ≤ _
    unfold tot
    omega
theorem tot_split (A B : List (Nat × Int)) : tot (A ++ B) = tot A + tot B := by
  induction A with
  | nil => simp [tot]
  | cons z A ih => simp only [List.cons_append, tot, ih]; omega
theorem PlD.facts {w' : World} {base : Nat} {c : Me} {n : Nat} {S : Nat → Se} {pk : Int → Bool} {vO vZ : Value} (h : PlD w' base c n S pk vO vZ) (hc : okM c 1) (hn : n ≤ 16) :
    ∃ mO mZ oI zI zT zG, Own w' base 3 1 vO mO (fun j => .int .i64 (oI j)) ∧ Own w' base 45 3 vZ mZ (trF zI zT zG) ∧ LwF c n S pk mO mZ oI zI zT zG := by
  obtain ⟨L, hp, hd, h1, h2⟩ := h
  have I := mkN_inv (pk := pk) hc hd.1 hn n (Nat.le_refl _)
  generalize mkN c L n pk n = st at *
  have inj : ∀ i j, i < n → j < n → (L i).id = (L j).id → i = j := fun i j hi hj e => by
    rcases Nat.lt_trichotomy i j with h | h | h
    · have := hp.up i j h hj; omega
    · exact h
    · have := hp.up j i h hi; omega
  have lt_of : ∀ i j, i < n → j < n → (L i).id < (L j).id → i < j := fun i j hi hj e => by
    rcases Nat.lt_trichotomy i j with h | h | h
    · exact h
    · subst h; omega
    · have := hp.up j i h hi; omega
  have hO : ∀ k, k < st.O.length → st.out (st.O.getD k 0) = true := fun k hk => (I.mem _).2 (by rw [getD_at _ _ hk]; exact List.getElem_mem hk)
  have hZ : ∀ k, k < st.Z.length → st.Z.getD k (0, 0) ∈ st.Z := fun k hk => by rw [getD_at _ _ hk]; exact List.getElem_mem hk
  have hall : ∀ z, z ∈ st.Z → 1 ≤ z.2 := fun z hz => (I.zs z hz).2.2.2.2.1
  refine ⟨st.O.length, st.Z.length, fun k => (L (st.O.getD k 0)).id, fun k => (slc L (st.Z.getD k (0, 0))).1, fun k => (slc L (st.Z.getD k (0, 0))).2.1, fun k => (slc L (st.Z.getD k (0, 0))).2.2, h1, h2, ⟨by have := I.zlen; omega, by have := I.olen; omega, fun k hk => ?_, fun k hk => ?_, fun k hk => ?_, fun k hk => ?_⟩⟩
  · obtain ⟨z1, z2, z3, z4, z5, z6⟩ := I.zs _ (hZ k hk)
    generalize st.Z.getD k (0, 0) = z at *
    obtain ⟨q, hq, he⟩ := hp.of_mem z2
    refine ⟨q, hq, by rw [slc_id]; exact er_id he, by rw [slc_id]; exact z4, ?_, ?_⟩
    · rw [Bool.eq_false_iff]
      intro hh
      obtain ⟨j, hj, e⟩ := (hasI_iff _ _ _).1 hh
      rw [slc_id] at e
      have ho := hO j hj
      have := inj _ _ (I.outn _ ho).1 z2 e
      rw [this, z3] at ho
      cases ho
    · have er1 : rst (S q) = rst (L z.1) := by unfold rst; rw [er_kn he, er_ca he]
      have hr : 0 ≤ rst (L z.1) := by have := (hd.1 _ z2).2.2.2.1; unfold rst; omega
      unfold BzR slc
      rw [er1, ← er_wa he]
      unfold wan at z6
      split at z6
      · next hh => rw [if_pos hh]; exact Or.inl ⟨hh, rfl, z5, by show z.2 ≤ _; omega, by show z.2 ≤ _; omega⟩
      · next hh => rw [if_neg hh]; exact Or.inr ⟨by omega, rfl, z5, by show z.2 ≤ _; omega, by show z.2 ≤ _; omega⟩
  · show (slc L _).1 < (slc L _).1
    rw [slc_id, slc_id, getD_at _ _ (show k < st.Z.length by omega), getD_at _ _ hk]
    have := (List.pairwise_iff_getElem.1 I.inc) k (k + 1) (by omega) hk (by omega)
    exact hp.up _ _ this (I.zs _ (List.getElem_mem hk)).2.1
  · rw [psum_tot L st.Z k hk]
    have e := tot_split (st.Z.take k) (st.Z.drop k)
    rw [List.take_append_drop] at e
    have p1 := tot_nn (Z := st.Z.take k) (fun z hz => hall z (List.mem_of_mem_take hz))
    have p2 := tot_nn (Z := st.Z.drop k) (fun z hz => hall z (List.mem_of_mem_drop hz))
    have := I.sum
    have := I.left0
    omega
  · have ho := hO k hk
    obtain ⟨hn1, hn2⟩ := I.outn _ ho
    obtain ⟨q, hq, he⟩ := hp.of_mem hn1
    obtain ⟨z, hz, hzq⟩ := I.head _ ho
    have hz0 : 0 < st.Z.length := by
      cases hh : st.Z with
      | nil => rw [hh] at hz; cases hz
      | cons a b => simp
    have hz1 : st.Z.getD 0 (0, 0) = z := by
      rw [getD_at _ _ hz0]
      rw [List.head?_eq_getElem?, List.getElem?_eq_getElem hz0] at hz
      exact Option.some.inj hz
    refine ⟨⟨q, hq, er_id he, by rw [← er_hn he]; exact hn2⟩, ?_, hz0, ?_, fun i hi h3 h4 => ?_⟩
    · rw [Bool.eq_false_iff]
      intro hh
      obtain ⟨j, hj, e⟩ := (hasI_iff _ _ _).1 hh
      have hoj := hO j (by omega)
      have e2 := inj _ _ (I.outn _ hoj).1 hn1 e
      rw [getD_at _ _ (show j < st.O.length by omega), getD_at _ _ hk] at e2
      have := (List.pairwise_iff_getElem.1 I.nd) j k (by omega) hk hj
      exact this e2
    · show (slc L _).1 < _
      rw [slc_id, hz1]
      exact hp.up _ _ hzq hn1
    · obtain ⟨r, hr, hre⟩ := hp.to_mem hi
      have h5 : (L (st.O.getD k 0)).id < (L r).id := by rw [er_id hre]; exact h4
      have h6 := I.up _ r ho (lt_of _ _ hn1 hr h5) hr (by rw [er_hn hre]; exact h3)
      obtain ⟨j, hj, e⟩ := List.getElem_of_mem ((I.mem r).1 h6)
      exact (hasI_iff _ _ _).2 ⟨j, hj, by show (L (st.O.getD j 0)).id = _; rw [getD_at _ _ hj, e, er_id hre]⟩
end Go.Proofs.Ytdceahebkohbjab
