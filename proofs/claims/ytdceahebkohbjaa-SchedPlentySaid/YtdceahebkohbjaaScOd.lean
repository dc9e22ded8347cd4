import Derived.Test.YtdceahebkohbjaaScBu
namespace Go.Proofs.Ytdceahebkohbjaa
open Go.RowKit
/-! The oldest seat: never out, served first where it is picked. -/
theorem lok_Z (c : Me) (L : Nat → Se) (n p : Nat) (st : Pn) : ∃ Y, (lok c L n p st).Z = st.Z ++ Y := by
  unfold lok
  split
  · exact ⟨[], by simp⟩
  · exact ⟨_, rfl⟩
theorem mkN_Z (c : Me) (L : Nat → Se) (n : Nat) (pk : Int → Bool) (p : Nat) : ∀ k, ∃ Y, (mkN c L n pk (p + k)).Z = (mkN c L n pk p).Z ++ Y
  | 0 => ⟨[], by simp⟩
  | k + 1 => by
    obtain ⟨Y, hY⟩ := mkN_Z c L n pk p k
    have es : mkN c L n pk (p + (k + 1)) = if (mkN c L n pk (p + k)).left = 0 then mkN c L n pk (p + k) else if (mkN c L n pk (p + k)).out (p + k) = false ∧ pk (L (p + k)).id = true then lok c L n (p + k) (mkN c L n pk (p + k)) else mkN c L n pk (p + k) := rfl
    rw [es]
    split
    · exact ⟨Y, hY⟩
    · split
      · obtain ⟨X, hX⟩ := lok_Z c L n (p + k) (mkN c L n pk (p + k))
        exact ⟨Y ++ X, by rw [hX, hY, List.append_assoc]⟩
      · exact ⟨Y, hY⟩
theorem first_look {c : Me} {L : Nat → Se} {n : Nat} {pk : Int → Bool} (hc : okM c 1) (hk : ∀ i, i < n → okS c (L i)) (hn : 0 < n) (hpk : pk (L 0).id = true) (hkn : (L 0).kn ≤ c.bs * c.bl) :
    ∃ x, (mkN c L n pk 1).Z = [(0, x)] ∧ (rst (L 0) = 0 → 1 ≤ x) ∧ (0 < rst (L 0) → x = min (rst (L 0)) c.ch) := by
  have hch := hc.2.2.2.2.2.2.2.1
  have hbu := hc.2.2.2.2.2.2.2.2.1
  have htr := hc.2.2.2.2.2.2.2.2.2.2.1
  have hsk := hk 0 hn
  have hr0 : 0 ≤ rst (L 0) := by have := hsk.2.2.2.1; unfold rst; omega
  have e1 : mkN c L n pk 1 = lok c L n 0 ⟨fun _ => false, c.bu, 0, [], []⟩ := by
    have es : mkN c L n pk 1 = if c.bu = 0 then mkN c L n pk 0 else if (false = false ∧ pk (L 0).id = true) then lok c L n 0 ⟨fun _ => false, c.bu, 0, [], []⟩ else mkN c L n pk 0 := rfl
    rw [es, if_neg (show ¬ c.bu = 0 by omega), if_pos ⟨rfl, hpk⟩]
  rw [e1]
  have hmb := mst_bd (c := c) (s := L 0) (left := c.bu) hc (by omega)
  have hlb := lst_bd (c := c) (s := L 0) (left := c.bu) hc (by omega)
  unfold lok
  simp only
  split
  · next hv =>
    exfalso
    obtain ⟨ot, h1, h2⟩ := vict_none (c := c) (L := L) (n := n) (g := 0) (p := 0) (y := n - 1) (Nat.zero_le _) (by omega) (fun r h3 h4 => by omega) hv
    have hcn : cnt (hs L n ot) 256 ≤ (L 0).hn := by
      have q := hasN_cnt hsk.2.2.2.2.2 hc.2.2.2.1
      rw [← q]
      refine cnt_mono (fun b hb => ?_) 256
      obtain ⟨p, p1, p2, p3⟩ := (hs_iff _ _ _ _).1 hb
      by_cases e : p = 0
      · rw [e] at p3; exact p3
      · exfalso
        by_cases e2 : 0 < (L p).hn
        · have := (h2 p p1).2 (Or.inr ⟨by omega, e2⟩)
          rw [this] at p2
          cases p2
        · obtain ⟨j, hj, _⟩ := (has_iff _ _).1 p3
          omega
    unfold rom fre at h1
    have hm : c.bs * c.bl ≤ (((L 0).hn : Int) + (c.bs - 0 - (cnt (hs L n ot) 256 : Int))) * c.bl := Int.mul_le_mul_of_nonneg_right (by omega) (by have := hc.2.2.2.2.1; omega)
    have hl : lst c (L 0) c.bu ≤ rst (L 0) + 1 := by
      unfold lst
      split <;> omega
    unfold rst at hl
    omega
  · next out ids hv =>
    have hro := vict_room hv
    refine ⟨_, rfl, fun _ => by omega, fun h => ?_⟩
    have a1 : mst c (L 0) c.bu = lst c (L 0) c.bu := by unfold mst lst; rw [if_pos h, if_pos h]
    have a2 : lst c (L 0) c.bu = min (min (rst (L 0)) c.ch) c.bu := by unfold lst; rw [if_pos h]
    omega
structure OlF (c : Me) (n : Nat) (S : Nat → Se) (pk : Int → Bool) (mO mZ : Nat) (oI zI zT zG : Nat → Int) : Prop where
  mz : mZ ≤ 16
  at_ : ∀ q, q < n → (∀ i, i < n → (S q).id ≤ (S i).id) → hasI oI mO (S q).id = false ∧ (pk (S q).id = true → (S q).kn ≤ c.bs * c.bl → 0 < mZ ∧ zI 0 = (S q).id ∧ (rst (S q) = 0 → 1 ≤ zG 0) ∧ (0 < rst (S q) → zT 0 = min (rst (S q)) c.ch))
theorem PlD.oldest {w' : World} {base : Nat} {c : Me} {n : Nat} {S : Nat → Se} {pk : Int → Bool} {vO vZ : Value} (h : PlD w' base c n S pk vO vZ) (hc : okM c 1) (hn : n ≤ 16) :
    ∃ mO mZ oI zI zT zG, Own w' base 3 1 vO mO (fun j => .int .i64 (oI j)) ∧ Own w' base 38 3 vZ mZ (trF zI zT zG) ∧ OlF c n S pk mO mZ oI zI zT zG := by
  obtain ⟨L, hp, hd, h1, h2⟩ := h
  have I := mkN_inv (pk := pk) hc hd.1 hn n (Nat.le_refl _)
  refine ⟨(mkN c L n pk n).O.length, (mkN c L n pk n).Z.length, fun k => (L ((mkN c L n pk n).O.getD k 0)).id, fun k => (slc L ((mkN c L n pk n).Z.getD k (0, 0))).1, fun k => (slc L ((mkN c L n pk n).Z.getD k (0, 0))).2.1, fun k => (slc L ((mkN c L n pk n).Z.getD k (0, 0))).2.2, h1, h2, ⟨by have := I.zlen; omega, fun q hq hmin => ?_⟩⟩
  have h0 : 0 < n := by omega
  obtain ⟨i0, hi0, he0⟩ := hp.of_mem h0
  obtain ⟨r, hr, her⟩ := hp.to_mem hq
  have hr0 : r = 0 := by
    by_cases e : r = 0
    · exact e
    · have u1 := hp.up 0 r (by omega) hr
      have u2 := hmin i0 hi0
      rw [er_id her, er_id he0] at u1
      omega
  subst hr0
  refine ⟨?_, fun hpk hkn => ?_⟩
  · rw [Bool.eq_false_iff]
    intro hh
    obtain ⟨j, hj, e⟩ := (hasI_iff _ _ _).1 hh
    have ho : (mkN c L n pk n).out ((mkN c L n pk n).O.getD j 0) = true := (I.mem _).2 (by rw [getD_at _ _ hj]; exact List.getElem_mem hj)
    obtain ⟨z, _, hz⟩ := I.head _ ho
    have u1 := hp.up 0 _ (by omega) (I.outn _ ho).1
    have e' : (L ((mkN c L n pk n).O.getD j 0)).id = (S q).id := e
    rw [er_id her, e'] at u1
    omega
  · obtain ⟨x, hx, x1, x2⟩ := first_look (pk := pk) hc hd.1 h0 (by rw [er_id her]; exact hpk) (by rw [er_kn her]; exact hkn)
    obtain ⟨Y, hY⟩ := mkN_Z c L n pk 1 (n - 1)
    rw [show 1 + (n - 1) = n by omega, hx] at hY
    have er1 : rst (S q) = rst (L 0) := by unfold rst; rw [er_kn her, er_ca her]
    simp only [hY]
    rw [er1]
    refine ⟨by simp, ?_, fun h => ?_, fun h => ?_⟩
    · rw [slc_id]; exact er_id her
    · show 1 ≤ (slc L (0, x)).2.2
      unfold slc
      rw [if_neg (by show ¬ 0 < rst (L 0); omega)]
      exact x1 h
    · show (slc L (0, x)).2.1 = _
      unfold slc
      rw [if_pos (by show 0 < rst (L 0); omega)]
      exact x2 h
end Go.Proofs.Ytdceahebkohbjaa
