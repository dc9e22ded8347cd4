import Derived.Test.YtakekdbclmgeoaaClCqB
import Derived.Test.YtakekdbclmgeoaaClSrP
import Derived.Test.YtakekdbclmgeoaaKR
namespace Go.Proofs.Ytakekdbclmgeoaa.Cl
open Go.RowKit
/-! The two Cleans: one tree. -/
theorem ltK_irr (K : Nat → Int) (a : Nat) : ¬ ltK K a a := by unfold ltK; omega
theorem ltK_asy (K : Nat → Int) (a b : Nat) (h : ltK K a b) : ¬ ltK K b a := by unfold ltK at *; omega
theorem order_eq {root v : Int} {p t : Nat → Int} {n : Nat} {d : Nat → Nat} (hf : Fr (fun i => i) d 0 (gaS root v p t n).n) (hs : Srt (gaS root v p t n).D d 0 (gaS root v p t n).n) (h0 : d 0 = 0) : nlT (gaS root v p t n) n = (List.range ((gaS root v p t n).n - 1)).map (fun i => d (i + 1)) := by
  have ok := gaS_ok root v p t n
  generalize gaS root v p t n = s at *
  have hone := ok.one
  have hle := ok.le
  have hb : ∀ i, i < s.n → d i < s.n := hf.below (fun i hi => hi)
  refine eq_sorted (r := ltK s.D) (ltK_irr _) (ltK_asy _) _ _ (nlT_sorted s n) ?_ (fun x => ?_)
  · rw [List.pairwise_map]
    refine List.Pairwise.imp_of_mem (fun {a b} ha hb' hlt => ?_) List.pairwise_lt_range
    have := List.mem_range.1 hb'
    exact hs (a + 1) (b + 1) (Nat.zero_le _) (by omega) (by omega)
  · rw [nlT_mem]
    constructor
    · rintro ⟨h1, h2, h3⟩
      obtain ⟨i, hi, e⟩ := onto_of s.n d hb (fun i j a b c => hs.inj a b c) x h1
      have i0 : i ≠ 0 := fun q => by
        rw [q, h0] at e
        rw [← e, ok.root.2] at h2
        omega
      exact List.mem_map.2 ⟨i - 1, List.mem_range.2 (by omega), by rw [show i - 1 + 1 = i by omega]; exact e⟩
    · intro h
      obtain ⟨i, hi, e⟩ := List.mem_map.1 h
      have hi := List.mem_range.1 hi
      have hx : x < s.n := by rw [← e]; exact hb _ (by omega)
      have x0 : 0 < x := by
        rcases Nat.eq_zero_or_pos x with q | q
        · have := hs.inj (i := i + 1) (j := 0) (by omega) (by omega) (by rw [e, h0, q])
          omega
        · exact q
      have hp := ok.par x x0 hx
      have hd := ok.dep (s.P x).toNat (by omega)
      have hd2 := ok.dep x hx
      exact ⟨hx, by omega, by omega⟩
theorem T_root (root v : Int) (p t : Nat → Int) (n : Nat) : (gaS root v p t n).T 0 = root := (ext_gaS root v p t 0 n (Nat.zero_le _)).T 0 (by show 0 < 1; omega)
theorem trees_same {root v : Int} {p t : Nat → Int} {n : Nat} {d : Nat → Nat} (hf : Fr (fun i => i) d 0 (gaS root v p t n).n) (hs : Srt (gaS root v p t n).D d 0 (gaS root v p t n).n) (h0 : d 0 = 0) : (wsD p t v n n).length + 1 = (gaS root v p t n).n ∧ ∀ i, i < (gaS root v p t n).n → ouP (gaS root v p t n).P d (mv d (gaS root v p t n).n) i = rcP (wsD p t v n n) i ∧ (gaS root v p t n).T (d i) = rcT root (wsD p t v n n) i ∧ (gaS root v p t n).D (d i) = rcD (wsD p t v n n) i := by
  have ok := gaS_ok root v p t n
  have hws := wsD_nl root v p t n n
  rw [order_eq hf hs h0] at hws
  have wok := wsD_ok p t v n n
  have hT := T_root root v p t n
  generalize gaS root v p t n = s at *
  have hone := ok.one
  have hb : ∀ i, i < s.n → d i < s.n := hf.below (fun i hi => hi)
  have hlen : (wsD p t v n n).length = s.n - 1 := by rw [hws]; simp
  have hat : ∀ k, k < s.n - 1 → wAt (wsD p t v n n) k = wyO s (d (k + 1)) := fun k hk => by
    rw [hws]
    unfold wAt
    rw [List.getD_eq_getElem?_getD]
    simp [hk]
  generalize wsD p t v n n = WS at *
  refine ⟨by omega, fun i hi => ?_⟩
  by_cases i0 : i = 0
  · subst i0
    refine ⟨?_, ?_, ?_⟩
    · show (if 0 = 0 then s.P (d 0) else _) = -1
      rw [if_pos rfl, h0]; exact ok.root.1
    · rw [h0]; exact hT
    · rw [h0]; exact ok.root.2
  · obtain ⟨k, rfl⟩ : ∃ k, i = k + 1 := ⟨i - 1, by omega⟩
    have hx := hb (k + 1) hi
    have x0 : 0 < d (k + 1) := by
      rcases Nat.eq_zero_or_pos (d (k + 1)) with q | q
      · have := hs.inj (i := k + 1) (j := 0) hi (by omega) (by rw [q, h0]); omega
      · exact q
    have hp := ok.par (d (k + 1)) x0 hx
    have hstep := wyO_step ok x0 hx
    have hl := wyO_len ok (d (k + 1)) hx
    have hlp := wyO_len ok (s.P (d (k + 1))).toNat (by omega)
    have ew := hat k (by omega)
    have hdl : (wAt WS k).dropLast = wyO s (s.P (d (k + 1))).toNat := by rw [ew, hstep]; simp
    refine ⟨?_, ?_, by rw [rcD_at, ew, hl]⟩
    · show (if k + 1 = 0 then _ else ((mv d s.n (s.P (d (k + 1))).toNat : Nat) : Int)) = _
      rw [if_neg (by omega)]
      obtain ⟨j, hj, ej⟩ := onto_of s.n d hb (fun i j a b c => hs.inj a b c) (s.P (d (k + 1))).toNat (by omega)
      rw [← ej, mv_at (n := s.n) (fun i j a b c => hs.inj a b c) s.n (Nat.le_refl _) j hj]
      by_cases h1 : 1 < (wAt WS k).length
      · rw [rcP_up h1, hdl]
        have j0 : j ≠ 0 := fun q => by
          rw [q, h0] at ej
          have hlp2 := ok.root.2
          rw [← ej] at hlp
          rw [ew] at h1
          have := hp.2.2.1
          rw [← ej] at this
          omega
        have := rpk_of wok.nodup (k := j - 1) (X := wyO s (s.P (d (k + 1))).toNat) (by omega) (by rw [hat (j - 1) (by omega), show j - 1 + 1 = j by omega, ej])
        rw [this]
        omega
      · rw [rcP_one h1]
        have hpz : s.P (d (k + 1)) = 0 := by
          rcases Int.lt_or_le 0 (s.P (d (k + 1))) with q | q
          · have hpp := ok.par (s.P (d (k + 1))).toNat (by omega) (by omega)
            have hdd := ok.dep (s.P (s.P (d (k + 1))).toNat).toNat (by omega)
            have := hp.2.2.1
            rw [ew] at h1
            omega
          · omega
        have : j = 0 := hs.inj hj (by omega) (by rw [ej, hpz, h0]; rfl)
        rw [this]; rfl
    · rw [rcT_at, ew, hstep]
      simp
end Go.Proofs.Ytakekdbclmgeoaa.Cl
