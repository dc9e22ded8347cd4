import Derived.Test.YtaalinlggjimcaaDM
import Derived.Test.YtaalinlggjimcaaFK
namespace Go.Proofs.Ytaalinlggjimcaa
open Go.RowKit
/-! Both sides' lists: used, tied, leaning. -/
theorem ext_ndAt {L M : List Nd} (h : L.length = M.length) (e : ∀ j, j < L.length → ndAt L j = ndAt M j) : L = M := by
  refine List.ext_getElem h (fun j h1 h2 => ?_)
  have := e j h1
  unfold ndAt at this
  rw [List.getD_eq_getElem?_getD, List.getD_eq_getElem?_getD, List.getElem?_eq_getElem h1, List.getElem?_eq_getElem h2] at this
  exact this
theorem map_at {L : List Nd} {f : Nd → Nd} {j : Nat} (h : j < L.length) : ndAt (L.map f) j = f (ndAt L j) := by
  unfold ndAt
  rw [List.getD_eq_getElem?_getD, List.getD_eq_getElem?_getD, List.getElem?_map, List.getElem?_eq_getElem h]
  rfl
theorem ndAt_inj {L : List Nd} (hn : L.Nodup) {i j : Nat} (hi : i < L.length) (hj : j < L.length) (e : ndAt L i = ndAt L j) : i = j := by
  unfold ndAt at e
  rw [List.getD_eq_getElem?_getD, List.getD_eq_getElem?_getD, List.getElem?_eq_getElem hi, List.getElem?_eq_getElem hj] at e
  have hp := List.pairwise_iff_getElem.1 hn
  rcases Nat.lt_trichotomy i j with q | q | q
  · exact absurd e (hp i j hi hj q)
  · exact q
  · exact absurd e.symm (hp j i hj hi q)
theorem useL_len (L : List Nd) (p : List (List Int)) (n : Nat) : (useL L p n).length = L.length := by unfold useL; simp
/-- one more beginning used -/
theorem useL_next {c : Ca} {L : List Nd} {N : Nat} (hw : Well c L N) {P : List (List Int)} {r n i : Nat} (hi : i < L.length) (hp : (ndAt L i).path = P.take (r + 1)) (hr : r + 1 ≤ P.length) : setU (useL L (P.take r) n) i n = useL L (P.take (r + 1)) n := by
  have hl : i < (useL L (P.take r) n).length := by rw [useL_len]; exact hi
  refine ext_ndAt (by rw [setU_len, useL_len, useL_len]) (fun j hj => ?_)
  rw [setU_len, useL_len] at hj
  rw [setU_at hl]
  unfold useL
  rw [map_at hj, map_at hi, map_at hj]
  by_cases e : j = i
  · subst e
    rw [if_pos rfl]
    have hlen : (ndAt L j).path.length = r + 1 := by rw [hp, List.length_take]; omega
    have h1 : mkF (P.take (r + 1)) 0 n (ndAt L j) = { ndAt L j with used := n } := by
      unfold mkF
      rw [if_pos ⟨by rw [hlen, hp, List.take_take, Nat.min_self], by omega⟩]
    rw [h1]
    unfold mkF
    split <;> rfl
  · rw [if_neg e]
    have hne : (ndAt L j).path ≠ P.take (r + 1) := fun q => e (ndAt_inj hw.nodup hj hi (hw.dpath _ (ndAt_mem hj) _ (ndAt_mem hi) (q.trans hp.symm)))
    generalize ndAt L j = x at hne
    have hiff : (x.path = (P.take r).take x.path.length ∧ 0 < x.path.length) ↔ (x.path = (P.take (r + 1)).take x.path.length ∧ 0 < x.path.length) := by
      rw [List.take_take, List.take_take]
      by_cases h1 : x.path.length ≤ r
      · rw [Nat.min_eq_left h1, Nat.min_eq_left (by omega)]
      · refine ⟨fun ⟨q, _⟩ => ?_, fun ⟨q, _⟩ => ?_⟩
        · have := congrArg List.length q
          rw [List.length_take] at this
          omega
        · by_cases h2 : x.path.length = r + 1
          · rw [h2, Nat.min_self] at q
            exact absurd q hne
          · have := congrArg List.length q
            rw [List.length_take] at this
            omega
    unfold mkF
    by_cases q : x.path = (P.take r).take x.path.length ∧ 0 < x.path.length
    · rw [if_pos q, if_pos (hiff.1 q)]
    · rw [if_neg q, if_neg (fun z => q (hiff.2 z))]
theorem useL_nil (L : List Nd) (n : Nat) : useL L [] n = L := by
  unfold useL
  exact mkF_top (p := [])
/-- two that were used by one call: one begins the other -/
def Tie (L : List Nd) : Prop := ∀ x ∈ L, ∀ y ∈ L, x.used = y.used → x.path = y.path.take x.path.length ∨ y.path = x.path.take y.path.length
theorem Tie.nil : Tie [] := fun x hx => by cases hx
theorem Tie.del {L : List Nd} (h : Tie L) (x : Nd) : Tie (delL L x) := fun a ha b hb => h a (mem_del.1 ha).1 b (mem_del.1 hb).1
theorem two_begin {P a b : List (List Int)} (ha : a = P.take a.length) (hb : b = P.take b.length) : a = b.take a.length ∨ b = a.take b.length := by
  rcases Nat.le_total a.length b.length with h | h
  · refine .inl ?_
    rw [hb, List.take_take, Nat.min_eq_left h]; exact ha
  · refine .inr ?_
    rw [ha, List.take_take, Nat.min_eq_left h]; exact hb
/-- the news begin P too: all that is used by this call begins P -/
theorem Tie.use {L L' : List Nd} (h : Tie L) {N : Nat} (hu : ∀ x ∈ L, x.used ≤ N) {P : List (List Int)} (hL : ∀ y ∈ L', y ∈ L ∨ (y.path = P.take y.path.length ∧ 0 < y.path.length)) : Tie (useL L' P (N + 1)) := by
  have key : ∀ x ∈ useL L' P (N + 1), (x.used = N + 1 ∧ x.path = P.take x.path.length) ∨ (x.used ≤ N ∧ x ∈ L) := fun x hx => by
    unfold useL at hx
    obtain ⟨y, hy, rfl⟩ := List.mem_map.1 hx
    unfold mkF
    by_cases q : y.path = P.take y.path.length ∧ 0 < y.path.length
    · rw [if_pos q]; exact .inl ⟨rfl, q.1⟩
    · rw [if_neg q]
      rcases hL y hy with h1 | h1
      · exact .inr ⟨hu y h1, h1⟩
      · exact absurd h1 q
  intro x hx y hy e
  rcases key x hx with ⟨a1, a2⟩ | ⟨a1, a2⟩ <;> rcases key y hy with ⟨b1, b2⟩ | ⟨b1, b2⟩
  · exact two_begin a2 b2
  · omega
  · omega
  · exact h x a2 y b2 e
theorem Cut.same {S : Nat} {L : List Nd} (h : Cut S L) {f : Nd → Nd} (hf : Same f) : Cut S (L.map f) := fun x hx => by
  obtain ⟨y, hy, rfl⟩ := List.mem_map.1 hx
  obtain ⟨t, e⟩ := h y hy
  exact ⟨t, by rw [hf.path]; exact e⟩
theorem Cut.use {S : Nat} {L : List Nd} (h : Cut S L) (p : List (List Int)) (n : Nat) : Cut S (useL L p n) := h.same (mkF_same _ _ _)
theorem Cut.del {S : Nat} {L : List Nd} (h : Cut S L) (x : Nd) : Cut S (delL L x) := fun a ha => h a (mem_del.1 ha).1
theorem Cut.ext {S : Nat} {L L' news : List Nd} {t : Nat → Int} {g : Nat → Nat} {k j n : Nat} (h : Cut S L) (he : Ext L (pcL t S n) g k j L' news) (hj : k + j ≤ n) : Cut S L' := fun x hx => by
  rcases he.mem hx with h1 | ⟨i, hi, e, _⟩
  · exact h x h1
  · refine ⟨t, ?_⟩
    rw [e, pcL_take _ _ (by omega), pcL_len]
/-- somebody leans on it -/
theorem lg_pos {L : List Nd} {p : List (List Int)} : lg L p ≠ 0 ↔ ∃ y ∈ L, y.path.dropLast = p := by
  unfold lg
  rw [← Nat.pos_iff_ne_zero, List.length_pos_iff_exists_mem]
  constructor
  · rintro ⟨y, hy⟩
    obtain ⟨h1, h2⟩ := List.mem_filter.1 hy
    exact ⟨y, h1, of_decide_eq_true h2⟩
  · rintro ⟨y, h1, h2⟩
    exact ⟨y, List.mem_filter.2 ⟨h1, decide_eq_true h2⟩⟩
theorem leans_iff {c : Ca} {L : List Nd} {N : Nat} (hw : Well c L N) {x : Nd} (_hx : x ∈ L) : lg L x.path ≠ 0 ↔ ∃ y ∈ L, x.path.length < y.path.length ∧ y.path.take x.path.length = x.path := by
  rw [lg_pos]
  constructor
  · rintro ⟨y, hy, e⟩
    have h1 := hw.ne y hy
    have hl : y.path.length = x.path.length + 1 := by
      have := congrArg List.length e
      rw [List.length_dropLast] at this
      have : 0 < y.path.length := List.length_pos_iff.2 h1
      omega
    refine ⟨y, hy, by omega, ?_⟩
    rw [← e, List.dropLast_eq_take, hl]
    simp
  · rintro ⟨y, hy, h1, h2⟩
    obtain ⟨z, hz, e⟩ := hw.tops _ y hy rfl (x.path.length + 1) (by omega) (by omega)
    refine ⟨z, hz, ?_⟩
    rw [e, take_drop (by omega), h2]
/-- of those that may go no two were used by one call -/
theorem may_uniq {c : Ca} {L : List Nd} {N : Nat} (hw : Well c L N) (ht : Tie L) {cnt : Nat → Nat} {x y : Nd} (hx : x ∈ L) (hy : y ∈ L) (mx : May L cnt x) (my : May L cnt y) (e : x.used = y.used) : x = y := by
  have key : ∀ {x y : Nd}, x ∈ L → y ∈ L → lg L x.path = 0 → x.path = y.path.take x.path.length → x.path = y.path := fun {x y} hx hy h0 h1 => by
    by_cases q : x.path.length < y.path.length
    · exact absurd h0 ((leans_iff hw hx).2 ⟨y, hy, q, h1.symm⟩)
    · rw [h1, List.take_of_length_le (by omega)]
  rcases ht x hx y hy e with h1 | h1
  · exact hw.dpath x hx y hy (key hx hy mx.1 h1)
  · exact (hw.dpath y hy x hx (key hy hx my.1 h1)).symm
end Go.Proofs.Ytaalinlggjimcaa
namespace Go.Proofs.Ytaalinlggjimcaa
open Go.RowKit
/-! The reference's leans and next. -/
theorem tok_begin {S : Nat} {L : List Nd} (hc : Cut S L) (hS : 1 ≤ S ∧ S ≤ 16) {x y : Nd} (hx : x ∈ L) (hy : y ∈ L) (hlt : x.path.length < y.path.length) : (∀ j, j < x.path.length * S → tokF S y.path j = tokF S x.path j) ↔ y.path.take x.path.length = x.path := by
  obtain ⟨t, e⟩ := hc y hy
  have h1 : y.path.take x.path.length = pcL t S x.path.length := by
    conv => lhs; rw [e]
    exact pcL_take _ _ (by omega)
  have h2 : ∀ j, j < x.path.length * S → tokF S y.path j = t j := fun j hj => by
    rw [e]
    exact tokF_pcL hS (Nat.lt_of_lt_of_le hj (Nat.mul_le_mul_right S (by omega)))
  rw [h1]
  have h3 := hc.eq hS hx t x.path.length
  constructor
  · intro h
    exact (h3.1 ⟨rfl, fun j hj => by rw [← h j hj, h2 j hj]⟩).symm
  · intro h j hj
    rw [h2 j hj, (h3.2 h.symm).2 j hj]
theorem RdA.part {w : World} {ao : Option Addr} {sz n m cap : Nat} {cs : Nat → Value} (h : RdA w ao sz n cap cs) (hm : m ≤ n) : RdA w ao sz m cap cs :=
  ⟨by have := h.le; omega, h.top, fun h0 => by
    obtain ⟨b, off, rfl, hc⟩ := h.at_ (by omega)
    exact ⟨b, off, rfl, fun j hj => hc j (Nat.lt_of_lt_of_le hj (Nat.mul_le_mul_right sz hm))⟩⟩
set_option maxRecDepth 20000 in
set_option maxHeartbeats 1600000 in
theorem leans_any {w : World} {base D pg : Nat} {v : Value} {L : List Nd} {S N N' : Nat} {Ta : Nat → Option Addr} {Tc : Nat → Nat} {c : Ca} (h : RcAt w base D pg v L S N Ta Tc) (hc : Cut S L) (hw : Well c L N') (hS : 1 ≤ S ∧ S ≤ 16) {i : Nat} (hi : i < L.length) :
    Calls Try.prog 77 #[.pointer (some ⟨D, 0, none⟩), .int .i64 (i : Int)] w fun e w' => (∃ r : Bool, e = .returned (.bool r) ∧ (r = true ↔ lg L (ndAt L i).path ≠ 0)) ∧ Below w.heap.size w w' := by
  obtain ⟨vo, vc, _, c1, hLl, hcs⟩ := h.list
  obtain ⟨b, off, rfl, hcc⟩ := hcs (by omega)
  have di := (hcc i hi).1
  obtain ⟨ai, aic, eai, hri⟩ := (h.tok i hi).rd
  injection eai with e1 _ e2
  rw [← e1, ← e2] at hri
  clear e1 e2
  have hne : 0 < (ndAt L i).path.length := List.length_pos_iff.2 (hw.ne _ (ndAt_mem hi))
  obtain ⟨n, hn⟩ : ∃ n, n = (ndAt L i).path.length * S := ⟨_, rfl⟩
  have hn0 : 0 < n := by rw [hn]; exact Nat.mul_pos hne (by omega)
  rw [← hn] at di hri
  have HN := hidd hn
  have HI := hidd hri
  have HH := hidd (And.intro h (And.intro hc hw))
  have hnl : n ≤ 9223372036854775807 := by have := hri.le; have := hri.top; unfold maxLen at this; omega
  have i0 : (0 : Int) ≤ (i : Int) := by omega
  have i1 : (i : Int) < (L.length : Int) := by omega
  have HCC := hidd hcc
  clear h hc hw hri hn hne hcs hcc
  go_enter Try.func77, Try.ntmps77
  go_wp2
  go_loopw [6] (fun vk wr => ∃ k : Nat, k ≤ L.length ∧ vk = .int .i64 (k : Int) ∧ Hid (∀ j, j < k → ¬ ((ndAt L i).path.length < (ndAt L j).path.length ∧ (ndAt L j).path.take (ndAt L i).path.length = (ndAt L i).path)) ∧ Below w.heap.size w wr) (fun vk _ => L.length - (intOf vk).toNat)
  case atStart => exact ⟨0, by omega, rfl, fun j hj => absurd hj (by omega), Below.refl _ _⟩
  case round =>
    obtain ⟨k, hk, rfl, HB, hf⟩ := hrel
    have d1 := fresh_cell hf c1
    by_cases hlt : k < L.length
    · have dk := fresh_cell hf (HCC.out k hlt).1
      have di1 := fresh_cell hf di
      have hown := HH.out.1.tok k hlt
      have k0 : (0 : Int) ≤ (k : Int) := by omega
      have k1 : (k : Int) < (L.length : Int) := by omega
      by_cases hg : (ndAt L i).path.length < (ndAt L k).path.length
      · rcases hown.list with ⟨_, e2⟩ | ⟨g, cap, ev, _, hrk⟩
        · exfalso
          rcases Nat.mul_eq_zero.1 e2 <;> omega
        · injection ev with a1 _ a2
          rw [a1, a2] at dk
          have hnp : n ≤ (ndAt L k).path.length * S := by rw [HN.out]; exact Nat.mul_le_mul_right S (by omega)
          have hnp2 : n < (ndAt L k).path.length * S := by rw [HN.out]; exact Nat.mul_lt_mul_of_pos_right hg (by omega)
          have HQ : ∀ r : Bool, (r = true ↔ (ndAt L k).path.take (ndAt L i).path.length = (ndAt L i).path) → Hid (∀ z : Later wr, Calls Try.prog 29 #[.slice (some ⟨g, 0, none⟩) n cap, .slice (Ta i) n (Tc i)] z.val fun e w' => e = .returned (.bool r) ∧ Below z.val.heap.size z.val w') := fun r hr0 z => by
            have f2 := hf.trans (z.fresh.mono hf.size)
            refine (eqInts_any ((hrk.part hnp).fresh f2) (HI.out.fresh f2)).mono ?_
            rintro e w' ⟨⟨r', rfl, hr⟩, hf'⟩
            refine ⟨?_, hf'⟩
            have := tok_begin HH.out.2.1 hS (ndAt_mem hi) (ndAt_mem hlt) hg
            rw [← HN.out, ← hr0] at this
            have h5 : (r' = true ↔ r = true) := hr.trans ⟨fun q => this.1 q.2, fun q => ⟨rfl, this.2 q⟩⟩
            cases r <;> cases r' <;> first | rfl | exact absurd (h5.1 rfl) (by decide) | exact absurd (h5.2 rfl) (by decide)
          have hcap : n ≤ cap := by have := hrk.le; omega
          have hcap2 : cap ≤ 9223372036854775807 := by have := hrk.top; unfold maxLen at this; omega
          have HG := hidd hg
          generalize (ndAt L k).path.length * S = pl at dk hnp2
          have hd : decide ((n : Int) < (pl : Int)) = true := by simp; omega
          have n0 : (0 : Int) ≤ (n : Int) := by omega
          have n1 : (n : Int) ≤ (cap : Int) := by omega
          clear hown hrk a1 a2 hg hnp hk
          have l1 := later_cell d1; have lk := later_cell dk; have li := later_cell di1
          have ne := later_some wr
          by_cases hp : (ndAt L k).path.take (ndAt L i).path.length = (ndAt L i).path
          · have HQ1 := HQ true ⟨fun _ => hp, fun _ => rfl⟩
            have HP := hidd hp
            clear HQ hp
            go_wp2
            refine wp_region_later (by kernel_rfl) (by kernel_rfl) ?_
            repeat (go_big_quiet_step (fail))
            go_big_quiet_step (exact later_of (HQ1.out _))
            repeat (go_big_quiet_step (fail))
            refine wpQuiet_nil ?_
            rintro _ ⟨z, rfl⟩
            have hz := z.fresh
            go_wp2
            go_ret
            exact ⟨⟨true, rfl, ⟨fun _ => (leans_iff HH.out.2.2 (ndAt_mem hi)).2 ⟨_, ndAt_mem hlt, HG.out, HP.out⟩, fun _ => rfl⟩⟩, fresh_trans hf hz⟩
          · have HQ1 := HQ false ⟨fun e => (by cases e), fun e => absurd e hp⟩
            have HP := hidd hp
            clear HQ hp
            go_wp2
            refine wp_region_later (by kernel_rfl) (by kernel_rfl) ?_
            repeat (go_big_quiet_step (fail))
            go_big_quiet_step (exact later_of (HQ1.out _))
            repeat (go_big_quiet_step (fail))
            refine wpQuiet_nil ?_
            rintro _ ⟨z, rfl⟩
            have hz := z.fresh
            go_wp2
            go_roundw
            case rel => exact ⟨k + 1, by omega, by go_num, fun j hj => (by
              by_cases e : j = k
              · rw [e]; exact fun q => HP.out q.2
              · exact HB.out j (by omega)), fresh_trans hf hz⟩
            case measure => simp [intOf]; omega
      · have hnp2 : ¬ n < (ndAt L k).path.length * S := by
          rw [HN.out]
          exact Nat.not_lt.2 (Nat.mul_le_mul_right S (by omega))
        have HG := hidd hg
        generalize (ndAt L k).path.length * S = pl at dk hnp2
        have hd : decide ((n : Int) < (pl : Int)) = false := by simp; omega
        clear hown hg hk
        go_wp2
        go_quiet (fail)
        go_wp2
        go_roundw
        case rel => exact ⟨k + 1, by omega, by go_num, fun j hj => (by
          by_cases e : j = k
          · rw [e]; exact fun q => HG.out q.1
          · exact HB.out j (by omega)), below_drewN hf _⟩
        case measure => simp [intOf]; omega
    · obtain rfl : k = L.length := by omega
      go_wp2
      go_ret
      refine ⟨⟨false, rfl, ⟨fun q => (by cases q), fun q => ?_⟩⟩, hf⟩
      obtain ⟨y, hy, h1, h2⟩ := (leans_iff HH.out.2.2 (ndAt_mem hi)).1 q
      obtain ⟨j, hj, rfl⟩ := mem_ndAt hy
      exact absurd ⟨h1, h2⟩ (HB.out j hj)
/-- which goes next, of the first i -/
def NextTo (L : List Nd) (cnt : Nat → Nat) (i : Nat) (k : Int) : Prop := (k = -1 ∧ ∀ j, j < i → ¬ May L cnt (ndAt L j)) ∨ ∃ m : Nat, k = (m : Int) ∧ m < i ∧ May L cnt (ndAt L m) ∧ ∀ j, j < i → May L cnt (ndAt L j) → (ndAt L m).used ≤ (ndAt L j).used
theorem NextTo.skip {L : List Nd} {cnt : Nat → Nat} {i : Nat} {k : Int} (h : NextTo L cnt i k) (hno : ¬ May L cnt (ndAt L i)) : NextTo L cnt (i + 1) k := by
  rcases h with ⟨h1, h2⟩ | ⟨m, h1, h2, h3, h4⟩
  · refine .inl ⟨h1, fun j hj => ?_⟩
    by_cases e : j = i
    · rw [e]; exact hno
    · exact h2 j (by omega)
  · refine .inr ⟨m, h1, by omega, h3, fun j hj hm => ?_⟩
    by_cases e : j = i
    · rw [e] at hm; exact absurd hm hno
    · exact h4 j (by omega) hm
theorem NextTo.take {L : List Nd} {cnt : Nat → Nat} {i : Nat} {k : Int} (h : NextTo L cnt i k) (hm : May L cnt (ndAt L i)) (hl : k = -1 ∨ ∀ m : Nat, k = (m : Int) → (ndAt L i).used ≤ (ndAt L m).used) : NextTo L cnt (i + 1) (i : Int) := by
  refine .inr ⟨i, rfl, by omega, hm, fun j hj hj2 => ?_⟩
  by_cases e : j = i
  · rw [e]; exact Nat.le_refl _
  · rcases h with ⟨h1, h2⟩ | ⟨m, h1, h2, h3, h4⟩
    · exact absurd hj2 (h2 j (by omega))
    · rcases hl with hl | hl
      · omega
      · exact Nat.le_trans (hl m h1) (h4 j (by omega) hj2)
theorem NextTo.stay {L : List Nd} {cnt : Nat → Nat} {i m : Nat} (h : NextTo L cnt i (m : Int)) (hl : (ndAt L m).used ≤ (ndAt L i).used) : NextTo L cnt (i + 1) (m : Int) := by
  rcases h with ⟨h1, h2⟩ | ⟨m', h1, h2, h3, h4⟩
  · omega
  · obtain rfl : m = m' := by omega
    refine .inr ⟨m, rfl, by omega, h3, fun j hj hj2 => ?_⟩
    by_cases e : j = i
    · rw [e]; exact hl
    · exact h4 j (by omega) hj2
end Go.Proofs.Ytaalinlggjimcaa
namespace Go.Proofs.Ytaalinlggjimcaa
open Go.RowKit
/-! The reference's next. -/
set_option maxRecDepth 20000 in
set_option maxHeartbeats 6400000 in
theorem next_any {w : World} {base D : Nat} {v : Value} {L : List Nd} {S N N' : Nat} {Ta : Nat → Option Addr} {Tc : Nat → Nat} {c : Ca} {x : Rx} {y : Ry} (h : RcAt w base D x.g v L S N Ta Tc) (hp : RefAt w x y) (hc : Cut S L) (hw : Well c L N') (hS : 1 ≤ S ∧ S ≤ 16) (hB : c.B = x.B) :
    Calls Try.prog 72 #[.pointer (some ⟨D, 0, none⟩)] w fun e w' => (∃ k : Int, e = .returned (.int .i64 k) ∧ NextTo L y.cnt L.length k) ∧ Below w.heap.size w w' := by
  obtain ⟨vo, vc, _, c1, hLl, hcs⟩ := h.list
  have c0 : w.cell? ⟨D, 0, none⟩ = some (.pointer (some ⟨x.g, 0, none⟩)) := h.row.cell (i := 0) (by decide)
  have HH := hidd (And.intro h (And.intro hp (And.intro hc hw)))
  have HCS := hidd hcs
  clear h hp hc hw hcs
  go_enter Try.func72, Try.ntmps72
  go_wp2
  go_loopw [3, 4, 5] (fun vb vi _ wr => ∃ (i : Nat) (kb : Int), i ≤ L.length ∧ vi = .int .i64 (i : Int) ∧ vb = .int .i64 kb ∧ Hid (NextTo L y.cnt i kb) ∧ Below w.heap.size w wr) (fun _ vi _ _ => L.length - (intOf vi).toNat)
  case atStart => exact ⟨0, -1, by omega, rfl, rfl, .inl ⟨rfl, fun j hj => absurd hj (by omega)⟩, Below.refl _ _⟩
  case round =>
    obtain ⟨i, kb, hi, rfl, rfl, HN, hf⟩ := hrel
    have d0 := fresh_cell hf c0
    have d1 := fresh_cell hf c1
    by_cases hlt : i < L.length
    · obtain ⟨b, off, rfl, hcc⟩ := HCS.out (by omega)
      have db := fresh_cell hf (hcc i hlt).2.1
      have du := fresh_cell hf (hcc i hlt).2.2
      have i0 : (0 : Int) ≤ (i : Int) := by omega
      have i1 : (i : Int) < (L.length : Int) := by omega
      obtain ⟨q, HQ⟩ : ∃ q, Hid (q = y.cnt (ndAt L i).blk) := ⟨_, rfl⟩
      have HCN : Hid (∀ z : Later wr, Calls Try.prog 58 #[.pointer (some ⟨x.g, 0, none⟩), .int .i64 ((ndAt L i).blk : Int)] z.val fun e w' => e = .returned (.int .i64 (q : Nat)) ∧ w' = z.val) := fun z => by
        have := rcount_any (HH.out.2.1.fresh (hf.trans (z.fresh.mono hf.size))) ((ndAt L i).blk : Int)
        rw [cntI_nat y.cnt (show (ndAt L i).blk < x.B by rw [← hB]; exact HH.out.2.2.2.blk _ (ndAt_mem hlt)), ← HQ.out] at this
        exact this
      have HLN : ∀ r : Bool, (r = true ↔ lg L (ndAt L i).path ≠ 0) → Hid (∀ z : Later wr, Calls Try.prog 77 #[.pointer (some ⟨D, 0, none⟩), .int .i64 (i : Int)] z.val fun e w' => e = .returned (.bool r) ∧ Below z.val.heap.size z.val w') := fun r hr0 z => by
        refine (leans_any (HH.out.1.fresh (hf.trans (z.fresh.mono hf.size))) HH.out.2.2.1 HH.out.2.2.2 hS hlt).mono ?_
        rintro e w' ⟨⟨r', rfl, hr⟩, hf'⟩
        refine ⟨?_, hf'⟩
        have h5 : (r' = true ↔ r = true) := hr.trans hr0.symm
        cases r <;> cases r' <;> first | rfl | exact absurd (h5.1 rfl) (by decide) | exact absurd (h5.2 rfl) (by decide)
      obtain ⟨bk, HBK⟩ : ∃ bk, Hid (bk = (ndAt L i).blk) := ⟨_, rfl⟩
      rw [← HBK.out] at db HCN
      obtain ⟨ui, HUI⟩ : ∃ ui, Hid (ui = (ndAt L i).used) := ⟨_, rfl⟩
      rw [← HUI.out] at du
      have l0 := later_cell d0; have l1 := later_cell d1; have lb := later_cell db; have lu := later_cell du
      have ne := later_some wr
      by_cases hq : q = 1
      · subst hq
        by_cases hg : lg L (ndAt L i).path = 0
        · have HL1 := HLN false ⟨fun e => (by cases e), fun e => absurd hg e⟩
          have HM : Hid (May L y.cnt (ndAt L i)) := ⟨hg, HQ.out.symm⟩
          clear HLN hg HQ
          have hcas : kb = -1 ∨ ∃ m : Nat, kb = (m : Int) ∧ m < i := by
            rcases HN.out with ⟨e, _⟩ | ⟨m, e, hm, _⟩
            · exact .inl e
            · exact .inr ⟨m, e, hm⟩
          rcases hcas with rfl | ⟨m, rfl, hm⟩
          · clear hcc
            go_wp2
            refine wp_region_later (by kernel_rfl) (by kernel_rfl) ?_
            repeat (go_big_quiet_step (fail))
            go_big_quiet_step (exact later_same (HCN.out _))
            repeat (go_big_quiet_step (fail))
            go_big_quiet_step (exact later_of (HL1.out _))
            repeat (go_big_quiet_step (fail))
            refine wpQuiet_nil ?_
            rintro _ ⟨z, rfl⟩
            have hz := z.fresh
            have d1z := l1 z
            have duz := lu z
            clear d0 d1 db du l0 l1 lb lu
            go_wp2
            go_quiet (fail)
            go_wp2
            go_roundw
            case rel => exact ⟨i + 1, _, by omega, by go_num, rfl, HN.out.take HM.out (.inl rfl), below_drewN (fresh_trans hf hz) _⟩
            case measure => simp [intOf]; omega
          · have dm := fresh_cell hf (hcc m (by omega)).2.2
            obtain ⟨um, HUM⟩ : ∃ um, Hid (um = (ndAt L m).used) := ⟨_, rfl⟩
            rw [← HUM.out] at dm
            have lm := later_cell dm
            have m0 : (0 : Int) ≤ (m : Int) := by omega
            have m1 : (m : Int) < (L.length : Int) := by omega
            have hmd : decide ((m : Int) < 0) = false := by simp
            clear hcc
            by_cases hu : ui < um
            · have hud : decide ((ui : Int) < (um : Int)) = true := by simp; omega
              go_wp2
              refine wp_region_later (by kernel_rfl) (by kernel_rfl) ?_
              repeat (go_big_quiet_step (fail))
              go_big_quiet_step (exact later_same (HCN.out _))
              repeat (go_big_quiet_step (fail))
              go_big_quiet_step (exact later_of (HL1.out _))
              repeat (go_big_quiet_step (fail))
              refine wpQuiet_nil ?_
              rintro _ ⟨z, rfl⟩
              have hz := z.fresh
              have d1z := l1 z
              have duz := lu z
              have dmz := lm z
              clear d0 d1 db du dm l0 l1 lb lu lm
              go_wp2
              go_quiet (fail)
              go_wp2
              go_roundw
              case rel => exact ⟨i + 1, _, by omega, by go_num, rfl, HN.out.take HM.out (.inr fun m' e => (by
                have : m = m' := by omega
                subst this
                rw [← HUI.out, ← HUM.out]; omega)), below_drewN (fresh_trans hf hz) _⟩
              case measure => simp [intOf]; omega
            · have hud : decide ((ui : Int) < (um : Int)) = false := by simp; omega
              go_wp2
              refine wp_region_later (by kernel_rfl) (by kernel_rfl) ?_
              repeat (go_big_quiet_step (fail))
              go_big_quiet_step (exact later_same (HCN.out _))
              repeat (go_big_quiet_step (fail))
              go_big_quiet_step (exact later_of (HL1.out _))
              repeat (go_big_quiet_step (fail))
              refine wpQuiet_nil ?_
              rintro _ ⟨z, rfl⟩
              have hz := z.fresh
              have d1z := l1 z
              have duz := lu z
              have dmz := lm z
              clear d0 d1 db du dm l0 l1 lb lu lm
              go_wp2
              go_quiet (fail)
              go_wp2
              go_roundw
              case rel => exact ⟨i + 1, _, by omega, by go_num, rfl, HN.out.stay (by rw [← HUI.out, ← HUM.out]; omega), below_drewN (fresh_trans hf hz) _⟩
              case measure => simp [intOf]; omega
        · have HL1 := HLN true ⟨fun _ => hg, fun _ => rfl⟩
          have HM : Hid (¬ May L y.cnt (ndAt L i)) := fun e => hg e.1
          clear HLN hg HQ hcc
          go_wp2
          refine wp_region_later (by kernel_rfl) (by kernel_rfl) ?_
          repeat (go_big_quiet_step (fail))
          go_big_quiet_step (exact later_same (HCN.out _))
          repeat (go_big_quiet_step (fail))
          go_big_quiet_step (exact later_of (HL1.out _))
          repeat (go_big_quiet_step (fail))
          refine wpQuiet_nil ?_
          rintro _ ⟨z, rfl⟩
          have hz := z.fresh
          clear d0 d1 db du l0 l1 lb lu
          go_wp2
          go_quiet (fail)
          go_wp2
          go_roundw
          case rel => exact ⟨i + 1, _, by omega, by go_num, rfl, HN.out.skip HM.out, below_drewN (fresh_trans hf hz) _⟩
          case measure => simp [intOf]; omega
      · have hqb : ((q : Int) == 1) = false := by simp; omega
        have HM : Hid (¬ May L y.cnt (ndAt L i)) := fun e => hq (by rw [HQ.out]; exact e.2)
        clear HLN hcc
        go_wp2
        refine wp_region_later (by kernel_rfl) (by kernel_rfl) ?_
        repeat (go_big_quiet_step (fail))
        go_big_quiet_step (exact later_same (HCN.out _))
        repeat (go_big_quiet_step (fail))
        refine wpQuiet_nil ?_
        rintro _ ⟨z, rfl⟩
        have hz := z.fresh
        clear d0 d1 db du l0 l1 lb lu
        go_wp2
        go_quiet (fail)
        go_wp2
        go_roundw
        case rel => exact ⟨i + 1, _, by omega, by go_num, rfl, HN.out.skip HM.out, below_drewN (fresh_trans hf hz) _⟩
        case measure => simp [intOf]; omega
    · obtain rfl : i = L.length := by omega
      go_wp2
      go_ret
      exact ⟨⟨kb, rfl, HN.out⟩, hf⟩
end Go.Proofs.Ytaalinlggjimcaa
namespace Go.Proofs.Ytaalinlggjimcaa
open Go.RowKit
/-! The reference's cache with its own blocks; Find. -/
theorem Own.apart {w : World} {base b m sz : Nat} {e u : TypeId} {v : Value} {n : Nat} {cs G : Nat → Value} (h : Own w base e sz v n cs) (k : w.rowIs b u m G) (hne : e ≠ u) : v.ownBlock ≠ some b := fun hb => by
  rcases h.2 with ⟨rfl, rfl⟩ | ⟨g, cap, cur, rfl, _, hg, _⟩
  · simp [Value.ownBlock] at hb
  · obtain rfl : g = b := by simpa [Value.ownBlock] using hb
    obtain ⟨d, hd, _, _⟩ := k
    rw [hg] at hd
    cases hd
    exact hne rfl
theorem Own.offT {w : World} {b1 b2 s1 s2 n1 n2 : Nat} {e1 e2 : TypeId} {v u : Value} {c1 c2 : Nat → Value} (h : Own w b1 e1 s1 v n1 c1) (k : Own w b2 e2 s2 u n2 c2) (hne : e1 ≠ e2) : Off v u := fun x hx hy => by
  rcases h.2 with ⟨rfl, rfl⟩ | ⟨g, cap, cur, rfl, _, hg, _⟩
  · simp [Value.ownBlock] at hx
  · rcases k.2 with ⟨rfl, rfl⟩ | ⟨g', cap', cur', rfl, _, hg', _⟩
    · simp [Value.ownBlock] at hy
    · obtain rfl : g = x := by simpa [Value.ownBlock] using hx
      obtain rfl : g' = g := by simpa [Value.ownBlock] using hy
      rw [hg] at hg'
      cases hg'
      exact hne rfl
theorem RdA.chg {w w' : World} {T : Nat → Prop} (c : Chg w w' T) {ao : Option Addr} {sz n cap : Nat} {cs : Nat → Value} (h : RdA w ao sz n cap cs) (hne : ∀ b off, ao = some ⟨b, off, none⟩ → ¬ T b) : RdA w' ao sz n cap cs := by
  refine ⟨h.le, h.top, fun hn => ?_⟩
  obtain ⟨b, off, rfl, hc⟩ := h.at_ hn
  exact ⟨b, off, rfl, fun j hj => c.cell (hc j hj) (hne b off rfl)⟩
theorem RdA.chg0 {w w' : World} {T : Nat → Prop} (c : Chg w w' T) {ao : Option Addr} {sz n cap : Nat} {cs : Nat → Value} (h : RdA w ao sz n cap cs) (hne : 0 < n → ∀ b off, ao = some ⟨b, off, none⟩ → ¬ T b) : RdA w' ao sz n cap cs := by
  refine ⟨h.le, h.top, fun hn => ?_⟩
  obtain ⟨b, off, rfl, hc⟩ := h.at_ hn
  exact ⟨b, off, rfl, fun j hj => c.cell (hc j hj) (hne hn b off rfl)⟩
structure RcF (w : World) (R : Nat → Prop) (D pg : Nat) (v : Value) (L : List Nd) (S N : Nat) (Ta : Nat → Option Addr) (Tc : Nat → Nat) : Prop where
  at_ : RcAt w 0 D pg v L S N Ta Tc
  rD : R D
  rV : ∀ z, v.ownBlock = some z → R z
  rT : ∀ i, i < L.length → ∀ z, (Value.slice (Ta i) ((ndAt L i).path.length * S) (Tc i)).ownBlock = some z → R z
  low : ∀ z, R z → z < w.heap.size
section
variable {w w' : World} {R : Nat → Prop} {D pg : Nat} {v : Value} {L : List Nd} {S N : Nat} {Ta : Nat → Option Addr} {Tc : Nat → Nat}
theorem RcF.chg (h : RcF w R D pg v L S N Ta Tc) {T : Nat → Prop} (k : Chg w w' T) (hT : ∀ z, R z → ¬ T z) : RcF w' R D pg v L S N Ta Tc :=
  ⟨⟨k.row h.at_.row (hT _ h.rD), h.at_.own.chg k (fun z hz => hT z (h.rV z hz)), fun i hi => (h.at_.tok i hi).chg k (fun z hz => hT z (h.rT i hi z hz))⟩, h.rD, h.rV, h.rT, fun z hz => Nat.lt_of_lt_of_le (h.low z hz) k.size⟩
theorem RcF.fresh (h : RcF w R D pg v L S N Ta Tc) (f : Below w.heap.size w w') : RcF w' R D pg v L S N Ta Tc := h.chg (Chg.of_below (fun _ => False) f) (fun _ _ => id)
theorem RcAt.tick (h : RcAt w 0 D pg v L S N Ta Tc) (n : Nat) : RcAt (w.setCell ⟨D, 2, none⟩ (.int .i64 n)) 0 D pg v L S n Ta Tc := by
  have k := Chg.of_set w D 2 (.int .i64 n)
  refine ⟨?_, h.own.chg k (fun z hz e => h.own.apart h.row (by decide) (by rw [← e]; exact hz)), fun i hi => (h.tok i hi).chg k (fun z hz e => (h.tok i hi).apart h.row (by decide) (by rw [← e]; exact hz))⟩
  refine (h.row.set 2 (.int .i64 n)).congr (fun j hj => ?_)
  unfold rc3
  by_cases e : j = 2
  · subst e; rfl
  · rw [if_neg e]
    by_cases e0 : j = 0
    · rw [if_pos e0, if_pos e0]
    · rw [if_neg e0, if_neg e0, if_pos (by omega), if_pos (by omega)]
theorem RcAt.list0 (h : RcAt w 0 D pg v L S N Ta Tc) (h0 : 0 < L.length) : ∃ g cap, v = .slice (some ⟨g, 0, none⟩) L.length cap ∧ L.length ≤ cap ∧ cap ≤ 9223372036854775807 ∧ g ≠ D ∧ w.cell? ⟨D, 1, none⟩ = some (.slice (some ⟨g, 0, none⟩) L.length cap) ∧ (∀ j, w.frozen? ⟨g, j, none⟩ = false) ∧ ∀ i, i < L.length → w.cell? ⟨g, i * 3, none⟩ = some (.slice (Ta i) ((ndAt L i).path.length * S) (Tc i)) ∧ w.cell? ⟨g, i * 3 + 1, none⟩ = some (.int .i64 (ndAt L i).blk) ∧ w.cell? ⟨g, i * 3 + 2, none⟩ = some (.int .i64 (ndAt L i).used) := by
  obtain ⟨vo, vc, ev, c1, _, hcs⟩ := h.list
  have hap := h.own.apart h.row (by decide)
  rcases h.own.2 with ⟨_, e⟩ | ⟨g, cap, cur, e, _, hg, hnc, hcm, hcs2, _⟩
  · omega
  · rw [ev] at e
    injection e with e1 e2 e3
    subst e1 e3
    refine ⟨g, vc, ev, hnc, by unfold maxLen at hcm; omega, fun q => hap (by rw [ev, ← q]; rfl), c1, fun j => ?_, fun i hi => ?_⟩
    · simp [World.frozen?, hg]
    · obtain ⟨b, off, e4, hcc⟩ := hcs h0
      injection e4 with e4
      injection e4 with e5 e6
      subst e5 e6
      have := hcc i hi
      simpa using this
end
/-- the reference's pool lies off some blocks -/
structure Offs (R : Nat → Prop) (x : Rx) (y : Ry) : Prop where
  g : ¬ R x.g
  cb : ¬ R x.cb
  kb : ¬ R x.kb
  vb : ¬ R x.vb
  ka : ∀ i, i < x.n → ¬ R (y.ka i)
  va : ∀ i, i < x.n → ¬ R (y.va i)
theorem RefAt.off {w w' : World} {x : Rx} {y : Ry} (h : RefAt w x y) {R : Nat → Prop} (o : Offs R x y) (k : Chg w w' R) : RefAt w' x y := h.chg k o.g o.cb o.kb o.vb o.ka o.va
/-- the block of a text's j-th known beginning -/
def bkF (L : List Nd) (P : List (List Int)) (j : Nat) : Nat := ((L.find? (fun x => decide (x.path = P.take (j + 1)))).getD nd0).blk
theorem bkF_eq {c : Ca} {L : List Nd} {N : Nat} (hw : Well c L N) {P : List (List Int)} {j : Nat} {x : Nd} (hx : x ∈ L) (e : x.path = P.take (j + 1)) : bkF L P j = x.blk := by
  unfold bkF
  cases hq : L.find? (fun x => decide (x.path = P.take (j + 1))) with
  | none => exact absurd (decide_eq_true e) (by simpa using List.find?_eq_none.1 hq x hx)
  | some y =>
    have h1 := List.mem_of_find?_eq_some hq
    have h2 : y.path = P.take (j + 1) := by have := List.find?_some hq; simpa using this
    rw [hw.dpath y h1 x hx (h2.trans e.symm)]
    rfl
theorem Long.at {c : Ca} {L : List Nd} {N : Nat} (hw : Well c L N) {P : List (List Int)} {k b o : Nat} (h : Long c.C L P k b o) {r : Nat} (hr : r < k) : ∃ x ∈ L, x.path = P.take (r + 1) := by
  rcases h.adr with ⟨e, _⟩ | ⟨x, hx, e, _⟩
  · have := congrArg List.length e
    rw [List.length_take, Nat.min_eq_left h.le] at this
    simp at this
    omega
  · have hl : x.path.length = k := by rw [e, List.length_take, Nat.min_eq_left h.le]
    obtain ⟨y, hy, e2⟩ := hw.tops k x hx hl (r + 1) (by omega) (by omega)
    refine ⟨y, hy, ?_⟩
    rw [e2, e, List.take_take, Nat.min_eq_left (by omega)]
end Go.Proofs.Ytaalinlggjimcaa
namespace Go.Proofs.Ytaalinlggjimcaa
open Go.RowKit
/-! The reference's Find. -/
theorem useL_mem {L : List Nd} {p : List (List Int)} {n : Nat} {x : Nd} (hx : x ∈ useL L p n) : ∃ y ∈ L, x.path = y.path ∧ x.blk = y.blk := by
  unfold useL at hx
  obtain ⟨y, hy, rfl⟩ := List.mem_map.1 hx
  exact ⟨y, hy, (mkF_same _ _ _).path y, (mkF_same _ _ _).blk y⟩
theorem useL_at {L : List Nd} {p : List (List Int)} {n i : Nat} (hi : i < L.length) : (ndAt (useL L p n) i).path = (ndAt L i).path ∧ (ndAt (useL L p n) i).blk = (ndAt L i).blk := by
  unfold useL
  rw [map_at hi]
  exact ⟨(mkF_same _ _ _).path _, (mkF_same _ _ _).blk _⟩
theorem RcF.use {w : World} {R : Nat → Prop} {D pg g cap : Nat} {L : List Nd} {S N : Nat} {Ta : Nat → Option Addr} {Tc : Nat → Nat} (h : RcF w R D pg (.slice (some ⟨g, 0, none⟩) L.length cap) L S N Ta Tc) {i : Nat} (hi : i < L.length) (n : Nat) : RcF (w.setCell ⟨g, i * 3 + 2, none⟩ (.int .i64 n)) R D pg (.slice (some ⟨g, 0, none⟩) L.length cap) (setU L i n) S N Ta Tc := by
  have k := Chg.of_set w g (i * 3 + 2) (.int .i64 n)
  refine ⟨h.at_.use (fun e => h.at_.own.apart h.at_.row (by decide) (by rw [e]; rfl)) (fun j hj z hz e => (h.at_.tok j hj).offT h.at_.own (by decide) z hz (by rw [e]; rfl)) hi n, h.rD, h.rV, fun j hj z hz => ?_, fun z hz => Nat.lt_of_lt_of_le (h.low z hz) k.size⟩
  rw [setU_len] at hj
  refine h.rT j hj z ?_
  have hp : (ndAt (setU L i n) j).path = (ndAt L j).path := by
    rw [setU_at hi]
    split
    · rename_i e; rw [e]
    · rfl
  rw [hp] at hz
  exact hz
theorem RcF.useN {w : World} {R : Nat → Prop} {D pg g cap n0 : Nat} {L : List Nd} {S N : Nat} {Ta : Nat → Option Addr} {Tc : Nat → Nat} (h : RcF w R D pg (.slice (some ⟨g, 0, none⟩) n0 cap) L S N Ta Tc) (e : n0 = L.length) {i : Nat} (hi : i < L.length) (n : Nat) : RcF (w.setCell ⟨g, i * 3 + 2, none⟩ (.int .i64 n)) R D pg (.slice (some ⟨g, 0, none⟩) n0 cap) (setU L i n) S N Ta Tc := by
  subst e
  exact h.use hi n
set_option maxRecDepth 20000 in
set_option maxHeartbeats 3200000 in
theorem rfind_any {w : World} {R : Nat → Prop} {D : Nat} {v : Value} {L : List Nd} {N N' : Nat} {Ta : Nat → Option Addr} {Tc : Nat → Nat} {c : Ca} {x : Rx} {y : Ry} (h : RcF w R D x.g v L x.S N Ta Tc) (hp : RefAt w x y) (ho : Offs R x y) (hc : Cut x.S L) (hw : Well c L N') (hN : N ≤ 4611686018427387904)
    {tO : Option Addr} {T cap : Nat} {t : Nat → Int} (ht : RdA w tO 1 T cap (fun j => .int .i64 (t j))) (hto : 0 < T → ∀ b off, tO = some ⟨b, off, none⟩ → ¬ R b) {k bb oo : Nat} (hl : Long c.C L (pcL t x.S (T / x.S)) k bb oo) :
    Calls Try.prog 32 #[.pointer (some ⟨D, 0, none⟩), .slice tO T cap] w fun e w' => ∃ vl, e = .returned vl ∧ Own w' w.heap.size 3 1 vl k (fun j => .int .i64 (bkF L (pcL t x.S (T / x.S)) j : Nat)) ∧ RcF w' R D x.g v (useL L ((pcL t x.S (T / x.S)).take k) (N + 1)) x.S (N + 1) Ta Tc ∧ Chg w w' R := by
  have hS := hp.hS
  have hlL : L.length ≤ 256 := by have := hw.len; have := hw.hB; omega
  have hT : T ≤ 9223372036854775807 := by have := ht.le; have := ht.top; unfold maxLen at this; omega
  have hkT : k ≤ T / x.S := by have := hl.le; rw [pcL_len] at this; exact this
  have hk256 : k ≤ 256 := by
    rcases Nat.eq_zero_or_pos k with e | e
    · omega
    · obtain ⟨z, hz, ez⟩ := hl.at hw (r := k - 1) (by omega)
      have := hw.deep hz
      rw [ez, List.length_take, Nat.min_eq_left (by rw [pcL_len]; omega)] at this
      omega
  obtain ⟨n1, hn1⟩ : ∃ n1, n1 = N + 1 := ⟨_, rfl⟩
  have e1 : (N : Int) + 1 = (n1 : Int) := by omega
  have hnl : n1 ≤ 4611686018427387905 := by omega
  have d2 : w.cell? ⟨D, 2, none⟩ = some (.int .i64 N) := h.at_.row.cell (i := 2) (by decide)
  have fz := h.at_.row.frozen
  have kD := Chg.of_set w D 2 (.int .i64 n1)
  have H1 : RcF (w.setCell ⟨D, 2, none⟩ (.int .i64 n1)) R D x.g v L x.S n1 Ta Tc := ⟨h.at_.tick n1, h.rD, h.rV, h.rT, fun z hz => Nat.lt_of_lt_of_le (h.low z hz) kD.size⟩
  have kR : Chg w (w.setCell ⟨D, 2, none⟩ (.int .i64 n1)) R := kD.imp (fun b _ e => by rw [e]; exact h.rD)
  have HSZ := hidd (rsize_any H1.at_ (hp.off ho kR))
  have HH := hidd (And.intro H1 (And.intro kR (And.intro hc (And.intro hw hl))))
  have HT := hidd (And.intro ht hto)
  have HLOW := hidd h.low
  rw [← hn1]
  clear h hp ho hc hw hl ht H1 kR kD hn1 hto
  go_enter Try.func32, Try.ntmps32
  go_wp2_with (go_at_call 57; with_reducible refine HSZ.out.mono ?_; rintro e w5 ⟨rfl, f5⟩)
  have HS5 := hidd (And.intro (HH.out.1.fresh f5) (HH.out.2.1.post f5))
  clear HSZ d2 fz f5
  go_loopw [5, 7, 8] (fun vl vk _ wr => ∃ r : Nat, r ≤ k ∧ vk = .int .i64 (((r + 1) * x.S : Nat) : Int) ∧ Hid (Own wr w.heap.size 3 1 vl r (fun j => .int .i64 (bkF L (pcL t x.S (T / x.S)) j : Nat)) ∧ RcF wr R D x.g v (useL L ((pcL t x.S (T / x.S)).take r) n1) x.S n1 Ta Tc ∧ Chg w wr R)) (fun _ vk _ _ => (k + 2) * x.S - (intOf vk).toNat)
  case atStart => exact ⟨0, by omega, by simp, own_nil _ _ _ _ _, by rw [List.take_zero, useL_nil]; exact HS5.out.1, HS5.out.2⟩
  case round =>
    obtain ⟨r, hr, rfl, HR⟩ := hrel
    obtain ⟨m, hm⟩ : ∃ m, m = (r + 1) * x.S := ⟨_, rfl⟩
    have hm2 : m ≤ 4112 := by rw [hm]; exact Nat.mul_le_mul (show r + 1 ≤ 257 by omega) hS.2
    obtain ⟨m3, HM3⟩ : ∃ m3, Hid (m3 = (r + 1 + 1) * x.S) := ⟨_, rfl⟩
    have hm3 : m3 = m + x.S := by rw [HM3.out, hm, Nat.add_mul (r + 1) 1, Nat.one_mul]
    have hnext : ((m : Int) + (x.S : Int)) = (m3 : Int) := by omega
    have HM4 := hidd hm3
    clear hm3
    have hmea : (k + 2) * x.S = m + (k + 1 - r) * x.S := by
      rw [hm, ← Nat.add_mul]; congr 1; omega
    have hpos : 0 < (k + 1 - r) * x.S := Nat.mul_pos (by omega) (by omega)
    have hm0 : 0 < m := by rw [hm]; exact Nat.mul_pos (by omega) (by omega)
    rw [← hm]
    have HMM := hidd hm
    by_cases hle : m ≤ T
    · obtain ⟨b, off, rfl, _⟩ := HT.out.1.one (by omega)
      have hcap := HT.out.1.le
      have hcap2 : cap ≤ 9223372036854775807 := by have := HT.out.1.top; unfold maxLen at this; omega
      have HAT := hidd (at_any HR.out.2.1.at_ (HH.out.2.2.1.use _ _) hS (q := r + 1) («to» := some ⟨b, off, none⟩) (cap := cap) (t := t) (by rw [← hm]; exact (HT.out.1.part hle).chg HR.out.2.2 (HT.out.2 (by omega))))
      rw [← hm] at HAT
      have hr1 : r + 1 ≤ T / x.S := (Nat.le_div_iff_mul_le (by omega)).2 (by rw [← hm]; exact hle)
      have hi1 : (m : Int) ≤ (T : Int) := by omega
      have hi2 : (m : Int) ≤ (cap : Int) := by omega
      have hi3 : (0 : Int) ≤ (m : Int) := by omega
      have HPC : Hid (pcL t x.S (r + 1) = (pcL t x.S (T / x.S)).take (r + 1)) := (pcL_take t x.S hr1).symm
      by_cases hrk : r < k
      · have HA1 : Hid (Calls Try.prog 59 #[.pointer (some ⟨D, 0, none⟩), .slice (some ⟨b, off, none⟩) m cap] wr fun e w' => (∃ i : Nat, e = .returned (.int .i64 (i : Int)) ∧ i < L.length ∧ (ndAt L i).path = (pcL t x.S (T / x.S)).take (r + 1)) ∧ Below wr.heap.size wr w') := by
          refine HAT.out.mono ?_
          rintro e w' ⟨⟨kk, rfl, hs⟩, hf⟩
          refine ⟨?_, hf⟩
          rcases hs with ⟨_, hno⟩ | ⟨i, rfl, hi, ei⟩
          · exfalso
            obtain ⟨z, hz, ez⟩ := HH.out.2.2.2.2.at HH.out.2.2.2.1 hrk
            refine hno (mkF _ 0 n1 z) (List.mem_map.2 ⟨z, hz, rfl⟩) ?_
            rw [(mkF_same _ _ _).path, ez, HPC.out]
          · rw [useL_len] at hi
            rw [(useL_at hi).1, HPC.out] at ei
            exact ⟨i, rfl, hi, ei⟩
        clear HAT hm
        go_wp2_with (go_at_call 59; with_reducible refine HA1.out.mono ?_; rintro e w6 ⟨⟨i, rfl, hi, hip⟩, f6⟩; have hd : decide ((i : Int) < 0) = false := by simp)
        have H6 := HR.out.2.1.fresh f6
        have hO6 := HR.out.1.kept f6
        have hC6 := HR.out.2.2.post f6
        obtain ⟨g, gc, ev, hgl, hgc, hgD, c1, fg, hcs⟩ := H6.at_.list0 (by rw [useL_len]; omega)
        rw [useL_len] at ev hgl c1 hcs
        subst ev
        have c2 : w6.cell? ⟨D, 2, none⟩ = some (.int .i64 n1) := H6.at_.row.cell (i := 2) (by decide)
        have cb := (hcs i hi).2.1
        have cu := (hcs i hi).2.2
        generalize (ndAt (useL L ((pcL t x.S (T / x.S)).take r) n1) i).used = uu at cu
        rw [(useL_at hi).2] at cb
        obtain ⟨bk, hbk⟩ : ∃ bk, bk = (ndAt L i).blk := ⟨_, rfl⟩
        rw [← hbk] at cb
        have HBK : Hid (bkF L (pcL t x.S (T / x.S)) r = bk) := by
          show _ = _
          rw [hbk]
          exact bkF_eq HH.out.2.2.2.1 (ndAt_mem hi) hip
        have HX : Hid (∀ (w0 : World) (tt : TypeId), (w0.alloc (.cells #[.int .i64 (bk : Nat)] tt)).cell? ⟨w0.heap.size, 0, none⟩ = some ((fun j => Value.int .i64 (bkF L (pcL t x.S (T / x.S)) j : Nat)) r)) := fun w0 tt => by
          show _ = some (Value.int .i64 (bkF L (pcL t x.S (T / x.S)) r : Nat))
          rw [HBK.out]
          exact new_cell _ _ _
        have hgw : g < w.heap.size := HLOW.out g (H6.rV g rfl)
        have i0 : (0 : Int) ≤ (i : Int) := by omega
        have i1 : (i : Int) < (L.length : Int) := by omega
        have fgi := fg (i * 3 + 2)
        have kg := (Chg.of_set w6 g (i * 3 + 2) (.int .i64 n1)).post (Below.refl _ _).drew
        have H7 := (H6.useN (useL_len _ _ _).symm (by rw [useL_len]; exact hi) n1).fresh (Below.refl _ _).drew
        rw [useL_next HH.out.2.2.2.1 hi hip (by rw [pcL_len]; exact hr1)] at H7
        have e1' : (w6.setCell ⟨g, i * 3 + 2, none⟩ (.int .i64 n1)).drew.cell? ⟨D, 1, none⟩ = some (.slice (some ⟨g, 0, none⟩) L.length gc) := kg.cell c1 (fun e => hgD e.symm)
        have e2' : (w6.setCell ⟨g, i * 3 + 2, none⟩ (.int .i64 n1)).drew.cell? ⟨g, i * 3 + 1, none⟩ = some (.int .i64 bk) := by
          have q : (w6.setCell ⟨g, i * 3 + 2, none⟩ (.int .i64 n1)).cell? ⟨g, i * 3 + 1, none⟩ = some (.int .i64 bk) := by
            rw [World.cell?_setCell_other]
            · exact cb
            · simp
          exact q
        have HO7 := hidd (hO6.chg kg (fun b hb e => by have := (hO6.lt b hb).1; omega))
        have HC7 := hidd (hC6.trans kg (fun z _ e => by rw [e]; exact H6.rV g rfl))
        have HR7 := hidd H7
        have hs7 : Hid (w.heap.size ≤ (w6.setCell ⟨g, i * 3 + 2, none⟩ (.int .i64 n1)).drew.heap.size) := HC7.out.size
        clear H6 hO6 hC6 hcs hip hbk kg H7 HA1 f6 HR fg
        go_wp2
        go_region
        generalize (w6.setCell ⟨g, i * 3 + 2, none⟩ (.int .i64 n1)).drew = w7 at *
        have hs7 := hs7.out
        go_wp2_with (at_builtin; refine wpList_app1 _ rfl _ _ 22 rfl w.heap.size 3 (.int .i64 0) 8 Try.underlying22 infoI rfl _ r (fun j => .int .i64 (bkF L (pcL t x.S (T / x.S)) j : Nat)) rfl (HO7.out.kept (fresh_alloc _ _)) _ 1 rfl (HX.out _ _) rfl (by omega) (by omega) (by simp; omega) ?_)
        intro v' w8 hown' happ
        have ka := Chg.of_app happ
        have hof : ∀ b, u5.ownBlock = some b → w.heap.size ≤ b := fun b hb => (HO7.out.lt b hb).1
        have HR8 := hidd ((HR7.out.fresh (fresh_alloc _ _)).chg ka (fun z hz e => by have := HLOW.out z hz; have := hof z e; omega))
        have HC8 := hidd ((HC7.out.post (fresh_alloc _ _)).trans ka (fun z hz e => by have := hof z e; omega))
        have HO8 := hidd hown'
        clear happ hown' ka HO7 HR7 HC7
        go_wp2
        go_roundw
        case rel => exact ⟨r + 1, by omega, by rw [← HM3.out], HO8.out, HR8.out, HC8.out⟩
        case measure => have := HM4.out; simp [intOf]; omega
      · obtain rfl : r = k := by omega
        have HA1 : Hid (Calls Try.prog 59 #[.pointer (some ⟨D, 0, none⟩), .slice (some ⟨b, off, none⟩) m cap] wr fun e w' => e = .returned (.int .i64 (-1)) ∧ Below wr.heap.size wr w') := by
          refine HAT.out.mono ?_
          rintro e w' ⟨⟨kk, rfl, hs⟩, hf⟩
          refine ⟨?_, hf⟩
          rcases hs with ⟨rfl, _⟩ | ⟨i, rfl, hi, ei⟩
          · rfl
          · exfalso
            rw [useL_len] at hi
            rw [(useL_at hi).1, HPC.out] at ei
            exact HH.out.2.2.2.2.no (r + 1) (by omega) (by rw [pcL_len]; exact hr1) _ (ndAt_mem hi) ei
        clear HAT hm
        go_wp2_with (go_at_call 59; with_reducible refine HA1.out.mono ?_; rintro e w6 ⟨rfl, f6⟩)
        go_ret
        exact ⟨_, rfl, HR.out.1.kept f6, HR.out.2.1.fresh f6, HR.out.2.2.post f6⟩
    · have hrk : r = k := by
        have h1 : T / x.S < r + 1 := by
          rw [Nat.div_lt_iff_lt_mul (by omega), ← hm]
          omega
        omega
      subst hrk
      clear hm
      go_wp2
      go_ret
      exact ⟨_, rfl, HR.out.1, HR.out.2.1, HR.out.2.2⟩
end Go.Proofs.Ytaalinlggjimcaa
namespace Go.Proofs.Ytaalinlggjimcaa
open Go.RowKit
/-! Shrink on both sides: one way alone. -/
theorem ptr_nil (x : Nd) : x.ptr ≠ nilP := fun e => by unfold Nd.ptr nilP at e; cases e
theorem Shr.sub {B : Nat} {L : List Nd} {cnt : Nat → Nat} {j : Nat} {L1 : List Nd} {c1 : Nat → Nat} (h : Shr B L cnt j L1 c1) : ∀ x ∈ L1, x ∈ L := by
  induction h with
  | nil => exact fun _ h => h
  | step _ _ _ ih => exact fun x hx => ih x (mem_del.1 hx).1
theorem least_get {L1 L : List Nd} {c : Ca} {N : Nat} (hw : Well c L N) (hsub : ∀ x ∈ L1, x ∈ L) {c1 : Nat → Nat} {B : Nat} {x : Nd} (hx : x ∈ L1) (h : LeastTo L1 c1 B x.ptr) : May L1 c1 x ∧ x.blk < B ∧ ∀ y ∈ L1, y.blk < B → May L1 c1 y → Ahead x y := by
  rcases h with ⟨e, _⟩ | ⟨x', hx', e, h1, h2, h3⟩
  · exact absurd e (ptr_nil x)
  · have := hw.dat x' (hsub x' hx') x (hsub x hx) (ptr_inj e).symm
    subst this
    exact ⟨h1, h2, h3⟩
theorem least_uniq {L1 L : List Nd} {c : Ca} {N : Nat} (hw : Well c L N) (hsub : ∀ x ∈ L1, x ∈ L) {c1 : Nat → Nat} {B : Nat} {x y : Nd} (hx : x ∈ L1) (hy : y ∈ L1) (h : LeastTo L1 c1 B x.ptr) (k : LeastTo L1 c1 B y.ptr) : x = y := by
  obtain ⟨a1, a2, a3⟩ := least_get hw hsub hx h
  obtain ⟨b1, b2, b3⟩ := least_get hw hsub hy k
  have h1 := a3 y hy b2 b1
  have h2 := b3 x hx a2 a1
  refine hw.dblk x (hsub x hx) y (hsub y hy) ?_
  unfold Ahead at h1 h2
  omega
theorem Shr.fn {B : Nat} {L : List Nd} {cnt : Nat → Nat} {c : Ca} {N : Nat} (hw : Well c L N) {j : Nat} {L1 : List Nd} {c1 : Nat → Nat} (h : Shr B L cnt j L1 c1) : ∀ {L2 : List Nd} {c2 : Nat → Nat}, Shr B L cnt j L2 c2 → L1 = L2 ∧ c1 = c2 := by
  induction h with
  | nil =>
    intro L2 c2 k
    cases k
    exact ⟨rfl, rfl⟩
  | step h1 hx hl ih =>
    intro L2 c2 k
    cases k with
    | step k1 ky kl =>
      obtain ⟨rfl, rfl⟩ := ih k1
      have := least_uniq hw h1.sub hx ky hl kl
      subst this
      exact ⟨rfl, rfl⟩
theorem Shr.back {B : Nat} {L : List Nd} {cnt : Nat → Nat} {j : Nat} {L1 : List Nd} {c1 : Nat → Nat} (h : Shr B L cnt j L1 c1) : ∀ {i : Nat}, i < j → ∃ L' c' x, Shr B L cnt i L' c' ∧ x ∈ L' ∧ LeastTo L' c' B x.ptr := by
  induction h with
  | nil => intro i hi; omega
  | @step j L1 c1 x h1 hx hl ih =>
    intro i hi
    by_cases e : i = j
    · subst e; exact ⟨_, _, _, h1, hx, hl⟩
    · exact ih (by omega)
theorem Shr.same {L : List Nd} {cnt : Nat → Nat} {c : Ca} {N : Nat} (hw : Well c L N) {n : Int} {i j : Nat} {L1 L2 : List Nd} {c1 c2 : Nat → Nat} (h : Shr c.B L cnt i L1 c1) (h1 : (i : Int) ≤ n ∨ i = 0) (h2 : n ≤ (i : Int) ∨ LeastTo L1 c1 c.B nilP)
    (k : Shr c.B L cnt j L2 c2) (k1 : (j : Int) ≤ n ∨ j = 0) (k2 : n ≤ (j : Int) ∨ LeastTo L2 c2 c.B nilP) : i = j ∧ L1 = L2 ∧ c1 = c2 := by
  have key : ∀ {i j : Nat} {L1 L2 : List Nd} {c1 c2 : Nat → Nat}, Shr c.B L cnt i L1 c1 → (n ≤ (i : Int) ∨ LeastTo L1 c1 c.B nilP) → Shr c.B L cnt j L2 c2 → ((j : Int) ≤ n ∨ j = 0) → ¬ i < j := fun {i j L1 L2 c1 c2} h h2 k k1 hij => by
    obtain ⟨L', c', x, hs, hx, hl⟩ := k.back hij
    obtain ⟨rfl, rfl⟩ := h.fn hw hs
    rcases h2 with h2 | h2
    · omega
    · obtain ⟨m1, m2, _⟩ := least_get hw h.sub hx hl
      rcases h2 with ⟨_, h3⟩ | ⟨x', _, e, _⟩
      · exact h3 x hx m2 m1
      · exact absurd e.symm (ptr_nil x')
  have a := key h h2 k k1
  have b := key k k2 h h1
  have e : i = j := by omega
  subst e
  exact ⟨rfl, h.fn hw k⟩
/-- what next tells, in the program's words -/
theorem next_least {L : List Nd} {c : Ca} {N : Nat} (hw : Well c L N) (ht : Tie L) {cnt : Nat → Nat} {i : Nat} (hi : i < L.length) (hm : May L cnt (ndAt L i)) (hl : ∀ j, j < L.length → May L cnt (ndAt L j) → (ndAt L i).used ≤ (ndAt L j).used) : LeastTo L cnt c.B (ndAt L i).ptr := by
  refine .inr ⟨_, ndAt_mem hi, rfl, hm, hw.blk _ (ndAt_mem hi), fun y hy _ my => ?_⟩
  obtain ⟨j, hj, rfl⟩ := mem_ndAt hy
  have := hl j hj my
  by_cases e : (ndAt L i).used = (ndAt L j).used
  · have := may_uniq hw ht (ndAt_mem hi) hy hm my e
    rw [← this]
    exact .inr ⟨rfl, Nat.le_refl _⟩
  · exact .inl (by omega)
end Go.Proofs.Ytaalinlggjimcaa
namespace Go.Proofs.Ytaalinlggjimcaa
open Go.RowKit
/-! The reference's Shrink. -/
theorem infoKn : (Try.prog.info? 106).map (fun i => (i.zero, i.size, i.bytes)) = some (some (.agg #[.slice none 0 0, .int .i64 0, .int .i64 0]), 3, 40) := by kernel_rfl
theorem new_three (w : World) (t : TypeId) {a b c : Value} {cs : Nat → Value} {n : Nat} (h0 : cs (n * 3) = a) (h1 : cs (n * 3 + 1) = b) (h2 : cs (n * 3 + 2) = c) : ∀ j, j < 1 * 3 → (w.alloc (.cells #[a, b, c] t)).cell? ⟨w.heap.size, j, none⟩ = some (cs (n * 3 + j)) := by
  intro j hj
  match j, hj with
  | 0, _ => simp [h0]
  | 1, _ => simp [h1]
  | 2, _ => simp [h2]
  | (_ + 3), h => omega
theorem knc_one (L : List Nd) (S : Nat) (Ta : Nat → Option Addr) (Tc : Nat → Nat) (j : Nat) : (knc L S Ta Tc j).oneCell' = true := by
  unfold knc
  split
  · rfl
  · split <;> rfl
theorem knc_congr {L M : List Nd} {S n : Nat} {Ta Ta' : Nat → Option Addr} {Tc Tc' : Nat → Nat} (h : ∀ j, j < n → (ndAt L j).path.length = (ndAt M j).path.length ∧ (ndAt L j).blk = (ndAt M j).blk ∧ (ndAt L j).used = (ndAt M j).used ∧ Ta j = Ta' j ∧ Tc j = Tc' j) (j : Nat) (hj : j < n * 3) : knc L S Ta Tc j = knc M S Ta' Tc' j := by
  obtain ⟨a, b, c, d, e⟩ := h (j / 3) (by omega)
  unfold knc
  rw [a, b, c, d, e]
theorem knc_at (L : List Nd) (S : Nat) (Ta : Nat → Option Addr) (Tc : Nat → Nat) (n : Nat) : knc L S Ta Tc (n * 3) = .slice (Ta n) ((ndAt L n).path.length * S) (Tc n) ∧ knc L S Ta Tc (n * 3 + 1) = .int .i64 (ndAt L n).blk ∧ knc L S Ta Tc (n * 3 + 2) = .int .i64 (ndAt L n).used := by
  unfold knc
  refine ⟨?_, ?_, ?_⟩
  · rw [if_pos (by omega), show n * 3 / 3 = n by omega]
  · rw [if_neg (by omega), if_pos (by omega), show (n * 3 + 1) / 3 = n by omega]
  · rw [if_neg (by omega), if_neg (by omega), show (n * 3 + 2) / 3 = n by omega]
def putY {α : Type} (f : Nat → α) (r : Nat) (x : α) : Nat → α := fun j => if j = r then x else f j
theorem putY_at {α : Type} (f : Nat → α) (r : Nat) (x : α) : putY f r x r = x := if_pos rfl
theorem putY_ne {α : Type} (f : Nat → α) {r j : Nat} (x : α) (h : j ≠ r) : putY f r x j = f j := if_neg h
theorem snoc_at {M : List Nd} {y : Nd} {j : Nat} : ndAt (M ++ [y]) j = if j < M.length then ndAt M j else if j = M.length then y else nd0 := by
  unfold ndAt
  rw [List.getD_eq_getElem?_getD, List.getD_eq_getElem?_getD]
  by_cases h : j < M.length
  · rw [if_pos h, List.getElem?_append_left h]
  · rw [if_neg h, List.getElem?_append_right (by omega)]
    by_cases e : j = M.length
    · rw [if_pos e, e, Nat.sub_self]; rfl
    · rw [if_neg e, List.getElem?_eq_none (by simp; omega)]; rfl
/-- a list that is made out of another's known ones -/
structure Rest (w : World) (base : Nat) (u : Value) (L M : List Nd) (S : Nat) (Ta Ta' : Nat → Option Addr) (Tc Tc' : Nat → Nat) : Prop where
  own : Own w base 106 3 u M.length (knc M S Ta' Tc')
  src : ∀ j, j < M.length → ∃ i, i < L.length ∧ ndAt M j = ndAt L i ∧ Ta' j = Ta i ∧ Tc' j = Tc i
theorem Rest.nil (w : World) (base : Nat) (L : List Nd) (S : Nat) (Ta : Nat → Option Addr) (Tc : Nat → Nat) : Rest w base (.slice none 0 0) L [] S Ta Ta Tc Tc := ⟨own_nil _ _ _ _ _, fun j hj => absurd hj (by simp)⟩
theorem RcF.rest {w : World} {R : Nat → Prop} {D pg : Nat} {v u : Value} {L M : List Nd} {S N base : Nat} {Ta Ta' : Nat → Option Addr} {Tc Tc' : Nat → Nat} (h : RcF w R D pg v L S N Ta Tc) (hr : Rest w base u L M S Ta Ta' Tc Tc') :
    RcF (w.setCell ⟨D, 1, none⟩ u) (fun z => R z ∨ u.ownBlock = some z) D pg u M S N Ta' Tc' := by
  have k := Chg.of_set w D 1 u
  refine ⟨⟨?_, (hr.own.chg k (fun z hz e => hr.own.apart h.at_.row (by decide) (by rw [← e]; exact hz))).weaken (Nat.zero_le _), fun j hj => ?_⟩, .inl h.rD, fun z hz => .inr hz, fun j hj z hz => ?_, fun z hz => ?_⟩
  · refine (h.at_.row.set 1 u).congr (fun j hj => ?_)
    unfold rc3
    by_cases e : j = 1
    · subst e; rfl
    · rw [if_neg e]
      by_cases e0 : j = 0
      · rw [if_pos e0, if_pos e0]
      · rw [if_neg e0, if_neg e0, if_neg e, if_neg e]
  · obtain ⟨i, hi, e1, e2, e3⟩ := hr.src j hj
    rw [e1, e2, e3]
    exact (h.at_.tok i hi).chg k (fun z hz e => (h.at_.tok i hi).apart h.at_.row (by decide) (by rw [← e]; exact hz))
  · obtain ⟨i, hi, e1, e2, e3⟩ := hr.src j hj
    rw [e1, e2, e3] at hz
    exact .inl (h.rT i hi z hz)
  · rcases hz with hz | hz
    · exact Nat.lt_of_lt_of_le (h.low z hz) k.size
    · exact Nat.lt_of_lt_of_le (hr.own.lt z hz).2 k.size
theorem Rest.snoc {w w' : World} {base : Nat} {u u' : Value} {L M : List Nd} {S i : Nat} {Ta Ta' : Nat → Option Addr} {Tc Tc' : Nat → Nat} (h : Rest w base u L M S Ta Ta' Tc Tc') (hi : i < L.length)
    (hown : Own w' base 106 3 u' (M.length + 1) (knc (M ++ [ndAt L i]) S (putY Ta' M.length (Ta i)) (putY Tc' M.length (Tc i)))) : Rest w' base u' L (M ++ [ndAt L i]) S Ta (putY Ta' M.length (Ta i)) Tc (putY Tc' M.length (Tc i)) := by
  refine ⟨by rw [List.length_append]; exact hown, fun j hj => ?_⟩
  rw [List.length_append] at hj
  rw [snoc_at]
  by_cases e : j < M.length
  · rw [if_pos e, putY_ne _ _ (by omega), putY_ne _ _ (by omega)]
    exact h.src j e
  · have e2 : j = M.length := by simp at hj; omega
    rw [if_neg e, if_pos e2, e2, putY_at, putY_at]
    exact ⟨i, hi, rfl, rfl, rfl⟩
theorem Rest.old {w : World} {base : Nat} {u : Value} {L M : List Nd} {S i : Nat} {Ta Ta' : Nat → Option Addr} {Tc Tc' : Nat → Nat} (h : Rest w base u L M S Ta Ta' Tc Tc') : Own w base 106 3 u M.length (knc (M ++ [ndAt L i]) S (putY Ta' M.length (Ta i)) (putY Tc' M.length (Tc i))) :=
  h.own.congr (knc_congr (fun j hj => by rw [snoc_at, if_pos hj, putY_ne _ _ (by omega), putY_ne _ _ (by omega)]; exact ⟨rfl, rfl, rfl, rfl, rfl⟩))
theorem del_snoc {L : List Nd} (hn : L.Nodup) {i k : Nat} (hi : i < L.length) (hk : k < L.length) : delL (L.take (k + 1)) (ndAt L i) = delL (L.take k) (ndAt L i) ++ if k = i then [] else [ndAt L k] := by
  have e : L.take (k + 1) = L.take k ++ [ndAt L k] := by
    rw [List.take_add_one]
    unfold ndAt
    rw [List.getD_eq_getElem?_getD, List.getElem?_eq_getElem hk]
    rfl
  rw [e]
  unfold delL
  rw [List.filter_append]
  congr 1
  by_cases q : k = i
  · subst q; simp
  · rw [if_neg q]
    have : ndAt L k ≠ ndAt L i := fun e => q (ndAt_inj hn hk hi e)
    simp [this]
end Go.Proofs.Ytaalinlggjimcaa
namespace Go.Proofs.Ytaalinlggjimcaa
open Go.RowKit
theorem del_all (L : List Nd) (x : Nd) : delL (L.take L.length) x = delL L x := by rw [List.take_length]
theorem del_zero (L : List Nd) (x : Nd) : delL (L.take 0) x = [] := by rw [List.take_zero]; rfl
theorem del_le (L : List Nd) (x : Nd) (k : Nat) : (delL (L.take k) x).length ≤ k := by
  unfold delL
  exact Nat.le_trans (List.length_filter_le _ _) (by rw [List.length_take]; omega)
theorem RefAt.lows {w : World} {x : Rx} {y : Ry} (h : RefAt w x y) : Offs (fun z => w.heap.size ≤ z) x y := by
  obtain ⟨F1, r1, _⟩ := h.cnts
  obtain ⟨F2, r2, _⟩ := h.ks
  obtain ⟨F3, r3, _⟩ := h.vs
  refine ⟨Nat.not_le.2 h.row.lt, Nat.not_le.2 r1.lt, Nat.not_le.2 r2.lt, Nat.not_le.2 r3.lt, fun i hi => ?_, fun i hi => ?_⟩
  · obtain ⟨_, _, F, hr, _⟩ := h.kin i hi
    exact Nat.not_le.2 hr.lt
  · obtain ⟨_, _, F, hr, _⟩ := h.vin i hi
    exact Nat.not_le.2 hr.lt
/-- what the reference's Shrink keeps -/
structure Rsh (w wr : World) (R : Nat → Prop) (D : Nat) (L : List Nd) (N : Nat) (c : Ca) (N' : Nat) (x : Rx) (y : Ry) (j : Nat) (n : Int) (L' : List Nd) (cnt' : Nat → Nat) (R' : Nat → Prop) (v' : Value) (Ta' : Nat → Option Addr) (Tc' : Nat → Nat) : Prop where
  le : (j : Int) ≤ n ∨ j = 0
  shr : Shr c.B L y.cnt j L' cnt'
  rc : RcF wr R' D x.g v' L' x.S N Ta' Tc'
  ref : RefAt wr x { y with cnt := cnt' }
  off : Offs R' x y
  chg : Chg w wr (fun z => R z ∨ z = x.cb)
  up : ∀ z, R z → R' z
  dn : ∀ z, R' z → R z ∨ w.heap.size ≤ z
  well : Well c L' N'
  tie : Tie L'
  cut : Cut x.S L'
  low : ∀ b, cnt' b ≤ y.cnt b
theorem Rsh.fresh {w wr wq : World} {R : Nat → Prop} {D : Nat} {L : List Nd} {N : Nat} {c : Ca} {N' : Nat} {x : Rx} {y : Ry} {j : Nat} {n : Int} {L' : List Nd} {cnt' : Nat → Nat} {R' : Nat → Prop} {v' : Value} {Ta' : Nat → Option Addr} {Tc' : Nat → Nat} (h : Rsh w wr R D L N c N' x y j n L' cnt' R' v' Ta' Tc') (f : Below wr.heap.size wr wq) : Rsh w wq R D L N c N' x y j n L' cnt' R' v' Ta' Tc' :=
  ⟨h.le, h.shr, h.rc.fresh f, h.ref.fresh f, h.off, h.chg.post f, h.up, h.dn, h.well, h.tie, h.cut, h.low⟩
set_option maxRecDepth 20000 in
set_option maxHeartbeats 6400000 in
theorem rshrink_any {w : World} {R : Nat → Prop} {D : Nat} {v : Value} {L : List Nd} {N N' : Nat} {Ta : Nat → Option Addr} {Tc : Nat → Nat} {c : Ca} {x : Rx} {y : Ry} (h : RcF w R D x.g v L x.S N Ta Tc) (hp : RefAt w x y) (ho : Offs R x y) (hc : Cut x.S L) (hw : Well c L N') (ht : Tie L) (hB : c.B = x.B) (n : Int) :
    Calls Try.prog 55 #[.pointer (some ⟨D, 0, none⟩), .int .i64 n] w fun e w' => ∃ j : Nat, e = .returned (.int .i64 (j : Int)) ∧ ∃ (L' : List Nd) (cnt' : Nat → Nat), (∃ (R' : Nat → Prop) (v' : Value) (Ta' : Nat → Option Addr) (Tc' : Nat → Nat), Rsh w w' R D L N c N' x y j n L' cnt' R' v' Ta' Tc') ∧ (n ≤ (j : Int) ∨ LeastTo L' cnt' c.B nilP) := by
  have hS := hp.hS
  have hlL : L.length ≤ 256 := by have := hw.len; have := hw.hB; omega
  have HH : Hid (Rsh w w R D L N c N' x y 0 n L y.cnt R v Ta Tc) := ⟨.inr rfl, .nil, h, hp, ho, Chg.refl _ _, fun _ h => h, fun _ h => .inl h, hw, ht, hc, fun _ => Nat.le_refl _⟩
  clear h hp ho hc hw ht
  go_enter Try.func55, Try.ntmps55
  go_wp2
  go_loopw [5, 6, 7, 8] (fun vj _ _ _ wr => ∃ (j : Nat) (L' : List Nd) (cnt' : Nat → Nat) (R' : Nat → Prop) (v' : Value) (Ta' : Nat → Option Addr) (Tc' : Nat → Nat), vj = .int .i64 (j : Int) ∧ j + L'.length = L.length ∧ Hid (Rsh w wr R D L N c N' x y j n L' cnt' R' v' Ta' Tc')) (fun vj _ _ _ _ => L.length - (intOf vj).toNat)
  case atStart => exact ⟨0, L, y.cnt, R, v, Ta, Tc, rfl, by omega, HH.out⟩
  case round =>
    clear HH
    obtain ⟨j, L', cnt', R', v', Ta', Tc', rfl, hj, H⟩ := hrel
    by_cases hlt : (j : Int) < n
    · have HN := hidd (next_any H.out.rc.at_ H.out.ref H.out.cut H.out.well hS hB)
      go_wp2_with fail
      refine HN.out.mono ?_
      rintro e w4 ⟨⟨k, rfl, ⟨rfl, hno⟩ | ⟨i, rfl, hi, hm, hall⟩⟩, f4⟩
      · have HNO := hidd hno
        clear hno HN
        go_wp2
        go_ret
        exact ⟨j, rfl, L', cnt', ⟨R', v', Ta', Tc', H.out.fresh f4⟩, .inr (.inl ⟨rfl, fun z hz _ => (by
          obtain ⟨m, hm, rfl⟩ := mem_ndAt hz
          exact HNO.out m hm)⟩)⟩
      · have H4 := hidd (H.out.fresh f4)
        have HLT := hidd (And.intro hm (next_least H.out.well H.out.tie hi hm hall))
        have f0 : Below w4.heap.size w4 w4.drew := (Below.refl _ _).drew
        obtain ⟨g, gc, rfl, hgl, hgc, hgD, c1, fg, hcs⟩ := H4.out.rc.at_.list0 (by omega)
        have c0 : w4.cell? ⟨D, 0, none⟩ = some (.pointer (some ⟨x.g, 0, none⟩)) := H4.out.rc.at_.row.cell (i := 0) (by decide)
        have hbk : (ndAt L' i).blk < x.B := by rw [← hB]; exact H.out.well.blk _ (ndAt_mem hi)
        obtain ⟨bk, hbe⟩ : ∃ bk, bk = (ndAt L' i).blk := ⟨_, rfl⟩
        have HBE := hidd hbe
        have s0 : w4.drew.cell? ⟨D, 0, none⟩ = some (.pointer (some ⟨x.g, 0, none⟩)) ∧ w4.drew.cell? ⟨D, 1, none⟩ = some (.slice (some ⟨g, 0, none⟩) L'.length gc) ∧ w4.drew.cell? ⟨g, i * 3 + 1, none⟩ = some (.int .i64 (bk : Nat)) := ⟨fresh_cell f0 c0, fresh_cell f0 c1, by rw [hbe]; exact fresh_cell f0 (hcs i hi).2.1⟩
        have HDR : Hid (Calls Try.prog 71 #[.pointer (some ⟨x.g, 0, none⟩), .int .i64 (bk : Nat)] w4.drew fun e w' => ∃ q, e = .returned (.int .i64 q) ∧ (w'.cell? ⟨D, 0, none⟩ = some (.pointer (some ⟨x.g, 0, none⟩)) ∧ w'.cell? ⟨D, 1, none⟩ = some (.slice (some ⟨g, 0, none⟩) L'.length gc) ∧ w'.cell? ⟨g, i * 3 + 1, none⟩ = some (.int .i64 (bk : Nat))) ∧ Hid (RcF w' R' D x.g (.slice (some ⟨g, 0, none⟩) L'.length gc) L' x.S N Ta' Tc' ∧ RefAt w' x { y with cnt := updN cnt' (ndAt L' i).blk 0 } ∧ Chg w w' (fun z => R z ∨ z = x.cb))) := by
          have hcn : cnt' (ndAt L' i).blk = 1 := hm.2
          have H5 := H4.out.fresh f0
          have := rdrop_ok (b := (ndAt L' i).blk) H5.ref hbk (by show cnt' _ ≠ 0; rw [hcn]; decide) (by show cnt' _ ≤ _; rw [hcn]; decide)
          rw [hbe]
          refine this.mono ?_
          rintro e w' ⟨rfl, h1, h2⟩
          have hRx : ∀ z, R' z → ¬ z = x.cb := fun z hz e => H5.off.cb (by rw [← e]; exact hz)
          have e0 : cnt' (ndAt L' i).blk - 1 = 0 := by rw [hcn]
          refine ⟨0, rfl, ⟨h2.cell s0.1 (hRx _ H5.rc.rD), h2.cell s0.2.1 (hRx _ H5.rc.rD), h2.cell (by rw [← hbe]; exact s0.2.2) (hRx _ (H5.rc.rV g rfl))⟩, H5.rc.chg h2 hRx, ?_, H5.chg.trans h2 (fun z _ e => .inr e)⟩
          have h3 : RefAt w' x { y with cnt := updN cnt' (ndAt L' i).blk (cnt' (ndAt L' i).blk - 1) } := h1
          rw [e0] at h3
          exact h3
        have HL := hidd (And.intro hi hall)
        have i0 : (0 : Int) ≤ (i : Int) := by omega
        have i1 : (i : Int) < (L'.length : Int) := by omega
        have hid0 : decide ((i : Int) < 0) = false := by simp
        have HF4 := hidd f4.size
        clear hm hall hbe HN c0 c1 hcs hbk f4 fg
        go_wp2
        go_region_held3 (fun w' => w'.cell? ⟨D, 0, none⟩ = some (.pointer (some ⟨x.g, 0, none⟩)) ∧ w'.cell? ⟨D, 1, none⟩ = some (.slice (some ⟨g, 0, none⟩) L'.length gc) ∧ w'.cell? ⟨g, i * 3 + 1, none⟩ = some (.int .i64 (bk : Nat)))
          (first | (with_reducible exact s0) | (with_reducible exact k2) | go_keep)
          (first | (go_at_call 71; with_reducible refine HDR.out.mono ?_; rintro e w6 ⟨q, rfl, k2, H6⟩))
        all_goals
          clear HDR s0
          obtain ⟨k20, k21, k22⟩ := k2
          go_wp2
          go_loopw [7, 8] (fun vr vk wq => ∃ (k m : Nat) (Ta2 : Nat → Option Addr) (Tc2 : Nat → Nat), k ≤ L'.length ∧ vk = .int .i64 (k : Int) ∧ m ≤ k ∧ Hid (m = (delL (L'.take k) (ndAt L' i)).length ∧ Rest wq w6.heap.size vr L' (delL (L'.take k) (ndAt L' i)) x.S Ta' Ta2 Tc' Tc2 ∧ Below w6.heap.size w6 wq)) (fun _ vk _ => L'.length - (intOf vk).toNat)
          case atStart => exact ⟨0, 0, Ta', Tc', by omega, rfl, by omega, by rw [del_zero]; exact ⟨rfl, Rest.nil _ _ _ _ _ _, Below.refl _ _⟩⟩
          case round =>
            obtain ⟨k, m, Ta2, Tc2, hk, rfl, hmk, HQ⟩ := hrel
            have d1 := fresh_cell HQ.out.2.2 k21
            by_cases hkl : k < L'.length
            · by_cases hki : k = i
              · have HE : Hid (delL (L'.take (k + 1)) (ndAt L' i) = delL (L'.take k) (ndAt L' i)) := by
                  show _ = _
                  rw [del_snoc H4.out.well.nodup HL.out.1 hkl, if_pos hki, List.append_nil]
                have hb : ((k : Int) == (i : Int)) = true := by simp [hki]
                go_wp2
                go_roundw
                case rel => exact ⟨k + 1, m, Ta2, Tc2, by omega, by go_num, by omega, by rw [HE.out]; exact HQ.out⟩
                case measure => simp [intOf]; omega
              · have HE : Hid (delL (L'.take (k + 1)) (ndAt L' i) = delL (L'.take k) (ndAt L' i) ++ [ndAt L' k]) := by
                  show _ = _
                  rw [del_snoc H4.out.well.nodup HL.out.1 hkl, if_neg hki]
                have hb : ((k : Int) == (i : Int)) = false := by simp; omega
                obtain ⟨g', gc', ev', _, _, _, _, _, hcs'⟩ := H6.out.1.at_.list0 (by omega)
                injection ev' with ev1 _ ev3
                injection ev1 with ev1
                injection ev1 with ev1
                subst ev1 ev3
                have q0 := fresh_cell HQ.out.2.2 (hcs' k hkl).1
                have q1 := fresh_cell HQ.out.2.2 (hcs' k hkl).2.1
                have q2 := fresh_cell HQ.out.2.2 (hcs' k hkl).2.2
                have hq := HQ.out
                obtain ⟨M, HM⟩ : ∃ M, Hid (M = delL (L'.take k) (ndAt L' i)) := ⟨_, rfl⟩
                rw [← HM.out] at hq
                have hml := hq.1
                have HO := hidd (hq.2.1.old (i := k))
                have E := knc_at (M ++ [ndAt L' k]) x.S (putY Ta2 M.length (Ta' k)) (putY Tc2 M.length (Tc' k)) M.length
                rw [putY_at, putY_at, snoc_at, if_neg (by omega), if_pos rfl] at E
                generalize (ndAt L' k).path.length * x.S = pl at q0 E
                generalize (ndAt L' k).blk = pb at q1 E
                generalize (ndAt L' k).used = pu at q2 E
                have HE3 := hidd E
                have HQ2 := hidd hq
                have hsz := hq.2.2.size
                rw [← hml] at HO HE3
                clear hq E hcs' hml
                have k0 : (0 : Int) ≤ (k : Int) := by omega
                have k1 : (k : Int) < (L'.length : Int) := by omega
                go_wp2_with (at_builtin; refine wpList_app _ rfl _ _ 100 rfl w6.heap.size 106 (.agg #[.slice none 0 0, .int .i64 0, .int .i64 0]) 3 40 Try.underlying100 infoKn rfl (by decide) _ m (knc (M ++ [ndAt L' k]) x.S (putY Ta2 m (Ta' k)) (putY Tc2 m (Tc' k))) rfl (HO.out.kept (fresh_alloc _ _)) _ 1 1 rfl (new_three _ _ HE3.out.1 HE3.out.2.1 HE3.out.2.2) (fun _ _ => knc_one _ _ _ _ _) (by decide) (by unfold maxLen; omega) (by omega) (by simp; omega) ?_)
                intro vv w8 hown' happ
                have f8 := happ.below ((HQ2.out.2.2.alloc hsz _)) (HO.out.kept (fresh_alloc _ _)) (Nat.le_refl _) (by simp; omega)
                have HO8 := hidd hown'
                clear happ hown'
                go_wp2
                go_roundw
                case rel =>
                  refine ⟨k + 1, m + 1, putY Ta2 m (Ta' k), putY Tc2 m (Tc' k), by omega, by go_num, by omega, ?_⟩
                  rw [HE.out, ← HM.out]
                  have ho := HO8.out
                  have e := HQ2.out.1
                  subst e
                  exact ⟨by simp, HQ2.out.2.1.snoc hkl ho, f8⟩
                case measure => simp [intOf]; omega
            · obtain rfl : k = L'.length := by omega
              have hq := HQ.out
              rw [del_all] at hq
              have R9 := H6.out.1.fresh hq.2.2
              have fz := R9.at_.row.frozen
              obtain ⟨uo, uc, eu, _⟩ := hq.2.1.own.rd
              subst eu
              have kD := Chg.of_set wr D 1 (.slice uo (delL L' (ndAt L' i)).length uc)
              have hpos : 0 < L'.length := by omega
              have hlen := del_len H4.out.well.nodup (ndAt_mem HL.out.1)
              have HS9 : Hid (Rsh w (wr.setCell ⟨D, 1, none⟩ (.slice uo (delL L' (ndAt L' i)).length uc)) R D L N c N' x y (j + 1) n (delL L' (ndAt L' i)) (updN cnt' (ndAt L' i).blk 0) (fun z => R' z ∨ (Value.slice uo (delL L' (ndAt L' i)).length uc).ownBlock = some z) (.slice uo (delL L' (ndAt L' i)).length uc) Ta2 Tc2) := by
                have hoff : Offs (fun z => R' z ∨ (Value.slice uo (delL L' (ndAt L' i)).length uc).ownBlock = some z) x y := by
                  have lo := H6.out.2.1.lows
                  have o := H4.out.off
                  have key : ∀ z, ¬ w6.heap.size ≤ z → ¬ (Value.slice uo (delL L' (ndAt L' i)).length uc).ownBlock = some z := fun z hz e => hz (hq.2.1.own.lt z e).1
                  exact ⟨fun e => e.elim o.g (key _ lo.g), fun e => e.elim o.cb (key _ lo.cb), fun e => e.elim o.kb (key _ lo.kb), fun e => e.elim o.vb (key _ lo.vb), fun i hi e => e.elim (o.ka i hi) (key _ (lo.ka i hi)), fun i hi e => e.elim (o.va i hi) (key _ (lo.va i hi))⟩
                have o := H4.out.off
                have rD := R9.rD
                refine ⟨.inl (by omega), .step H4.out.shr (ndAt_mem HL.out.1) HLT.out.2, R9.rest hq.2.1, ?_, hoff, ?_, fun z hz => .inl (H4.out.up z hz), fun z hz => ?_, H4.out.well.del HLT.out.1.1, H4.out.tie.del _, H4.out.cut.del _, fun b => ?_⟩
                · exact (H6.out.2.1.fresh hq.2.2).chg kD (fun e => o.g (by rw [e]; exact rD)) (fun e => o.cb (by rw [e]; exact rD)) (fun e => o.kb (by rw [e]; exact rD)) (fun e => o.vb (by rw [e]; exact rD)) (fun i hi e => o.ka i hi (by rw [e]; exact rD)) (fun i hi e => o.va i hi (by rw [e]; exact rD))
                · refine (H6.out.2.2.post hq.2.2).trans kD (fun z hz e => ?_)
                  rcases H4.out.dn D rD with r | r
                  · rw [e]; exact .inl r
                  · omega
                · rcases hz with hz | hz
                  · exact H4.out.dn z hz
                  · have := (hq.2.1.own.lt z hz).1
                    have := H6.out.2.2.size
                    exact .inr (by omega)
                · unfold updN
                  split
                  · exact Nat.zero_le _
                  · exact H4.out.low b
              clear hq R9 kD HQ
              generalize hnl : (delL L' (ndAt L' i)).length = nl at *
              have HNL := hidd hnl
              clear hnl
              go_wp2
              go_roundw
              case rel => exact ⟨j + 1, _, _, _, _, _, _, by go_num, by have := HNL.out; omega, HS9.out⟩
              case measure => simp [intOf]; omega
    · go_wp2
      go_ret
      exact ⟨j, rfl, L', cnt', ⟨R', v', Ta', Tc', H.out⟩, .inl (by omega)⟩
end Go.Proofs.Ytaalinlggjimcaa
namespace Go.Proofs.Ytaalinlggjimcaa
open Go.RowKit
/-! Keep on the reference's side: its list, round by round. -/
theorem useL_same {L : List Nd} {P : List (List Int)} {r n : Nat} (hr : r + 1 ≤ P.length) (hno : ∀ z ∈ L, z.path ≠ P.take (r + 1)) : useL L (P.take r) n = useL L (P.take (r + 1)) n := by
  unfold useL
  refine List.map_congr_left (fun x hx => ?_)
  have hne := hno x hx
  have hiff : (x.path = (P.take r).take x.path.length ∧ 0 < x.path.length) ↔ (x.path = (P.take (r + 1)).take x.path.length ∧ 0 < x.path.length) := by
    rw [List.take_take, List.take_take]
    by_cases h1 : x.path.length ≤ r
    · rw [Nat.min_eq_left h1, Nat.min_eq_left (by omega)]
    · refine ⟨fun ⟨q, _⟩ => ?_, fun ⟨q, _⟩ => ?_⟩
      · have := congrArg List.length q
        rw [List.length_take] at this
        omega
      · by_cases h2 : x.path.length = r + 1
        · rw [h2, Nat.min_self] at q
          exact absurd q hne
        · have := congrArg List.length q
          rw [List.length_take] at this
          omega
  unfold mkF
  by_cases q : x.path = (P.take r).take x.path.length ∧ 0 < x.path.length
  · rw [if_pos q, if_pos (hiff.1 q)]
  · rw [if_neg q, if_neg (fun z => q (hiff.2 z))]
/-- the new ones -/
def nw (P : List (List Int)) (gn : Nat → Nat) (k j : Nat) : List Nd := (List.range j).map (fun i => ⟨P.take (k + i + 1), gn (k + i), 0, 0⟩)
theorem nw_len (P : List (List Int)) (gn : Nat → Nat) (k j : Nat) : (nw P gn k j).length = j := by simp [nw]
theorem nw_mem {P : List (List Int)} {gn : Nat → Nat} {k j : Nat} {z : Nd} (h : z ∈ nw P gn k j) : ∃ i, i < j ∧ z = ⟨P.take (k + i + 1), gn (k + i), 0, 0⟩ := by
  unfold nw at h
  obtain ⟨i, hi, rfl⟩ := List.mem_map.1 h
  exact ⟨i, List.mem_range.1 hi, rfl⟩
theorem nw_succ (P : List (List Int)) (gn : Nat → Nat) (k j : Nat) : nw P gn k (j + 1) = nw P gn k j ++ [⟨P.take (k + j + 1), gn (k + j), 0, 0⟩] := by
  unfold nw
  rw [List.range_succ, List.map_append]
  rfl
def Mi (L : List Nd) (P : List (List Int)) (gn : Nat → Nat) (k i n : Nat) : List Nd := useL (L ++ nw P gn k (i - k)) (P.take i) n
theorem Mi_zero (L : List Nd) (P : List (List Int)) (gn : Nat → Nat) (k n : Nat) : Mi L P gn k 0 n = L := by
  unfold Mi
  rw [Nat.zero_sub, List.take_zero, useL_nil]
  simp [nw]
theorem Mi_len (L : List Nd) (P : List (List Int)) (gn : Nat → Nat) (k i n : Nat) : (Mi L P gn k i n).length = L.length + (i - k) := by
  unfold Mi
  rw [useL_len, List.length_append, nw_len]
theorem Mi_old {L : List Nd} {P : List (List Int)} {gn : Nat → Nat} {k i n : Nat} (h : i ≤ k) : Mi L P gn k i n = useL L (P.take i) n := by
  unfold Mi
  rw [show i - k = 0 by omega]
  simp [nw]
theorem Mi_path {L : List Nd} {P : List (List Int)} {gn : Nat → Nat} {k i n : Nat} {z : Nd} (h : z ∈ Mi L P gn k i n) : (∃ y ∈ L, z.path = y.path) ∨ ∃ j, k + j < i ∧ z.path = P.take (k + j + 1) := by
  unfold Mi at h
  obtain ⟨y, hy, e, _⟩ := useL_mem h
  rcases List.mem_append.1 hy with hy | hy
  · exact .inl ⟨y, hy, e⟩
  · obtain ⟨j, hj, rfl⟩ := nw_mem hy
    exact .inr ⟨j, by omega, e⟩
theorem Mi_no {L : List Nd} {P : List (List Int)} {gn : Nat → Nat} {C k b o i n : Nat} (hl : Long C L P k b o) (hk : k ≤ i) (hi : i + 1 ≤ P.length) : ∀ z ∈ Mi L P gn k i n, z.path ≠ P.take (i + 1) := fun z hz e => by
  rcases Mi_path hz with ⟨y, hy, e2⟩ | ⟨j, hj, e2⟩
  · exact hl.no (i + 1) (by omega) hi y hy (e2.symm.trans e)
  · have := congrArg List.length (e.symm.trans e2)
    rw [List.length_take, List.length_take] at this
    omega
theorem Mi_new {L : List Nd} {P : List (List Int)} {gn : Nat → Nat} {C k b o i n : Nat} (hl : Long C L P k b o) (hk : k ≤ i) (hi : i + 1 ≤ P.length) : Mi L P gn k i n ++ [⟨P.take (i + 1), gn i, n, 0⟩] = Mi L P gn k (i + 1) n := by
  have hno : ∀ z ∈ L ++ nw P gn k (i - k), z.path ≠ P.take (i + 1) := fun z hz e => by
    rcases List.mem_append.1 hz with hz | hz
    · exact hl.no (i + 1) (by omega) hi z hz e
    · obtain ⟨j, hj, rfl⟩ := nw_mem hz
      have := congrArg List.length e
      simp only [List.length_take] at this
      omega
  unfold Mi
  rw [useL_same hi hno, show i + 1 - k = i - k + 1 by omega, nw_succ, ← List.append_assoc]
  conv => rhs; unfold useL; rw [List.map_append]
  unfold useL
  congr 1
  simp only [List.map_cons, List.map_nil]
  rw [show k + (i - k) + 1 = i + 1 by omega, show k + (i - k) = i by omega]
  unfold mkF
  rw [if_pos ⟨by simp only [List.length_take]; rw [List.take_take]; congr 1; omega, by simp only [List.length_take]; omega⟩]
theorem Mi_cut {S : Nat} {L : List Nd} {t : Nat → Int} {gn : Nat → Nat} {k i n m : Nat} (h : Cut S L) (hi : i ≤ m) : Cut S (Mi L (pcL t S m) gn k i n) := fun z hz => by
  rcases Mi_path hz with ⟨y, hy, e⟩ | ⟨j, hj, e⟩
  · obtain ⟨t', e'⟩ := h y hy
    exact ⟨t', by rw [e]; exact e'⟩
  · refine ⟨t, ?_⟩
    rw [e, pcL_take _ _ (by omega), pcL_len]
/-- in the program's words -/
theorem Mi_end {L L' news : List Nd} {P : List (List Int)} {gn : Nat → Nat} {k n : Nat} (he : Ext L P gn k (P.length - k) L' news) {j : Nat} (hj : j < (Mi L P gn k P.length n).length) : (ndAt (Mi L P gn k P.length n) j).path = (ndAt (useL L' P n) j).path ∧ (ndAt (Mi L P gn k P.length n) j).blk = (ndAt (useL L' P n) j).blk ∧ (ndAt (Mi L P gn k P.length n) j).used = (ndAt (useL L' P n) j).used := by
  rw [Mi_len] at hj
  have hl1 : j < (L ++ nw P gn k (P.length - k)).length := by rw [List.length_append, nw_len]; exact hj
  have hl2 : j < L'.length := by rw [he.eq, List.length_append, he.len]; exact hj
  unfold Mi useL
  rw [List.take_length, map_at hl1, map_at hl2]
  have key : (ndAt (L ++ nw P gn k (P.length - k)) j).path = (ndAt L' j).path ∧ (ndAt (L ++ nw P gn k (P.length - k)) j).blk = (ndAt L' j).blk ∧ (ndAt (L ++ nw P gn k (P.length - k)) j).used = (ndAt L' j).used := by
    rw [he.eq]
    unfold ndAt
    rw [List.getD_eq_getElem?_getD, List.getD_eq_getElem?_getD]
    by_cases h : j < L.length
    · rw [List.getElem?_append_left h, List.getElem?_append_left h]
      exact ⟨rfl, rfl, rfl⟩
    · rw [List.getElem?_append_right (by omega), List.getElem?_append_right (by omega)]
      obtain ⟨y, e, h1, h2, h3⟩ := he.at_ (j - L.length) (by omega)
      rw [e]
      unfold nw
      rw [List.getElem?_map, List.getElem?_range (by omega)]
      simp [h1, h2, h3]
  obtain ⟨a, b, c⟩ := key
  generalize ndAt (L ++ nw P gn k (P.length - k)) j = x at *
  generalize ndAt L' j = y at *
  unfold mkF
  rw [a]
  split
  · exact ⟨rfl, b, rfl⟩
  · exact ⟨a, b, c⟩
theorem RcF.congr {w : World} {R : Nat → Prop} {D pg : Nat} {v : Value} {L M : List Nd} {S N : Nat} {Ta : Nat → Option Addr} {Tc : Nat → Nat} (h : RcF w R D pg v L S N Ta Tc) (hl : L.length = M.length) (e : ∀ j, j < L.length → (ndAt L j).path = (ndAt M j).path ∧ (ndAt L j).blk = (ndAt M j).blk ∧ (ndAt L j).used = (ndAt M j).used) : RcF w R D pg v M S N Ta Tc := by
  refine ⟨⟨h.at_.row, ?_, fun i hi => ?_⟩, h.rD, h.rV, fun i hi z hz => ?_, h.low⟩
  · rw [← hl]
    exact h.at_.own.congr (knc_congr (fun j hj => ⟨by rw [(e j hj).1], (e j hj).2.1, (e j hj).2.2, rfl, rfl⟩))
  · rw [← hl] at hi
    have := h.at_.tok i hi
    rw [(e i hi).1] at this
    exact this
  · rw [← hl] at hi
    refine h.rT i hi z ?_
    rw [(e i hi).1]
    exact hz
set_option maxRecDepth 20000 in
set_option maxHeartbeats 1600000 in
theorem copyI_own {w : World} {ao : Option Addr} {n cap : Nat} {f : Nat → Int} (h : RdA w ao 1 n cap (fun i => .int .i64 (f i))) (hn : n ≤ 17592186043904) :
    Calls Try.prog 21 #[.slice ao n cap] w fun e w' => ∃ u uc, e = .returned (.slice u n uc) ∧ Own w' w.heap.size 3 1 (.slice u n uc) n (fun i => .int .i64 (f i)) ∧ Below w.heap.size w w' := by
  have hn2 : n ≤ 9223372036854775807 := by omega
  go_enter Try.func21, Try.ntmps21
  go_wp2
  go_loopw [3, 4] (fun v i wr => ∃ k : Nat, k ≤ n ∧ i = .int .i64 k ∧ Own wr w.heap.size 3 1 v k (fun j => .int .i64 (f j)) ∧ Below w.heap.size w wr) (fun _ i _ => n - (intOf i).toNat)
  case atStart => exact ⟨0, by omega, rfl, own_nil _ _ _ _ _, Below.refl _ _⟩
  case round =>
    obtain ⟨k, hk, rfl, hown, hf⟩ := hrel
    have hsz := hf.size
    by_cases hlt : k < n
    · obtain ⟨b1, o1, rfl, h1⟩ := (h.fresh hf).one (by omega)
      have d := h1 k hlt
      have hle := h.le
      have HX : Hid (∀ (w0 : World) (t : TypeId), (w0.alloc (.cells #[.int .i64 (f k)] t)).cell? ⟨w0.heap.size, 0, none⟩ = some ((fun j => Value.int .i64 (f j)) k)) := fun w0 t => new_cell _ _ _
      clear h1
      generalize f k = y at d HX
      go_wp2_with (at_builtin; refine wpList_app1 _ rfl _ _ 22 rfl w.heap.size 3 (.int .i64 0) 8 Try.underlying22 infoI rfl _ k (fun j => .int .i64 (f j)) rfl (hown.kept (fresh_alloc _ _)) _ 1 rfl (HX.out _ _) rfl (by omega) (by omega) (by simp; omega) ?_)
      intro v' w1 hown' happ
      have hf1 := happ.below (hf.alloc hsz _) (hown.kept (fresh_alloc _ _)) (Nat.le_refl _) (by simp; omega)
      clear happ hown
      go_wp2
      go_roundw
      case rel => exact ⟨k + 1, by omega, by go_num, hown', hf1⟩
      case measure => simp [intOf]; omega
    · obtain rfl : k = n := by omega
      obtain ⟨u, uc, rfl, hu⟩ := hown.rd
      go_wp2
      go_ret
      exact ⟨u, uc, rfl, hown, hf⟩
/-- one known one more, behind the others -/
theorem RcF.push {w w1 : World} {R : Nat → Prop} {D pg : Nat} {v v' : Value} {L : List Nd} {S N base : Nat} {Ta : Nat → Option Addr} {Tc : Nat → Nat} (h : RcF w R D pg v L S N Ta Tc) {y : Nd} {tO : Option Addr} {tc : Nat} (ht : Own w base 3 1 (.slice tO (y.path.length * S) tc) (y.path.length * S) (fun j => .int .i64 (tokF S y.path j)))
    (ha : App w w1 v v') (ho : Own w1 0 106 3 v' (L.length + 1) (knc (L ++ [y]) S (putY Ta L.length tO) (putY Tc L.length tc))) :
    RcF (w1.setCell ⟨D, 1, none⟩ v') (fun z => R z ∨ v'.ownBlock = some z ∨ (Value.slice tO (y.path.length * S) tc).ownBlock = some z) D pg v' (L ++ [y]) S N (putY Ta L.length tO) (putY Tc L.length tc) := by
  have k := Chg.of_set w1 D 1 v'
  have ka := Chg.of_app ha
  have row1 := ka.row h.at_.row (fun e => h.at_.own.apart h.at_.row (by decide) e)
  refine ⟨⟨?_, ?_, fun j hj => ?_⟩, .inl h.rD, fun z hz => .inr (.inl hz), fun j hj z hz => ?_, fun z hz => ?_⟩
  · refine (row1.set 1 v').congr (fun j hj => ?_)
    unfold rc3
    by_cases e : j = 1
    · subst e; rfl
    · rw [if_neg e]
      by_cases e0 : j = 0
      · rw [if_pos e0, if_pos e0]
      · rw [if_neg e0, if_neg e0, if_neg e, if_neg e]
  · rw [List.length_append]
    exact ho.chg k (fun z hz e => ho.apart row1 (by decide) (by rw [← e]; exact hz))
  · rw [List.length_append] at hj
    rw [snoc_at]
    by_cases e : j < L.length
    · rw [if_pos e, putY_ne _ _ (by omega), putY_ne _ _ (by omega)]
      have t1 := ha.own (h.at_.tok j e) (h.at_.own.offT (h.at_.tok j e) (by decide))
      exact t1.chg k (fun z hz e => t1.apart row1 (by decide) (by rw [← e]; exact hz))
    · have e2 : j = L.length := by simp at hj; omega
      rw [if_neg e, if_pos e2, e2, putY_at, putY_at]
      have t1 := (ha.own ht (h.at_.own.offT ht (by decide))).weaken (Nat.zero_le _)
      exact t1.chg k (fun z hz e => t1.apart row1 (by decide) (by rw [← e]; exact hz))
  · rw [List.length_append] at hj
    rw [snoc_at] at hz
    by_cases e : j < L.length
    · rw [if_pos e, putY_ne _ _ (by omega), putY_ne _ _ (by omega)] at hz
      exact .inl (h.rT j e z hz)
    · have e2 : j = L.length := by simp at hj; omega
      rw [if_neg e, if_pos e2, e2, putY_at, putY_at] at hz
      exact .inr (.inr hz)
  · rcases hz with hz | hz | hz
    · exact Nat.lt_of_lt_of_le (h.low z hz) (Nat.le_trans ka.size k.size)
    · exact Nat.lt_of_lt_of_le (ho.lt z hz).2 k.size
    · exact Nat.lt_of_lt_of_le (ht.lt z hz).2 (Nat.le_trans ka.size k.size)
/-- One element of three cells more, at a step of a region that draws its order. -/
theorem step_app3 {P : Program} (w : World) {ops : Array Oper} {o : Oper} {a : Act} {K : Act → World → Prop} {Q : Exit → Act → World → Prop} {E : Prop} (hgd : o.guard = none) (s x : Operand) (t : TypeId)
    (ho : o.op = .call { callee := .builtin .append, args := #[s, x], argTypes := #[t, t] })
    (base : Nat) (e : TypeId) (z : Value) (bytes : Nat) (ht : P.underlying t = some (.slice e)) (hinfo : (P.info? e).map (fun i => (i.zero, i.size, i.bytes)) = some (some z, 3, bytes)) (h6 : z.cells.size = 3)
    (v : Value) (n : Nat) (cs : Nat → Value) (hs : a.eval s = v) (hown : Own w base e 3 v n cs)
    (g c : Nat) (hx : a.eval x = .slice (some ⟨g, 0, none⟩) 1 c) (hc : ∀ j, j < 1 * 3 → w.cell? ⟨g, j, none⟩ = some (cs (n * 3 + j))) (h1c : ∀ j, (cs j).oneCell' = true)
    (b1 : n < 9223372036854775807) (b2 : (n + 1) * bytes ≤ 140737488355328) (hb : base ≤ w.heap.size)
    (h : ∀ g' cap w', Own w' base e 3 (.slice (some ⟨g', 0, none⟩) (n + 1) cap) (n + 1) cs → App w w' v (.slice (some ⟨g', 0, none⟩) (n + 1) cap) → K (a.put o.dst (.slice (some ⟨g', 0, none⟩) (n + 1) cap)) w') :
    if Region.wanted o (yielded ops a.tmps) = true then Oper.wp P o a w K Q else E := by
  obtain ⟨i, hi, hz0, hz1, hz2⟩ := info_parts hinfo
  refine step_append_lies w hgd s x t ho base e i z 3 bytes ht hi hz0 hz1 hz2 h6 (by decide) v n _ hs hown ⟨g, 0, none⟩ 1 c [cs (n * 3), cs (n * 3 + 1), cs (n * 3 + 2)] hx rfl ?_ (by intro u hu; simp at hu; rcases hu with rfl | rfl | rfl <;> exact h1c _) (by decide) (by unfold maxLen; omega) b2 hb w.heap.size rfl ?_
  · intro j u hj
    match j, hj with
    | 0, hj => simp at hj; subst hj; rw [add_lit0]; exact hc 0 (by decide)
    | 1, hj => simp at hj; subst hj; rw [add_lit0]; exact hc 1 (by decide)
    | 2, hj => simp at hj; subst hj; rw [add_lit0]; exact hc 2 (by decide)
  · intro g' cap w' h2 h3 h4 h5
    refine h g' cap w' ?_ ⟨h3, fun k hk => ?_⟩
    · unfold Own
      have e1 := news_len n 1 3 cs
      rw [← e1]
      exact h2
    · simp only [Value.ownBlock, Option.some.injEq] at hk
      subst hk
      rcases h4 with h4 | h4
      · exact .inl h4
      · exact .inr (by omega)
end Go.Proofs.Ytaalinlggjimcaa
