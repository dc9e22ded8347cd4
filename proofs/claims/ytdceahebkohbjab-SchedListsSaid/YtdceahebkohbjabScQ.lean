import Derived.Test.YtdceahebkohbjabScK
namespace Go.Proofs.Ytdceahebkohbjab
open Go.RowKit
/-! What holds of a plan while it is made. -/
def wan (c : Me) (s : Se) : Int := if 0 < rst s then min (rst s) c.ch else min (max s.wa 1) c.tr
theorem mst_wan (c : Me) (s : Se) (left : Int) : mst c s left = min (wan c s) left := by
  unfold mst wan
  split <;> rfl
def tot : List (Nat × Int) → Int
  | [] => 0
  | z :: r => z.2 + tot r
def gvn (c : Me) (L : Nat → Se) : List (Nat × Int) → Int
  | [] => 0
  | z :: r => bey c (L z.1) z.2 + gvn c L r
theorem tot_app (Z : List (Nat × Int)) (z : Nat × Int) : tot (Z ++ [z]) = tot Z + z.2 := by
  induction Z with
  | nil => simp [tot]
  | cons a r ih => simp only [List.cons_append, tot, ih]; omega
theorem gvn_app (c : Me) (L : Nat → Se) (Z : List (Nat × Int)) (z : Nat × Int) : gvn c L (Z ++ [z]) = gvn c L Z + bey c (L z.1) z.2 := by
  induction Z with
  | nil => simp [gvn]
  | cons a r ih => simp only [List.cons_append, gvn, ih]; omega
/-- who is out, all younger ones that hold blocks are out -/
def upw (L : Nat → Se) (n : Nat) (out : Nat → Bool) : Prop := ∀ q r, out q = true → q < r → r < n → 0 < (L r).hn → out r = true
structure VR (L : Nat → Se) (n p y : Nat) (out : Nat → Bool) (ids : List Nat) (ot : Nat → Bool) (js : List Nat) : Prop where
  ex : ∃ ks, js = ids ++ ks ∧ ks.Nodup ∧ (∀ q, q ∈ ks → p < q ∧ q ≤ y ∧ out q = false ∧ 0 < (L q).hn) ∧ ∀ q, ot q = true ↔ out q = true ∨ q ∈ ks
  up : upw L n ot
  len : js.length + p ≤ ids.length + y
theorem put_iff (out : Nat → Bool) (y q : Nat) : put out y q = true ↔ q = y ∨ out q = true := by
  unfold put
  by_cases e : q = y
  · simp [e]
  · simp [e]
theorem vict_spec {c : Me} {L : Nat → Se} {n : Nat} {g : Int} {p : Nat} {l : Int} : ∀ {y : Nat} {out : Nat → Bool} {ids : List Nat} {ot : Nat → Bool} {js : List Nat}, p ≤ y → y < n → upw L n out → (∀ r, y < r → r < n → 0 < (L r).hn → out r = true) → vict c L n g p l y out ids = some (ot, js) → VR L n p y out ids ot js := by
  intro y
  induction y with
  | zero =>
    intro out ids ot js hp hy hu hU h
    unfold vict at h
    split at h
    · cases h
      exact ⟨⟨[], by simp, List.nodup_nil, fun q hq => absurd hq (by simp), fun q => by simp⟩, hu, by omega⟩
    · cases h
  | succ y ih =>
    intro out ids ot js hp hy hu hU h
    unfold vict at h
    split at h
    · cases h
      exact ⟨⟨[], by simp, List.nodup_nil, fun q hq => absurd hq (by simp), fun q => by simp⟩, hu, by omega⟩
    · split at h
      · cases h
      · next hne =>
        split at h
        · next hor =>
          have hU' : ∀ r, y < r → r < n → 0 < (L r).hn → out r = true := fun r h1 h2 h3 => by
            by_cases e : r = y + 1
            · subst e
              rcases hor with hor | hor
              · exact hor
              · omega
            · exact hU r (by omega) h2 h3
          obtain ⟨⟨ks, e1, e2, e3, e4⟩, e5, e6⟩ := ih (by omega) (by omega) hu hU' h
          exact ⟨⟨ks, e1, e2, fun q hq => ⟨(e3 q hq).1, by have := (e3 q hq).2.1; omega, (e3 q hq).2.2⟩, e4⟩, e5, by omega⟩
        · next hor =>
          have ho : out (y + 1) = false := by rw [Bool.eq_false_iff]; exact fun q => hor (Or.inl q)
          have hh : 0 < (L (y + 1)).hn := Nat.pos_of_ne_zero (fun q => hor (Or.inr q))
          have hu' : upw L n (put out (y + 1)) := fun q r h1 h2 h3 h4 => by
            rw [put_iff] at h1 ⊢
            rcases h1 with rfl | h1
            · exact .inr (hU r h2 h3 h4)
            · exact .inr (hu q r h1 h2 h3 h4)
          have hU' : ∀ r, y < r → r < n → 0 < (L r).hn → put out (y + 1) r = true := fun r h1 h2 h3 => by
            rw [put_iff]
            by_cases e : r = y + 1
            · exact .inl e
            · exact .inr (hU r (by omega) h2 h3)
          obtain ⟨⟨ks, e1, e2, e3, e4⟩, e5, e6⟩ := ih (by omega) (by omega) hu' hU' h
          have hout : ∀ q, q ∈ ks → q ≤ y := fun q hq => (e3 q hq).2.1
          refine ⟨⟨(y + 1) :: ks, by rw [e1]; simp, ?_, fun q hq => ?_, fun q => ?_⟩, e5, by simp at e6; omega⟩
          · rw [List.nodup_cons]
            exact ⟨fun q => by have := hout _ q; omega, e2⟩
          · rcases List.mem_cons.1 hq with rfl | hq
            · exact ⟨by omega, Nat.le_refl _, ho, hh⟩
            · obtain ⟨a1, a2, a3, a4⟩ := e3 q hq
              refine ⟨a1, by omega, ?_, a4⟩
              rw [Bool.eq_false_iff] at a3 ⊢
              exact fun h9 => a3 ((put_iff _ _ _).2 (.inr h9))
          · rw [e4, put_iff, List.mem_cons]
            constructor
            · rintro ((h9 | h9) | h9)
              · exact .inr (.inl h9)
              · exact .inl h9
              · exact .inr (.inr h9)
            · rintro (h9 | h9 | h9)
              · exact .inl (.inr h9)
              · exact .inl (.inl h9)
              · exact .inr h9
theorem vict_none {c : Me} {L : Nat → Se} {n : Nat} {g : Int} {p : Nat} {l : Int} : ∀ {y : Nat} {out : Nat → Bool} {ids : List Nat}, p ≤ y → y < n → (∀ r, y < r → r < n → 0 < (L r).hn → out r = true) → vict c L n g p l y out ids = none → ∃ ot : Nat → Bool, rom c L n g p ot < l ∧ ∀ q, q < n → (ot q = true ↔ out q = true ∨ (p < q ∧ 0 < (L q).hn)) := by
  intro y
  induction y with
  | zero =>
    intro out ids hp hy hU h
    unfold vict at h
    split at h
    · cases h
    · next hl => exact ⟨out, by omega, fun q hq => ⟨.inl, fun h9 => h9.elim id (fun h9 => hU q (by omega) hq h9.2)⟩⟩
  | succ y ih =>
    intro out ids hp hy hU h
    unfold vict at h
    split at h
    · cases h
    · next hl =>
      split at h
      · next e => exact ⟨out, by omega, fun q hq => ⟨.inl, fun h9 => h9.elim id (fun h9 => hU q (by omega) hq h9.2)⟩⟩
      · next hne =>
        split at h
        · next hor =>
          refine ih (by omega) (by omega) (fun r h1 h2 h3 => ?_) h
          by_cases e : r = y + 1
          · subst e
            rcases hor with hor | hor
            · exact hor
            · omega
          · exact hU r (by omega) h2 h3
        · next hor =>
          obtain ⟨ot, e1, e2⟩ := ih (by omega) (by omega) (fun r h1 h2 h3 => by
            rw [put_iff]
            by_cases e : r = y + 1
            · exact .inl e
            · exact .inr (hU r (by omega) h2 h3)) h
          refine ⟨ot, e1, fun q hq => ?_⟩
          rw [e2 q hq, put_iff]
          have hh : 0 < (L (y + 1)).hn := Nat.pos_of_ne_zero (fun q => hor (Or.inr q))
          constructor
          · rintro ((rfl | h9) | h9)
            · exact .inr ⟨by omega, hh⟩
            · exact .inl h9
            · exact .inr h9
          · rintro (h9 | h9)
            · exact .inl (.inr h9)
            · exact .inr h9
theorem fre_mono {c : Me} {L : Nat → Se} {n : Nat} {g : Int} {out ot : Nat → Bool} (h : ∀ q, q < n → out q = true → ot q = true) : fre c L n g out ≤ fre c L n g ot := by
  unfold fre
  have : cnt (hs L n ot) 256 ≤ cnt (hs L n out) 256 := cnt_mono (fun b hb => by
    obtain ⟨p, h1, h2, h3⟩ := (hs_iff L n ot b).1 hb
    refine (hs_iff L n out b).2 ⟨p, h1, ?_, h3⟩
    rw [Bool.eq_false_iff] at h2 ⊢
    exact fun q => h2 (h p h1 q)) 256
  omega
structure Inv (c : Me) (L : Nat → Se) (n : Nat) (pk : Int → Bool) (p : Nat) (st : Pn) : Prop where
  left0 : 0 ≤ st.left
  sum : st.left + tot st.Z = c.bu
  free : 0 ≤ fre c L n st.given st.out
  giv : st.given = gvn c L st.Z
  g0 : 0 ≤ st.given
  gbd : st.given ≤ 2000 * (p : Int)
  outn : ∀ q, st.out q = true → q < n ∧ 0 < (L q).hn
  up : upw L n st.out
  mem : ∀ q, st.out q = true ↔ q ∈ st.O
  nd : st.O.Nodup
  zs : ∀ z, z ∈ st.Z → z.1 < p ∧ z.1 < n ∧ st.out z.1 = false ∧ pk (L z.1).id = true ∧ 1 ≤ z.2 ∧ z.2 ≤ wan c (L z.1)
  inc : st.Z.Pairwise (fun a b => a.1 < b.1)
  head : ∀ q, st.out q = true → ∃ z, st.Z.head? = some z ∧ z.1 < q
  zlen : st.Z.length ≤ p
  olen : st.O.length ≤ 16 * p
theorem Inv.start {c : Me} (L : Nat → Se) (n : Nat) (pk : Int → Bool) (hc : okM c 1) (hk : ∀ i, i < n → okS c (L i)) : Inv c L n pk 0 ⟨fun _ => false, c.bu, 0, [], []⟩ where
  left0 := by have := hc.2.2.2.2.2.2.2.1; have := hc.2.2.2.2.2.2.2.2.1; show 0 ≤ c.bu; omega
  sum := by show c.bu + 0 = c.bu; omega
  free := by
    show 0 ≤ fre c L n 0 (fun _ => false)
    unfold fre
    have e : cnt (hs L n fun _ => false) 256 = cnt (hs L n fun _ => false) c.bs.toNat := cnt_cut (by have := hc.2.2.2.1; omega) (fun b hb => hs_none (c := c) (fun p hp => (hk p hp).2.2.2.2.2) (by omega))
    have := cnt_le (hs L n fun _ => false) c.bs.toNat
    have := hc.2.2.1
    omega
  giv := rfl
  g0 := Int.le_refl _
  gbd := by show (0 : Int) ≤ _; omega
  outn := fun q h => by cases h
  up := fun q r h => by cases h
  mem := fun q => by simp
  nd := List.nodup_nil
  zs := fun z h => by cases h
  inc := List.Pairwise.nil
  head := fun q h => by cases h
  zlen := Nat.le_refl _
  olen := Nat.le_refl _
theorem Inv.next {c : Me} {L : Nat → Se} {n : Nat} {pk : Int → Bool} {p : Nat} {st : Pn} (h : Inv c L n pk p st) : Inv c L n pk (p + 1) st :=
  { h with gbd := by have := h.gbd; omega, zs := fun z hz => ⟨by have := (h.zs z hz).1; omega, (h.zs z hz).2⟩, zlen := by have := h.zlen; omega, olen := by have := h.olen; omega }
theorem bey_bd {c : Me} {s : Se} (hc : okM c 1) (hs : okS c s) {k : Int} (h1 : 0 ≤ k) (h2 : k ≤ 1024) : 0 ≤ bey c s k ∧ bey c s k ≤ 2000 := by
  unfold bey
  have h3 := hs.2.2.1
  have h4 : s.ca ≤ 63 := by have := hs.2.2.2.1; have := hs.2.1; omega
  have : need c (s.ca + k) ≤ 2000 := (need_iff hc.2.2.2.2.1 _ _).2 (by
    have : 2000 * 1 ≤ 2000 * c.bl := Int.mul_le_mul_of_nonneg_left hc.2.2.2.2.1 (by omega)
    omega)
  omega
theorem Inv.look {c : Me} {L : Nat → Se} {n : Nat} {pk : Int → Bool} {p : Nat} {st : Pn} (hc : okM c 1) (hk : ∀ i, i < n → okS c (L i)) (hn : n ≤ 16) (h : Inv c L n pk p st) (hp : p < n) (hl : 1 ≤ st.left) (ho : st.out p = false) (hpk : pk (L p).id = true) : Inv c L n pk (p + 1) (lok c L n p st) := by
  unfold lok
  cases hv : vict c L n st.given p (lst c (L p) st.left) (n - 1) st.out [] with
  | none => exact h.next
  | some oi =>
    obtain ⟨ot, js⟩ := oi
    have hr := vict_room hv
    obtain ⟨⟨ks, e1, e2, e3, e4⟩, e5, e6⟩ := vict_spec (by omega) (by omega) h.up (fun r h1 h2 _ => by omega) hv
    simp only [List.nil_append] at e1
    subst e1
    simp only
    obtain ⟨m1, m2⟩ := mst_bd (s := L p) hc hl
    obtain ⟨l1, l2⟩ := lst_bd (s := L p) hc hl
    obtain ⟨k, hkk⟩ : ∃ k, k = min (mst c (L p) st.left) (rom c L n st.given p ot) := ⟨_, rfl⟩
    rw [← hkk]
    have k1 : 1 ≤ k := by omega
    have hbu : c.bu ≤ 1024 := hc.2.2.2.2.2.2.2.2.2.1
    have ht0 : 0 ≤ tot st.Z := by
      have : ∀ Z : List (Nat × Int), (∀ z, z ∈ Z → 1 ≤ z.2) → 0 ≤ tot Z := by
        intro Z
        induction Z with
        | nil => intro _; exact Int.le_refl _
        | cons a r ih => intro hz; have := ih (fun z hz' => hz z (List.mem_cons_of_mem _ hz')); have := hz a (List.mem_cons_self ..); simp only [tot]; omega
      exact this st.Z (fun z hz => (h.zs z hz).2.2.2.2.1)
    have hsum := h.sum
    have k2 : k ≤ 1024 := by omega
    have hfm : fre c L n st.given st.out ≤ fre c L n st.given ot := fre_mono (fun q _ hq => (e4 q).2 (.inl hq))
    have hf := h.free
    have hks := hk p hp
    obtain ⟨b1, b2⟩ := bey_bd hc hks (k := k) (by omega) k2
    have hneed : bey c (L p) k ≤ fre c L n st.given ot := by
      have hkr : k ≤ rom c L n st.given p ot := by omega
      unfold rom at hkr
      have : need c ((L p).ca + k) ≤ ((L p).hn : Int) + fre c L n st.given ot := (need_iff hc.2.2.2.2.1 _ _).2 (by omega)
      unfold bey
      omega
    have hfr : fre c L n (st.given + bey c (L p) k) ot = fre c L n st.given ot - bey c (L p) k := by unfold fre; omega
    have hwan : k ≤ wan c (L p) := by
      have := mst_wan c (L p) st.left
      omega
    have hnp : ot p = false := by
      rw [Bool.eq_false_iff]
      intro q
      rcases (e4 p).1 q with q | q
      · rw [ho] at q; cases q
      · have := (e3 p q).1; omega
    exact {
      left0 := by show 0 ≤ st.left - k; omega
      sum := by show st.left - k + tot (st.Z ++ [(p, k)]) = c.bu; rw [tot_app]; simp only; omega
      free := by show 0 ≤ fre c L n (st.given + bey c (L p) k) ot; omega
      giv := by show st.given + bey c (L p) k = gvn c L (st.Z ++ [(p, k)]); rw [gvn_app, h.giv]
      g0 := by have := h.g0; show 0 ≤ st.given + bey c (L p) k; omega
      gbd := by have := h.gbd; show st.given + bey c (L p) k ≤ 2000 * ((p + 1 : Nat) : Int); omega
      outn := fun q hq => by
        rcases (e4 q).1 hq with q1 | q1
        · exact h.outn q q1
        · exact ⟨by have := (e3 q q1).2.1; omega, (e3 q q1).2.2.2⟩
      up := e5
      mem := fun q => by
        show ot q = true ↔ q ∈ st.O ++ js
        rw [e4, List.mem_append, h.mem]
      nd := by
        show (st.O ++ js).Nodup
        rw [List.nodup_append]
        refine ⟨h.nd, e2, fun a ha b hb hab => ?_⟩
        subst hab
        have := (e3 a hb).2.2.1
        rw [(h.mem a).2 ha] at this
        cases this
      zs := fun z hz => by
        rcases List.mem_append.1 hz with hz | hz
        · obtain ⟨a1, a2, a3, a4⟩ := h.zs z hz
          refine ⟨by omega, a2, ?_, a4⟩
          show ot z.1 = false
          rw [Bool.eq_false_iff]
          intro q
          rcases (e4 z.1).1 q with q | q
          · rw [a3] at q; cases q
          · have := (e3 _ q).1; omega
        · obtain rfl : z = (p, k) := by simpa using hz
          exact ⟨Nat.lt_succ_self _, hp, hnp, hpk, k1, hwan⟩
      inc := by
        show (st.Z ++ [(p, k)]).Pairwise _
        rw [List.pairwise_append]
        refine ⟨h.inc, List.pairwise_singleton _ _, fun a ha b hb => ?_⟩
        obtain rfl : b = (p, k) := by simpa using hb
        exact (h.zs a ha).1
      head := fun q hq => by
        show ∃ z, (st.Z ++ [(p, k)]).head? = some z ∧ z.1 < q
        rcases (e4 q).1 hq with q1 | q1
        · obtain ⟨z, z1, z2⟩ := h.head q q1
          refine ⟨z, ?_, z2⟩
          cases hZ : st.Z with
          | nil => rw [hZ] at z1; cases z1
          | cons a r => rw [hZ] at z1; simpa using z1
        · have hpq := (e3 q q1).1
          cases hZ : st.Z with
          | nil => exact ⟨(p, k), rfl, hpq⟩
          | cons a r =>
            refine ⟨a, rfl, ?_⟩
            have := (h.zs a (by rw [hZ]; exact List.mem_cons_self ..)).1
            omega
      zlen := by show (st.Z ++ [(p, k)]).length ≤ p + 1; have := h.zlen; simp; omega
      olen := by show (st.O ++ js).length ≤ 16 * (p + 1); have := h.olen; simp at e6 ⊢; omega }
theorem mkN_inv {c : Me} {L : Nat → Se} {n : Nat} {pk : Int → Bool} (hc : okM c 1) (hk : ∀ i, i < n → okS c (L i)) (hn : n ≤ 16) : ∀ p, p ≤ n → Inv c L n pk p (mkN c L n pk p)
  | 0, _ => Inv.start L n pk hc hk
  | p + 1, hp => by
    have ih := mkN_inv (pk := pk) hc hk hn p (by omega)
    unfold mkN
    split
    · exact ih.next
    · next hl =>
      split
      · next hq => exact ih.look hc hk hn (by omega) (by have := ih.left0; omega) hq.1 hq.2
      · exact ih.next
end Go.Proofs.Ytdceahebkohbjab
