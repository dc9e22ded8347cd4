import Derived.Test.YtdceahebkohbjabScRh
namespace Go.Proofs.Ytdceahebkohbjab
open Go.RowKit
/-! The reference's plan and the plan over the sorted seats: a seat that is served. -/
/-- the reference's state says the plan's -/
structure StR (L : Nat → Se) (n : Nat) (Q : List Int) (gv lf : Int) (st : Pn) : Prop where
  q : Q = st.O.map fun r => (L r).id
  out : OutR L n Q st.out
  given : gv = st.given
  left : lf = st.left
theorem mdR_lok {c : Me} {S L : Nat → Se} {n : Nat} {p : Nat} {x : Int} {s : Se} {Q : List Int} {gv lf : Int} {st : Pn} {R : Option (List Int)} (hp : PO n S L) (hc1 : 1 ≤ c.bs) (hc2 : c.bs ≤ 256) (hc3 : 1 ≤ c.bl) (hb : ∀ q, q < n → okB c (L q).hn (L q).H) (hpn : p < n) (hs : er s = er (L p)) (hst : StR L n Q gv lf st) (hf : 0 ≤ fre c L n st.given st.out) (hm : MdR c S n gv s x Q R) :
    (R = none ∧ vict c L n st.given p x (n - 1) st.out [] = none) ∨ ∃ (Q' : List Int) (out' : Nat → Bool) (ids : List Nat), R = some Q' ∧ vict c L n st.given p x (n - 1) st.out [] = some (out', ids) ∧ Q' = (st.O ++ ids).map (fun r => (L r).id) ∧ OutR L n Q' out' ∧ 0 ≤ fre c L n st.given out' := by
  rw [hst.given] at hm
  have h := mdR_vict hp hc1 hc2 hc3 hb hpn hs (n - 1) (by omega) (by omega) st.out Q [] R (fun q h1 h2 => by omega) hst.out hf hm
  cases hv : vict c L n st.given p x (n - 1) st.out [] with
  | none => exact .inl ⟨h.1 hv, rfl⟩
  | some r =>
    obtain ⟨out', ids⟩ := r
    obtain ⟨js, e1, e2, e3, e4⟩ := h.2 out' ids hv
    simp only [List.nil_append] at e1
    subst e1
    exact .inr ⟨_, out', ids, e2, rfl, by rw [hst.q]; simp, e3, e4⟩
/-- where something is to be filled -/
theorem lok_fill {c : Me} {S L : Nat → Se} {n : Nat} {p : Nat} {am : Int} {s : Se} {Q : List Int} {gv lf : Int} {st : Pn} {R : Option (List Int)} (hp : PO n S L) (hc1 : 1 ≤ c.bs) (hc2 : c.bs ≤ 256) (hc3 : 1 ≤ c.bl) (hb : ∀ q, q < n → okB c (L q).hn (L q).H) (hpn : p < n) (hs : er s = er (L p)) (hst : StR L n Q gv lf st) (hf : 0 ≤ fre c L n st.given st.out) (hr : 0 < rst s) (ham : am = min (min (rst s) c.ch) lf) (hm : MdR c S n gv s am Q R) :
    (R = none ∧ lok c L n p st = st) ∨ ∃ Q', R = some Q' ∧ StR L n Q' (gv + bey c s am) (lf - am) (lok c L n p st) ∧ (lok c L n p st).Z = st.Z ++ [(p, am)] := by
  have hr2 : 0 < rst (L p) := by rw [← rst_er hs]; exact hr
  have hl : lst c (L p) st.left = am := by unfold lst; rw [if_pos hr2, ham, rst_er hs, hst.left]
  have hm2 : mst c (L p) st.left = am := by unfold mst; rw [if_pos hr2, ham, rst_er hs, hst.left]
  rcases mdR_lok hp hc1 hc2 hc3 hb hpn hs hst hf hm with ⟨h1, h2⟩ | ⟨Q', out', ids, h1, h2, h3, h4, _⟩
  · refine .inl ⟨h1, ?_⟩
    unfold lok
    rw [hl, h2]
  · refine .inr ⟨Q', h1, ?_⟩
    have hrm := vict_room h2
    have hmin : min am (rom c L n st.given p out') = am := by omega
    have he : lok c L n p st = ⟨out', st.left - am, st.given + bey c (L p) am, st.O ++ ids, st.Z ++ [(p, am)]⟩ := by
      unfold lok
      rw [hl, h2]
      simp only
      rw [hm2, hmin]
    rw [he]
    exact ⟨⟨h3, h4, by rw [hst.given, bey_er hs], by rw [hst.left]⟩, rfl⟩
/-- where nothing is -/
theorem lok_nodes {c : Me} {S L : Nat → Se} {n : Nat} {p : Nat} {a0 : Int} {s : Se} {Q : List Int} {gv lf : Int} {st : Pn} {R : Option (List Int)} (hp : PO n S L) (hc1 : 1 ≤ c.bs) (hc2 : c.bs ≤ 256) (hc3 : 1 ≤ c.bl) (hb : ∀ q, q < n → okB c (L q).hn (L q).H) (hpn : p < n) (hs : er s = er (L p)) (hst : StR L n Q gv lf st) (hf : 0 ≤ fre c L n st.given st.out) (hr : ¬ 0 < rst s) (ham : a0 = min (min (max s.wa 1) c.tr) lf) (hm : MdR c S n gv s 1 Q R) :
    (R = none ∧ lok c L n p st = st) ∨ ∃ Q', R = some Q' ∧ ∀ am, Most c S n gv s Q' a0 am → StR L n Q' (gv + bey c s am) (lf - am) (lok c L n p st) ∧ (lok c L n p st).Z = st.Z ++ [(p, am)] := by
  have hr2 : ¬ 0 < rst (L p) := by rw [← rst_er hs]; exact hr
  have hl : lst c (L p) st.left = 1 := by unfold lst; rw [if_neg hr2]
  have hm2 : mst c (L p) st.left = a0 := by unfold mst; rw [if_neg hr2, ham, er_wa hs, hst.left]
  rcases mdR_lok hp hc1 hc2 hc3 hb hpn hs hst hf hm with ⟨h1, h2⟩ | ⟨Q', out', ids, h1, h2, h3, h4, h5⟩
  · refine .inl ⟨h1, ?_⟩
    unfold lok
    rw [hl, h2]
  · refine .inr ⟨Q', h1, fun am hmo => ?_⟩
    have hq : ∀ x, bey c s x ≤ freR c S n (hasL Q') gv ↔ x ≤ rom c L n st.given p out' := fun x => by rw [bey_er hs, freR_eq hp hc1 hc2 hb h4, hst.given]; exact room_eq hc3 h5
    obtain ⟨m1, m2, m3, m4⟩ := hmo
    have hmin : min a0 (rom c L n st.given p out') = am := by
      have k1 := (hq am).1 m3
      by_cases e : am = a0
      · omega
      · have k2 := m4 (am + 1) (by omega) (by omega)
        have k3 : ¬ am + 1 ≤ rom c L n st.given p out' := fun h => k2 ((hq _).2 h)
        omega
    have he : lok c L n p st = ⟨out', st.left - am, st.given + bey c (L p) am, st.O ++ ids, st.Z ++ [(p, am)]⟩ := by
      unfold lok
      rw [hl, h2]
      simp only
      rw [hm2, hmin]
    rw [he]
    exact ⟨⟨h3, h4, by rw [hst.given, bey_er hs], by rw [hst.left]⟩, rfl⟩
end Go.Proofs.Ytdceahebkohbjab
