import Derived.Test.YtdceahebkohbjabScRg
namespace Go.Proofs.Ytdceahebkohbjab
open Go.RowKit
/-! The reference's plan and the plan over the sorted seats: room, who is put out. -/
def OutR (L : Nat → Se) (n : Nat) (Q : List Int) (out : Nat → Bool) : Prop := ∀ q, q < n → hasL Q (L q).id = out q
theorem freR_eq {c : Me} {S L : Nat → Se} {n : Nat} {Q : List Int} {out : Nat → Bool} {gv : Int} (hp : PO n S L) (hc1 : 1 ≤ c.bs) (hc2 : c.bs ≤ 256) (hb : ∀ q, q < n → okB c (L q).hn (L q).H) (ho : OutR L n Q out) : freR c S n (hasL Q) gv = fre c L n gv out := by
  unfold freR fre
  have e1 : cnt (hsR S n (hasL Q)) c.bs.toNat = cnt (hs L n out) c.bs.toNat := cnt_congr (fun b _ => by
    rw [Bool.eq_iff_iff, hsR_iff, hs_iff]
    constructor
    · rintro ⟨i, hi, h1, h2⟩
      obtain ⟨q, hq, e⟩ := hp.to_mem hi
      refine ⟨q, hq, ?_, ?_⟩
      · rw [← ho q hq, er_id e]; exact h1
      · rw [hasI_iff] at h2
        rw [has_iff, er_hn e, er_H e]; exact h2
    · rintro ⟨q, hq, h1, h2⟩
      obtain ⟨i, hi, e⟩ := hp.of_mem hq
      refine ⟨i, hi, ?_, ?_⟩
      · rw [← er_id e, ho q hq]; exact h1
      · rw [hasI_iff, ← er_hn e, ← er_H e]; exact (has_iff _ _).1 h2)
  have e2 : cnt (hs L n out) 256 = cnt (hs L n out) c.bs.toNat := cnt_cut (by omega) (fun b hb' => hs_none hb (by omega))
  rw [e1, e2]
theorem need_le {c : Me} (h : 1 ≤ c.bl) {y m : Int} : need c y ≤ m ↔ y ≤ m * c.bl := by
  unfold need
  rw [← Int.lt_add_one_iff, Int.ediv_lt_iff_lt_mul (by omega), Int.add_mul]
  omega
theorem room_eq {c : Me} {L : Nat → Se} {n : Nat} {gv : Int} {p : Nat} {out : Nat → Bool} {x : Int} (h1 : 1 ≤ c.bl) (hf : 0 ≤ fre c L n gv out) : bey c (L p) x ≤ fre c L n gv out ↔ x ≤ rom c L n gv p out := by
  unfold bey rom
  have h2 := need_le h1 (y := (L p).ca + x) (m := ((L p).hn : Int) + fre c L n gv out)
  generalize (((L p).hn : Int) + fre c L n gv out) * c.bl = t at *
  constructor
  · intro h
    have := h2.1 (by omega)
    omega
  · intro h
    have := h2.2 (by omega)
    omega
theorem fre_put (c : Me) (L : Nat → Se) (n : Nat) (gv : Int) (out : Nat → Bool) (y : Nat) : fre c L n gv out ≤ fre c L n gv (put out y) := by
  unfold fre
  have : cnt (hs L n (put out y)) 256 ≤ cnt (hs L n out) 256 := cnt_mono (fun b hb => by
    obtain ⟨q, hq, h1, h2⟩ := (hs_iff _ _ _ _).1 hb
    refine (hs_iff _ _ _ _).2 ⟨q, hq, ?_, h2⟩
    unfold put at h1
    split at h1
    · cases h1
    · exact h1) 256
  omega
theorem hasL_other {Q : List Int} {y x : Int} (h : y ≠ x) : hasL (Q ++ [y]) x = hasL Q x := by
  rw [Bool.eq_iff_iff]
  refine ⟨fun k => ?_, hasL_old⟩
  obtain ⟨i, hi, e⟩ := (hasL_iff _ _).1 k
  simp at hi
  by_cases hl : i < Q.length
  · rw [lI_app _ _ hl] at e
    exact (hasL_iff _ _).2 ⟨i, hl, e⟩
  · obtain rfl : i = Q.length := by omega
    rw [lI_last] at e
    exact absurd e h
theorem PO.lt {n : Nat} {S L : Nat → Se} (h : PO n S L) {p q : Nat} (hp : p < n) (hl : (L p).id < (L q).id) : p < q := by
  by_cases e : p = q
  · subst e; omega
  · by_cases k : q < p
    · have := h.up q p k hp
      omega
    · omega
theorem OutR.put {n : Nat} {S L : Nat → Se} {Q : List Int} {out : Nat → Bool} (hp : PO n S L) (h : OutR L n Q out) {y : Nat} (hy : y < n) : OutR L n (Q ++ [(L y).id]) (put out y) := fun q hq => by
  unfold Go.Proofs.Ytdceahebkohbjab.put
  by_cases e : q = y
  · rw [if_pos e, e, hasL_new]
  · rw [if_neg e, ← h q hq]
    refine hasL_other (fun k => ?_)
    by_cases l : q < y
    · have := hp.up q y l hy
      omega
    · have := hp.up y q (by omega) hq
      omega
/-- above y nobody is left -/
def Abv (L : Nat → Se) (n y : Nat) (out : Nat → Bool) : Prop := ∀ q, y < q → q < n → out q = true ∨ (L q).hn = 0
theorem ygR_none {n : Nat} {S L : Nat → Se} {Q : List Int} {out : Nat → Bool} (hp : PO n S L) (ho : OutR L n Q out) {p : Nat} (hpn : p < n) (ha : Abv L n p out) {b : Int} (h : YgR S n (L p).id (hasL Q) b) : b = -1 := by
  rcases h with ⟨h1, _⟩ | ⟨i, hi, _, ⟨k1, k2, k3⟩, _⟩
  · exact h1
  · exfalso
    obtain ⟨q, hq, e⟩ := hp.to_mem hi
    rw [← er_id e] at k1 k3
    rw [← er_hn e] at k2
    have hpq := hp.lt hpn k1
    rcases ha q hpq hq with g | g
    · rw [ho q hq, g] at k3; cases k3
    · omega
theorem ygR_some {n : Nat} {S L : Nat → Se} {Q : List Int} {out : Nat → Bool} (hp : PO n S L) (ho : OutR L n Q out) {p y : Nat} (hy : y < n) (hpy : p < y) (ha : Abv L n y out) (h1 : out y = false) (h2 : (L y).hn ≠ 0) {b : Int} (h : YgR S n (L p).id (hasL Q) b) : ∃ i : Nat, b = (i : Int) ∧ (S i).id = (L y).id := by
  obtain ⟨i0, hi0, e0⟩ := hp.of_mem hy
  have hc0 : cdY S (L p).id (hasL Q) i0 := ⟨by rw [← er_id e0]; exact hp.up p y hpy hy, by rw [← er_hn e0]; omega, by rw [← er_id e0, ho y hy]; exact h1⟩
  rcases h with ⟨_, h3⟩ | ⟨i, hi, hb, ⟨k1, k2, k3⟩, k4⟩
  · exact absurd hc0 (h3 i0 hi0)
  · refine ⟨i, hb, ?_⟩
    have hm := k4 i0 hi0 hc0
    rw [← er_id e0] at hm
    obtain ⟨q, hq, e⟩ := hp.to_mem hi
    rw [← er_id e] at k3 hm ⊢
    rw [← er_hn e] at k2
    by_cases hqy : y < q
    · exfalso
      rcases ha q hqy hq with g | g
      · rw [ho q hq, g] at k3; cases k3
      · omega
    · by_cases e2 : q = y
      · rw [e2]
      · have := hp.up q y (by omega) hy
        omega
theorem mdR_vict {c : Me} {S L : Nat → Se} {n : Nat} {gv : Int} {p : Nat} {x : Int} {s : Se} (hp : PO n S L) (hc1 : 1 ≤ c.bs) (hc2 : c.bs ≤ 256) (hc3 : 1 ≤ c.bl) (hb : ∀ q, q < n → okB c (L q).hn (L q).H) (hpn : p < n) (hs : er s = er (L p)) :
    ∀ (y : Nat), p ≤ y → y < n → ∀ (out : Nat → Bool) (Q : List Int) (ids : List Nat) (R : Option (List Int)), Abv L n y out → OutR L n Q out → 0 ≤ fre c L n gv out → MdR c S n gv s x Q R →
      (vict c L n gv p x y out ids = none → R = none) ∧ ∀ out' ids', vict c L n gv p x y out ids = some (out', ids') → ∃ js : List Nat, ids' = ids ++ js ∧ R = some (Q ++ js.map fun r => (L r).id) ∧ OutR L n (Q ++ js.map fun r => (L r).id) out' ∧ 0 ≤ fre c L n gv out' := by
  intro y
  induction y with
  | zero =>
    intro hpy _ out Q ids R ha ho hf hm
    obtain rfl : p = 0 := by omega
    rw [vict_eq c L n gv 0 x (Nat.le_refl _)]
    have hrm : bey c s x ≤ freR c S n (hasL Q) gv ↔ x ≤ rom c L n gv 0 out := by rw [bey_er hs, freR_eq hp hc1 hc2 hb ho]; exact room_eq hc3 hf
    by_cases hx : x ≤ rom c L n gv 0 out
    · rw [if_pos hx]
      refine ⟨fun h => (by cases h), fun out' ids' h => ?_⟩
      cases h
      cases hm with
      | ok _ => exact ⟨[], by simp, by simp, by simpa using ho, hf⟩
      | no h1 _ => exact absurd (hrm.2 hx) h1
      | go h1 _ _ _ => exact absurd (hrm.2 hx) h1
    · rw [if_neg hx, if_pos rfl]
      refine ⟨fun _ => ?_, fun _ _ h => by cases h⟩
      cases hm with
      | ok h1 => exact absurd (hrm.1 h1) hx
      | no _ _ => rfl
      | go _ _ h2 _ =>
        rw [er_id hs] at h2
        have := ygR_none hp ho hpn ha h2
        omega
  | succ y ih =>
    intro hpy hyn out Q ids R ha ho hf hm
    rw [vict_eq c L n gv p x hpy]
    have hrm : bey c s x ≤ freR c S n (hasL Q) gv ↔ x ≤ rom c L n gv p out := by rw [bey_er hs, freR_eq hp hc1 hc2 hb ho]; exact room_eq hc3 hf
    by_cases hx : x ≤ rom c L n gv p out
    · rw [if_pos hx]
      refine ⟨fun h => (by cases h), fun out' ids' h => ?_⟩
      cases h
      cases hm with
      | ok _ => exact ⟨[], by simp, by simp, by simpa using ho, hf⟩
      | no h1 _ => exact absurd (hrm.2 hx) h1
      | go h1 _ _ _ => exact absurd (hrm.2 hx) h1
    · rw [if_neg hx]
      by_cases hyp : y + 1 = p
      · rw [if_pos hyp]
        refine ⟨fun _ => ?_, fun _ _ h => by cases h⟩
        subst hyp
        cases hm with
        | ok h1 => exact absurd (hrm.1 h1) hx
        | no _ _ => rfl
        | go _ _ h2 _ =>
          rw [er_id hs] at h2
          have := ygR_none hp ho hpn ha h2
          omega
      · rw [if_neg hyp]
        have hy1 : y + 1 - 1 = y := by omega
        rw [hy1]
        by_cases hk : out (y + 1) = true ∨ (L (y + 1)).hn = 0
        · rw [if_pos hk]
          exact ih (by omega) (by omega) out Q ids R (fun q h1 h2 => by
            by_cases e : q = y + 1
            · rw [e]; exact hk
            · exact ha q (by omega) h2) ho hf hm
        · rw [if_neg hk]
          have k1 : out (y + 1) = false := by
            rw [Bool.eq_false_iff]
            exact fun e => hk (.inl e)
          have k2 : (L (y + 1)).hn ≠ 0 := fun e => hk (.inr e)
          cases hm with
          | ok h1 => exact absurd (hrm.1 h1) hx
          | no _ h2 =>
            rw [er_id hs] at h2
            obtain ⟨i, e, _⟩ := ygR_some hp ho hyn (by omega) ha k1 k2 h2
            omega
          | go _ _ h2 h3 =>
            rw [er_id hs] at h2
            obtain ⟨i, e, e2⟩ := ygR_some hp ho hyn (by omega) ha k1 k2 h2
            have e3 := Int.ofNat.inj e
            rw [e3, e2] at h3
            have hI := ih (by omega) (by omega) (put out (y + 1)) (Q ++ [(L (y + 1)).id]) (ids ++ [y + 1]) R (fun q h1 h2 => by
              unfold put
              by_cases e : q = y + 1
              · rw [if_pos e]; exact .inl rfl
              · rw [if_neg e]; exact ha q (by omega) h2) (ho.put hp hyn) (Int.le_trans hf (fre_put c L n gv out (y + 1))) h3
            refine ⟨hI.1, fun out' ids' h => ?_⟩
            obtain ⟨js, f1, f2, f3, f4⟩ := hI.2 out' ids' h
            refine ⟨(y + 1) :: js, by rw [f1]; simp, by rw [f2]; simp, ?_, f4⟩
            simpa using f3
end Go.Proofs.Ytdceahebkohbjab
