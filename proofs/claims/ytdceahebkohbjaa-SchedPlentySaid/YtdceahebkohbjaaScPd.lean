import Derived.Test.YtdceahebkohbjaaScOd
namespace Go.Proofs.Ytdceahebkohbjaa
open Go.RowKit
/-! Where there is enough for all: everybody who is picked gets what is wanted, nobody is out. -/
def wS (c : Me) (L : Nat → Se) (pk : Int → Bool) : Nat → Int
  | 0 => 0
  | p + 1 => wS c L pk p + (if pk (L p).id = true then wan c (L p) else 0)
def gS (c : Me) (L : Nat → Se) (pk : Int → Bool) : Nat → Int
  | 0 => 0
  | p + 1 => gS c L pk p + (if pk (L p).id = true then bey c (L p) (wan c (L p)) else 0)
def hS (L : Nat → Se) : Nat → Int
  | 0 => 0
  | p + 1 => hS L p + ((L p).hn : Int)
def zS (c : Me) (L : Nat → Se) (pk : Int → Bool) : Nat → List (Nat × Int)
  | 0 => []
  | p + 1 => if pk (L p).id = true then zS c L pk p ++ [(p, wan c (L p))] else zS c L pk p
theorem wan_pos {c : Me} (hc : okM c 1) (s : Se) : 1 ≤ wan c s := by
  have := hc.2.2.2.2.2.2.2.1
  have := hc.2.2.2.2.2.2.2.2.2.2.1
  unfold wan
  split <;> omega
theorem wS_mono {c : Me} (hc : okM c 1) (L : Nat → Se) (pk : Int → Bool) (p : Nat) : ∀ k, wS c L pk p ≤ wS c L pk (p + k)
  | 0 => Int.le_refl _
  | k + 1 => by
    have := wS_mono hc L pk p k
    have h := wan_pos hc (L (p + k))
    show _ ≤ wS c L pk (p + k) + (if pk (L (p + k)).id = true then wan c (L (p + k)) else 0)
    split <;> omega
theorem gS_mono (c : Me) (L : Nat → Se) (pk : Int → Bool) (p : Nat) : ∀ k, gS c L pk p ≤ gS c L pk (p + k)
  | 0 => Int.le_refl _
  | k + 1 => by
    have := gS_mono c L pk p k
    have h : 0 ≤ bey c (L (p + k)) (wan c (L (p + k))) := by unfold bey; omega
    show _ ≤ gS c L pk (p + k) + (if pk (L (p + k)).id = true then bey c (L (p + k)) (wan c (L (p + k))) else 0)
    split <;> omega
theorem hs_cnt {c : Me} {L : Nat → Se} {n : Nat} (hc : c.bs ≤ 256) : ∀ p, p ≤ n → (∀ i, i < n → okB c (L i).hn (L i).H) → ∀ out, (cnt (hs L p out) 256 : Int) ≤ hS L p
  | 0, _, _, out => by
    have : cnt (hs L 0 out) 256 = 0 := cnt_none (fun b _ => rfl)
    rw [this]
    exact Int.le_refl _
  | p + 1, hp, hk, out => by
    have ih := hs_cnt hc p (by omega) hk out
    have h1 : cnt (hs L (p + 1) out) 256 ≤ cnt (fun b => hs L p out b || has (L p) b) 256 := cnt_mono (fun b hb => by
      rw [hs_succ] at hb
      simp at hb ⊢
      rcases hb with h | h
      · exact Or.inl h
      · exact Or.inr h.2) 256
    have h2 := cnt_or (f := hs L p out) (g := has (L p)) 256
    have h3 : cnt (has (L p)) 256 = (L p).hn := hasN_cnt (hk p (by omega)) hc
    show _ ≤ hS L p + _
    omega
theorem plenty {c : Me} {L : Nat → Se} {n : Nat} {pk : Int → Bool} (hc : okM c 1) (hk : ∀ i, i < n → okS c (L i)) (hw : wS c L pk n ≤ c.bu) (hb : hS L n + gS c L pk n ≤ c.bs) :
    ∀ p, p ≤ n → (mkN c L n pk p).out = (fun _ => false) ∧ (mkN c L n pk p).left = c.bu - wS c L pk p ∧ (mkN c L n pk p).given = gS c L pk p ∧ (mkN c L n pk p).O = [] ∧ (mkN c L n pk p).Z = zS c L pk p
  | 0, _ => ⟨rfl, by show c.bu = c.bu - 0; omega, rfl, rfl, rfl⟩
  | p + 1, hp => by
    obtain ⟨i1, i2, i3, i4, i5⟩ := plenty hc hk hw hb p (by omega)
    have es : mkN c L n pk (p + 1) = if (mkN c L n pk p).left = 0 then mkN c L n pk p else if (mkN c L n pk p).out p = false ∧ pk (L p).id = true then lok c L n p (mkN c L n pk p) else mkN c L n pk p := rfl
    have ew : wS c L pk (p + 1) = wS c L pk p + (if pk (L p).id = true then wan c (L p) else 0) := rfl
    have eg : gS c L pk (p + 1) = gS c L pk p + (if pk (L p).id = true then bey c (L p) (wan c (L p)) else 0) := rfl
    have ez : zS c L pk (p + 1) = if pk (L p).id = true then zS c L pk p ++ [(p, wan c (L p))] else zS c L pk p := rfl
    have m1 := wS_mono hc L pk (p + 1) (n - (p + 1))
    have m2 := gS_mono c L pk (p + 1) (n - (p + 1))
    rw [show p + 1 + (n - (p + 1)) = n by omega] at m1 m2
    by_cases hpk : pk (L p).id = true
    · rw [if_pos hpk] at ew eg ez
      have hwp := wan_pos hc (L p)
      have hl : ¬ (mkN c L n pk p).left = 0 := by rw [i2]; omega
      rw [es, if_neg hl, if_pos ⟨by rw [i1], hpk⟩]
      have hcn := hs_cnt hc.2.2.2.1 n (Nat.le_refl _) (fun i hi => (hk i hi).2.2.2.2.2) (fun _ => false)
      have hro : wan c (L p) ≤ rom c L n (gS c L pk p) p (fun _ => false) := by
        unfold rom fre
        have hy : need c ((L p).ca + wan c (L p)) ≤ ((L p).hn : Int) + (c.bs - gS c L pk p - (cnt (hs L n fun _ => false) 256 : Int)) := by
          have : need c ((L p).ca + wan c (L p)) - ((L p).hn : Int) ≤ bey c (L p) (wan c (L p)) := by unfold bey; omega
          omega
        have := (need_iff hc.2.2.2.2.1 _ _).1 hy
        omega
      have hms : mst c (L p) (c.bu - wS c L pk p) = wan c (L p) := by rw [mst_wan]; omega
      have hls := (lst_bd (c := c) (s := L p) (left := c.bu - wS c L pk p) hc (by omega)).2
      have hv : vict c L n (gS c L pk p) p (lst c (L p) (c.bu - wS c L pk p)) (n - 1) (fun _ => false) [] = some ((fun _ => false), []) := by
        cases n - 1 <;> (unfold vict; rw [if_pos (by omega)])
      unfold lok
      rw [i1, i2, i3, i4, i5, hv]
      simp only [hms, Int.min_eq_left hro]
      refine ⟨?_, ?_, ?_, ?_, ?_⟩ <;> first | trivial | omega | (rw [ez]; done) | rfl | fail
    · rw [if_neg hpk] at ew eg ez
      have : mkN c L n pk (p + 1) = mkN c L n pk p := by
        rw [es]
        split
        · rfl
        · rw [if_neg (fun h => hpk h.2)]
      rw [this]
      exact ⟨i1, by omega, by omega, i4, by rw [i5, ez]⟩
end Go.Proofs.Ytdceahebkohbjaa
