import Derived.Test.YtmhjpfjhppcfoaaGreatDoorMA
namespace Go.Proofs.YtmhjpfjhppcfoaaGreatDoor
open Go.RowKit
/-! The plan as data: seats, measures, what is free, who is put out, what each gets. -/
structure Se where
  id : Int
  kn : Int
  ca : Int
  wa : Int
  ho : Option Addr
  hn : Nat
  hc : Nat
  H : Nat → Int
def seZ : Se := ⟨0, 0, 0, 0, none, 0, 0, fun _ => 0⟩
structure Me where
  bs : Int
  bl : Int
  bu : Int
  ch : Int
  tr : Int
/-- the measures may be, for texts of so many tokens -/
def okM (c : Me) (k : Int) : Prop := 1 ≤ k ∧ k ≤ 64 ∧ 1 ≤ c.bs ∧ c.bs ≤ 256 ∧ 1 ≤ c.bl ∧ c.bl ≤ 16 ∧ k ≤ c.bs * c.bl ∧ 1 ≤ c.ch ∧ c.ch ≤ c.bu ∧ c.bu ≤ 1024 ∧ 1 ≤ c.tr ∧ c.tr ≤ 32
/-- so many blocks x positions need -/
def need (c : Me) (x : Int) : Int := (x + c.bl - 1) / c.bl
/-- different blocks of so many -/
def okB (c : Me) (m : Nat) (H : Nat → Int) : Prop := (∀ j, j < m → 0 ≤ H j ∧ H j < c.bs) ∧ ∀ i j, i < j → j < m → ¬ H i = H j
/-- a seat may be -/
def okS (c : Me) (s : Se) : Prop := 1 ≤ s.kn ∧ s.kn ≤ 64 ∧ 0 ≤ s.ca ∧ s.ca < s.kn ∧ need c s.ca ≤ (s.hn : Int) ∧ okB c s.hn s.H
def rst (s : Se) : Int := s.kn - 1 - s.ca
def has (s : Se) (b : Nat) : Bool := (List.range s.hn).any fun j => s.H j == (b : Int)
/-- some seat that is not out holds the block -/
def hs (S : Nat → Se) (n : Nat) (out : Nat → Bool) (b : Nat) : Bool := (List.range n).any fun p => !out p && has (S p) b
def cnt (f : Nat → Bool) : Nat → Nat
  | 0 => 0
  | m + 1 => cnt f m + (if f m then 1 else 0)
def fre (c : Me) (S : Nat → Se) (n : Nat) (g : Int) (out : Nat → Bool) : Int := c.bs - g - (cnt (hs S n out) 256 : Int)
def rom (c : Me) (S : Nat → Se) (n : Nat) (g : Int) (p : Nat) (out : Nat → Bool) : Int := (((S p).hn : Int) + fre c S n g out) * c.bl - (S p).ca
def put (out : Nat → Bool) (y : Nat) : Nat → Bool := fun q => if q = y then true else out q
/-- who is put out, from the youngest on -/
def vict (c : Me) (S : Nat → Se) (n : Nat) (g : Int) (p : Nat) (l : Int) : Nat → (Nat → Bool) → List Nat → Option ((Nat → Bool) × List Nat)
  | 0, out, ids => if l ≤ rom c S n g p out then some (out, ids) else none
  | y + 1, out, ids => if l ≤ rom c S n g p out then some (out, ids) else if y + 1 = p then none else
      if out (y + 1) = true ∨ (S (y + 1)).hn = 0 then vict c S n g p l y out ids else vict c S n g p l y (put out (y + 1)) (ids ++ [y + 1])
def mst (c : Me) (s : Se) (left : Int) : Int := if 0 < rst s then min (min (rst s) c.ch) left else min (min (max s.wa 1) c.tr) left
def lst (c : Me) (s : Se) (left : Int) : Int := if 0 < rst s then min (min (rst s) c.ch) left else 1
structure Pn where
  out : Nat → Bool
  left : Int
  given : Int
  O : List Nat
  Z : List (Nat × Int)
/-- the blocks that a seat needs beyond its own -/
def bey (c : Me) (s : Se) (x : Int) : Int := max (need c (s.ca + x) - (s.hn : Int)) 0
def lok (c : Me) (S : Nat → Se) (n : Nat) (p : Nat) (st : Pn) : Pn :=
  match vict c S n st.given p (lst c (S p) st.left) (n - 1) st.out [] with
  | none => st
  | some (out, ids) => ⟨out, st.left - min (mst c (S p) st.left) (rom c S n st.given p out), st.given + bey c (S p) (min (mst c (S p) st.left) (rom c S n st.given p out)), st.O ++ ids, st.Z ++ [(p, min (mst c (S p) st.left) (rom c S n st.given p out))]⟩
def mkN (c : Me) (S : Nat → Se) (n : Nat) (pk : Int → Bool) : Nat → Pn
  | 0 => ⟨fun _ => false, c.bu, 0, [], []⟩
  | p + 1 => if (mkN c S n pk p).left = 0 then mkN c S n pk p else if (mkN c S n pk p).out p = false ∧ pk (S p).id = true then lok c S n p (mkN c S n pk p) else mkN c S n pk p
/-- a slice of the plan -/
def slc (S : Nat → Se) (z : Nat × Int) : Int × Int × Int := if 0 < rst (S z.1) then ((S z.1).id, z.2, 0) else ((S z.1).id, 0, z.2)
/-! Counting. -/
theorem cnt_le (f : Nat → Bool) (m : Nat) : cnt f m ≤ m := by
  induction m with
  | zero => exact Nat.le_refl _
  | succ m ih => unfold cnt; split <;> omega
theorem cnt_mono {f g : Nat → Bool} (h : ∀ b, f b = true → g b = true) (m : Nat) : cnt f m ≤ cnt g m := by
  induction m with
  | zero => exact Nat.le_refl _
  | succ m ih =>
    unfold cnt
    by_cases e : f m = true
    · rw [if_pos e, if_pos (h m e)]; omega
    · rw [if_neg e]; omega
theorem cnt_congr {f g : Nat → Bool} {m : Nat} (h : ∀ b, b < m → f b = g b) : cnt f m = cnt g m := by
  induction m with
  | zero => rfl
  | succ m ih =>
    unfold cnt
    rw [ih (fun b hb => h b (by omega)), h m (by omega)]
theorem cnt_put {f : Nat → Bool} {b m : Nat} (hb : b < m) (h : f b = false) : cnt (put f b) m = cnt f m + 1 := by
  induction m with
  | zero => omega
  | succ m ih =>
    unfold cnt
    by_cases e : b = m
    · subst e
      have e1 : cnt (put f b) b = cnt f b := cnt_congr (fun q hq => by unfold put; rw [if_neg (by omega)])
      have e2 : put f b b = true := by unfold put; rw [if_pos rfl]
      rw [e1, e2, h]
      simp
    · have e2 : put f b m = f m := by unfold put; rw [if_neg (by omega)]
      rw [ih (by omega), e2]
      omega
theorem cnt_none {f : Nat → Bool} {m : Nat} (h : ∀ b, b < m → f b = false) : cnt f m = 0 := by
  induction m with
  | zero => rfl
  | succ m ih =>
    unfold cnt
    rw [ih (fun b hb => h b (by omega)), h m (by omega)]
    simp
theorem cnt_cut {f : Nat → Bool} {m k : Nat} (hk : m ≤ k) (h : ∀ b, m ≤ b → f b = false) : cnt f k = cnt f m := by
  induction k with
  | zero => obtain rfl : m = 0 := by omega
            rfl
  | succ k ih =>
    by_cases e : m = k + 1
    · rw [e]
    · have e1 := ih (by omega)
      show cnt f k + _ = _
      rw [e1, h k (by omega)]
      simp
/-- as many as a list of different numbers has -/
theorem cnt_or {f g : Nat → Bool} (m : Nat) : cnt (fun b => f b || g b) m ≤ cnt f m + cnt g m := by
  induction m with
  | zero => exact Nat.le_refl _
  | succ m ih =>
    unfold cnt
    cases f m <;> cases g m <;> simp <;> omega
theorem has_iff (s : Se) (b : Nat) : has s b = true ↔ ∃ j, j < s.hn ∧ s.H j = (b : Int) := by
  unfold has
  simp
theorem hs_iff (S : Nat → Se) (n : Nat) (out : Nat → Bool) (b : Nat) : hs S n out b = true ↔ ∃ p, p < n ∧ out p = false ∧ has (S p) b = true := by
  unfold hs
  simp
theorem has_none {c : Me} {s : Se} (h : okB c s.hn s.H) {b : Nat} (hb : c.bs ≤ (b : Int)) : has s b = false := by
  rw [Bool.eq_false_iff]
  intro q
  obtain ⟨j, hj, e⟩ := (has_iff s b).1 q
  have := (h.1 j hj).2
  omega
theorem hs_none {c : Me} {S : Nat → Se} {n : Nat} {out : Nat → Bool} (h : ∀ p, p < n → okB c (S p).hn (S p).H) {b : Nat} (hb : c.bs ≤ (b : Int)) : hs S n out b = false := by
  rw [Bool.eq_false_iff]
  intro q
  obtain ⟨p, hp, _, e⟩ := (hs_iff S n out b).1 q
  rw [has_none (h p hp) hb] at e
  cases e
/-- the first m blocks of a list, as a set -/
def hasN (H : Nat → Int) (m : Nat) (b : Nat) : Bool := (List.range m).any fun j => H j == (b : Int)
theorem hasN_iff (H : Nat → Int) (m b : Nat) : hasN H m b = true ↔ ∃ j, j < m ∧ H j = (b : Int) := by
  unfold hasN
  simp
theorem hasN_succ (H : Nat → Int) (m b : Nat) : hasN H (m + 1) b = (hasN H m b || H m == (b : Int)) := by
  unfold hasN
  rw [List.range_succ, List.any_append]
  simp
theorem hasN_cnt {c : Me} {H : Nat → Int} : ∀ {m : Nat}, okB c m H → c.bs ≤ 256 → cnt (hasN H m) 256 = m := by
  intro m
  induction m with
  | zero => intro _ _; exact cnt_none (fun b _ => rfl)
  | succ m ih =>
    intro h hc
    have ih' := ih ⟨fun j hj => h.1 j (by omega), fun i j hij hj => h.2 i j hij (by omega)⟩ hc
    obtain ⟨h0, h1⟩ := h.1 m (by omega)
    obtain ⟨x, hx⟩ : ∃ x : Nat, H m = (x : Int) := ⟨(H m).toNat, by omega⟩
    have e : cnt (hasN H (m + 1)) 256 = cnt (put (hasN H m) x) 256 := cnt_congr (fun b _ => by
      rw [hasN_succ]
      unfold put
      by_cases q : b = x
      · rw [if_pos q, hx, q]; simp
      · rw [if_neg q, hx]
        have : ((x : Int) == (b : Int)) = false := by simp; omega
        rw [this, Bool.or_false])
    have hf : hasN H m x = false := by
      rw [Bool.eq_false_iff]
      intro q
      obtain ⟨j, hj, ej⟩ := (hasN_iff H m x).1 q
      exact h.2 j m hj (by omega) (by rw [ej, hx])
    rw [e, cnt_put (by omega) hf, ih']
theorem has_hasN (s : Se) (b : Nat) : has s b = hasN s.H s.hn b := rfl
/-- no more different blocks than there are -/
theorem okB_le {c : Me} {m : Nat} {H : Nat → Int} (h : okB c m H) (hc : c.bs ≤ 256) (h1 : 1 ≤ c.bs) : (m : Int) ≤ c.bs := by
  have e := hasN_cnt h hc
  have k : cnt (hasN H m) 256 = cnt (hasN H m) c.bs.toNat := cnt_cut (by omega) (fun b hb => by
    rw [Bool.eq_false_iff]
    intro q
    obtain ⟨j, hj, ej⟩ := (hasN_iff H m b).1 q
    have := (h.1 j hj).2
    omega)
  have := cnt_le (hasN H m) c.bs.toNat
  omega
theorem need_iff {c : Me} (h : 1 ≤ c.bl) (x y : Int) : need c x ≤ y ↔ x ≤ y * c.bl := by
  unfold need
  have h0 : c.bl > 0 := by omega
  have e : (x + c.bl - 1) / c.bl ≤ y ↔ (x + c.bl - 1) / c.bl < y + 1 := by omega
  rw [e, Int.ediv_lt_iff_lt_mul h0, Int.add_mul]
  omega
end Go.Proofs.YtmhjpfjhppcfoaaGreatDoor
