import Derived.Test.YteiocgciblogdabVEnc
namespace Go.Proofs.Yteiocgciblogdab
open Go.RowKit
/-! Whether a pair stands in a list. -/
def stands (p q : Int) : List Int → Prop
  | [] => False
  | [_] => False
  | x :: y :: r => (x = p ∧ y = q) ∨ stands p q (y :: r)
theorem stands_iff (p q : Int) : ∀ (l : List Int), stands p q l ↔ ∃ i, i + 1 < l.length ∧ l.getD i 0 = p ∧ l.getD (i + 1) 0 = q
  | [] => by simp [stands]
  | [x] => by simp [stands]
  | x :: y :: r => by
    rw [stands, stands_iff p q (y :: r)]
    constructor
    · rintro (⟨h1, h2⟩ | ⟨i, hi, h1, h2⟩)
      · exact ⟨0, by simp, by simpa using h1, by simpa using h2⟩
      · exact ⟨i + 1, by simp at hi ⊢; omega, by simpa using h1, by simpa using h2⟩
    · rintro ⟨i, hi, h1, h2⟩
      cases i with
      | zero => exact .inl ⟨by simpa using h1, by simpa using h2⟩
      | succ i => exact .inr ⟨i, by simp at hi ⊢; omega, by simpa using h1, by simpa using h2⟩
theorem join_none {p q t : Int} : ∀ {l : List Int}, ¬ stands p q l → joinL p q t l = l
  | [], _ => by simp [joinL]
  | [x], _ => by simp [joinL]
  | x :: y :: r, h => by
    rw [stands] at h
    rw [joinL, if_neg (fun e => h (.inl e)), join_none (fun e => h (.inr e))]
/-- the first token of what is joined: as it was, or the new one -/
theorem join_head {p q t : Int} : ∀ (y : Int) (r : List Int), ∃ z s, joinL p q t (y :: r) = z :: s ∧ (z = t ∨ z = y)
  | y, [] => ⟨y, [], by simp [joinL], .inr rfl⟩
  | y, z :: r => by
    rw [joinL]
    split
    · exact ⟨t, _, rfl, .inl rfl⟩
    · exact ⟨y, _, rfl, .inr rfl⟩
theorem join_gone {p q t : Int} (hp : p ≠ t) (hq : q ≠ t) : ∀ (l : List Int), ¬ stands p q (joinL p q t l)
  | [] => by simp [joinL, stands]
  | [x] => by simp [joinL, stands]
  | x :: y :: r => by
    rw [joinL]
    split
    · have ih := join_gone hp hq r
      cases hr : joinL p q t r with
      | nil => simp [stands]
      | cons a s =>
        rw [hr] at ih
        rw [stands]
        rintro (⟨e, _⟩ | h)
        · exact hp e.symm
        · exact ih h
    · rename_i hn
      have ih := join_gone hp hq (y :: r)
      obtain ⟨z, s, e, hz⟩ := join_head (p := p) (q := q) (t := t) y r
      rw [e] at ih ⊢
      rw [stands]
      rintro (⟨e1, e2⟩ | h)
      · rcases hz with rfl | rfl
        · exact hq e2.symm
        · exact hn ⟨e1, e2⟩
      · exact ih h
/-- a pair without the new token stood before -/
theorem join_old {p q t a b : Int} (ha : a ≠ t) (hb : b ≠ t) : ∀ (l : List Int), stands a b (joinL p q t l) → stands a b l
  | [] => by simp [joinL]
  | [x] => by simp [joinL]
  | x :: y :: r => by
    rw [joinL]
    split
    · intro h
      have ih := join_old (p := p) (q := q) ha hb r
      cases hr : joinL p q t r with
      | nil => rw [hr] at h; simp [stands] at h
      | cons c s =>
        rw [hr] at h ih
        rw [stands] at h
        rcases h with ⟨e, _⟩ | h
        · exact absurd e.symm ha
        · rw [stands]
          cases r with
          | nil => simp [joinL] at hr
          | cons d r' => rw [stands]; exact .inr (.inr (ih h))
    · intro h
      have ih := join_old (p := p) (q := q) ha hb (y :: r)
      obtain ⟨z, s, e, hz⟩ := join_head (p := p) (q := q) (t := t) y r
      rw [e] at h ih
      rw [stands] at h ⊢
      rcases h with ⟨e1, e2⟩ | h
      · rcases hz with rfl | rfl
        · exact absurd e2.symm hb
        · exact .inl ⟨e1, e2⟩
      · exact .inr (ih h)
/-- behind k pairs none of them stands -/
theorem VD.enc_settled (d : VD) (hR : d.Right) (l : List Int) : ∀ k, k ≤ d.np → ∀ j, j < k → ¬ stands (d.P j) (d.Q j) (d.encL l k)
  | 0, _, j, hj => by omega
  | k + 1, h, j, hj => by
    rw [VD.encL]
    obtain ⟨a1, a2, a3, a4⟩ := hR.ok j (by omega)
    by_cases e : j = k
    · subst e
      exact join_gone (by omega) (by omega) _
    · intro hs
      exact VD.enc_settled d hR l k (by omega) j (by omega) (join_old (by omega) (by omega) _ hs)
theorem VD.enc_skip (d : VD) (l : List Int) {k : Nat} : ∀ (m : Nat), (∀ j, k ≤ j → j < k + m → ¬ stands (d.P j) (d.Q j) (d.encL l k)) → d.encL l (k + m) = d.encL l k
  | 0, _ => rfl
  | m + 1, h => by
    have ih := VD.enc_skip d l m (fun j h1 h2 => h j h1 (by omega))
    show joinL (d.P (k + m)) (d.Q (k + m)) (1 + (d.nb : Int) + ((k + m : Nat) : Int)) (d.encL l (k + m)) = _
    rw [ih, join_none (h (k + m) (by omega) (by omega))]
set_option maxRecDepth 20000 in
set_option maxHeartbeats 4000000 in
theorem stands_ref {w : World} {ao : Option Addr} {cap : Nat} {l : List Int} (ha : RdA w ao 1 l.length cap (fun j => .int .i64 (l.getD j 0))) (hn : l.length ≤ 1073741824) (p q : Int) (r : Bool) (hr : r = true ↔ stands p q l) :
    Calls Try.prog 35 #[.slice ao l.length cap, .agg #[.int .i64 p, .int .i64 q]] w fun e w' => e = .returned (.bool r) ∧ Below w.heap.size w w' := by
  have HR := hidd (hr.trans (stands_iff p q l))
  clear hr
  obtain ⟨n, en⟩ : ∃ n, n = l.length := ⟨_, rfl⟩
  have EN := hidd en
  rw [← en] at ha hn HR
  rw [← en]
  clear en
  have hf0 := fresh_alloc w (.cells #[.int .i64 p, .int .i64 q] 48)
  have K := row2_new w 48 (.int .i64 p) (.int .i64 q)
  go_enter Try.func35, Try.ntmps35
  go_wp2
  generalize w.alloc (.cells #[.int .i64 p, .int .i64 q] 48) = w1 at *
  go_loopw [5] (fun i wr => ∃ k : Nat, 1 ≤ k ∧ (k ≤ n ∨ k = 1) ∧ i = .int .i64 k ∧ Hid (∀ i, i + 1 < k → ¬ (l.getD i 0 = p ∧ l.getD (i + 1) 0 = q)) ∧ Below w1.heap.size w1 wr) (fun i _ => n - (intOf i).toNat)
  case atStart => exact ⟨1, by omega, .inr rfl, rfl, (fun i hi => absurd hi (by omega)), Below.refl _ _⟩
  case round =>
    obtain ⟨k, hk1, hk, rfl, HN, hfb⟩ := hrel
    have hf := fresh_trans hf0 hfb
    obtain ⟨y0, y1⟩ := row2 (K.of_block (hfb.block _ K.lt))
    by_cases hlt : k < n
    · obtain ⟨i, rfl⟩ : ∃ i, k = i + 1 := ⟨k - 1, by omega⟩
      obtain ⟨b1, o1, rfl, h1⟩ := (ha.fresh hf).one (by omega)
      have c1 := h1 i (by omega)
      have c2 := h1 (i + 1) hlt
      rw [show i = i + 1 - 1 by omega] at c1
      clear h1
      have i1 : (0 : Int) ≤ (i : Int) := Int.natCast_nonneg _
      have i2 : (i : Int) < (n : Int) := by omega
      have i3 : (i : Int) + 1 < (n : Int) := by omega
      rw [show i + 1 - 1 = i by omega] at c1
      by_cases e : l.getD i 0 = p ∧ l.getD (i + 1) 0 = q
      · obtain rfl : r = true := HR.out.2 ⟨i, hlt, e⟩
        rw [e.1] at c1
        rw [e.2] at c2
        clear e
        go_wp2
        go_quiet (fail)
        go_wp2
        go_ret
        exact ⟨rfl, below_drewN hf _⟩
      · have HE := hidd e
        have HN2 : Hid (∀ j, j + 1 < i + 1 + 1 → ¬ (l.getD j 0 = p ∧ l.getD (j + 1) 0 = q)) := fun j hj => if h : j = i then h ▸ HE.out else HN.out j (by omega)
        obtain ⟨A, eA⟩ : ∃ A, A = l.getD i 0 := ⟨_, rfl⟩
        obtain ⟨B, eB⟩ : ∃ B, B = l.getD (i + 1) 0 := ⟨_, rfl⟩
        rw [← eA] at c1 e
        rw [← eB] at c2 e
        clear eA eB
        by_cases e1 : A = p
        · have e2 : ¬ B = q := fun h => e ⟨e1, h⟩
          subst e1
          have hd : (B == q) = false := by simp [e2]
          clear e
          go_wp2
          go_quiet (fail)
          go_wp2
          go_roundw
          case rel => exact ⟨i + 1 + 1, by omega, .inl (by omega), by go_num, HN2.out, below_drewN hfb _⟩
          case measure => simp [intOf]; omega
        · have hd : (A == p) = false := by simp [e1]
          have hd' : decide (A = p) = false := by simp [e1]
          clear e
          go_wp2
          go_quiet (fail)
          go_wp2
          go_roundw
          case rel => exact ⟨i + 1 + 1, by omega, .inl (by omega), by go_num, HN2.out, below_drewN hfb _⟩
          case measure => simp [intOf]; omega
    · obtain rfl : r = false := by
        cases r with
        | false => rfl
        | true =>
          obtain ⟨i, hi, h⟩ := HR.out.1 rfl
          exact absurd h (HN.out i (by omega))
      go_wp2
      go_ret
      exact ⟨rfl, hf⟩
end Go.Proofs.Yteiocgciblogdab
