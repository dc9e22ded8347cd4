import Derived.Test.YtlbmgknlbhakoabTxK
namespace Go.Proofs.Ytlbmgknlbhakoab
open Go.RowKit
/-! A stream behind its making; TextLate. -/
theorem vd_byt {d : VD} (hB : ∀ i, i < d.nb → 0 ≤ d.B i ∧ d.B i ≤ 255) : ∀ k, Byt (d.pc k) := by
  intro k
  induction k using Nat.strongRecOn with
  | _ k ih =>
    rw [VD.pc]
    split
    · exact byt_nil
    · split
      · rename_i h0 h
        intro x hx
        simp at hx
        subst hx
        exact hB (k - 1) (by omega)
      · split
        · rename_i h1 h2 h3
          exact (ih _ h3.1).app (ih _ h3.2)
        · exact byt_nil
theorem feed_any {w : World} {S : Nat} {K : Nat → Prop} {d : VD} {sts : List (List Int)} {wv : Value} {x : List Int} {o : Bool} (hC : Cst d sts) (hS : StA w S K d sts wv x o) (st : Stl sts x o)
    {ko : Option Addr} {ck n : Nat} {ts : List Nat} (en : ts.length = n) (hk : RdA w ko 1 n ck (fun i => .int .i64 ((ts.getD i 0 : Nat) : Int))) (hko : ∀ b off, ko = some ⟨b, off, none⟩ → wv.ownBlock ≠ some b ∧ b ≠ S) (hgd : ∀ i, i < n → ts.getD i 0 < d.nb + 1 + d.np) (hn : n ≤ 2147483700) :
    Calls Try.prog 10 #[.pointer (some ⟨S, 0, none⟩), .slice ko n ck] w fun e w' => ∃ v, e = .returned (.tuple #[v, .int .i64 0]) ∧ Fed w S K d sts wv x o ts v w' := by
  subst en
  cases o with
  | true =>
    refine (feed_over hC hS hk hgd hn).mono ?_
    rintro e w' ⟨rfl, rfl⟩
    exact ⟨_, rfl, ⟨by simpa [fdO] using ownB_nil _ _, fun b hb => by simp [Value.ownBlock] at hb, ⟨wv, by simpa [fdX, fdE] using hS, fun _ => rfl, fun h => nomatch h⟩, Chg.refl _ _⟩⟩
  | false =>
    have h18 := waN_18 hC.ok x
    have hx : waN sts x = x.length ∧ Byt x := st
    exact feed_ok hC hS hx.2 (by omega) hk hko hgd hn
/-- A stream that was made behind w1. -/
structure Sit (w1 wX : World) (S : Nat) (K : Nat → Prop) (d : VD) (sts : List (List Int)) (wv : Value) (x : List Int) (o : Bool) : Prop where
  st : StA wX S K d sts wv x o
  low : Below w1.heap.size w1 wX
  hS : w1.heap.size ≤ S
  hw : ∀ b, wv.ownBlock = some b → w1.heap.size ≤ b
theorem Sit.fresh {w1 wX wY : World} {S : Nat} {K : Nat → Prop} {d : VD} {sts : List (List Int)} {wv : Value} {x : List Int} {o : Bool} (h : Sit w1 wX S K d sts wv x o) (f : Below wX.heap.size wX wY) : Sit w1 wY S K d sts wv x o :=
  ⟨h.st.fresh f, fresh_trans h.low f, h.hS, h.hw⟩
theorem Sit.fed {w1 wX wY : World} {S : Nat} {K : Nat → Prop} {d : VD} {sts : List (List Int)} {wv v : Value} {x : List Int} {o : Bool} {ts : List Nat} (h : Sit w1 wX S K d sts wv x o) (f : Fed wX S K d sts wv x o ts v wY) : ∃ wv', Sit w1 wY S K d sts wv' (fdX d sts x o ts) (fdE d sts x o ts) ∧ (o = true → wv' = wv) ∧ (o = false → ∀ b, wv'.ownBlock = some b → wX.heap.size ≤ b ∧ v.ownBlock ≠ some b) := by
  obtain ⟨wv', hS, h1, h2⟩ := f.st
  refine ⟨wv', ⟨hS, f.below h.low h.low.size h.hS h.hw, h.hS, fun b hb => ?_⟩, h1, h2⟩
  cases o with
  | true => rw [h1 rfl] at hb; exact h.hw b hb
  | false => exact Nat.le_trans h.low.size (h2 rfl b hb).1
theorem Sit.closed {w1 wX wY : World} {S : Nat} {K : Nat → Prop} {d : VD} {sts : List (List Int)} {wv : Value} {x : List Int} {o : Bool} (h : Sit w1 wX S K d sts wv x o) (h2 : StA wY S K d sts (.slice none 0 0) [] true) (c : Chg wX wY (fun b => b = S)) : Sit w1 wY S K d sts (.slice none 0 0) [] true :=
  ⟨h2, c.below h.low h.low.size (fun b e => by have := h.hS; omega), h.hS, fun b hb => by simp [Value.ownBlock] at hb⟩
theorem stl_nil (sts : List (List Int)) : Stl sts [] true := rfl
theorem rt_good {d : VD} (hR : d.Right) (may : Bool) (T : Nat → Int) (n : Nat) : ∀ i, i < n → (rtL d may T n).getD i 0 < d.nb + 1 + d.np := fun i hi => by
  obtain ⟨z1, z2, z3⟩ := hR.cnt
  rw [rtL_get d may T hi]
  exact rtN_lt (by omega) may (T i)
end Go.Proofs.Ytlbmgknlbhakoab
