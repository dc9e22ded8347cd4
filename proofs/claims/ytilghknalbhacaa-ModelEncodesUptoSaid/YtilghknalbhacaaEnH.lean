import Derived.Test.YtilghknalbhacaaEnE
import Derived.Test.YtilghknalbhacaaCpE
namespace Go.Proofs.Ytilghknalbhacaa
open Go.RowKit
/-! A layer as bytes. -/
/-- the gains and the first r matrices -/
def mB (l : LyD) : Nat → List Int
  | 0 => nbL l.n1.f l.n1.n ++ nbL l.n2.f l.n2.n
  | r + 1 => mB l r ++ nbL (mtI l r).f (mtI l r).n
theorem mB_zero (l : LyD) : mB l 0 = nbL l.n1.f l.n1.n ++ nbL l.n2.f l.n2.n := rfl
theorem mB_succ (l : LyD) (r : Nat) : mB l (r + 1) = mB l r ++ nbL (mtI l r).f (mtI l r).n := rfl
def lyB (l : LyD) : List Int := mB l 7 ++ nbL l.sh 7
theorem mB_byt (l : LyD) : ∀ r, Byt (mB l r)
  | 0 => (nbL_byt _ _).app (nbL_byt _ _)
  | r + 1 => (mB_byt l r).app (nbL_byt _ _)
theorem lyB_byt (l : LyD) : Byt (lyB l) := (mB_byt l 7).app (nbL_byt _ _)
theorem mB_len {l : LyD} (hB : LyB l) (b1 : l.n1.n ≤ 1048576) (b2 : l.n2.n ≤ 1048576) : ∀ r, (mB l r).length ≤ (r + 2) * 1048576
  | 0 => by rw [mB_zero, List.length_append, nbL_len, nbL_len]; omega
  | r + 1 => by
    have := mB_len hB b1 b2 r
    have := hB.mat r
    rw [mB_succ, List.length_append, nbL_len]
    omega
theorem lyB_len {l : LyD} (hB : LyB l) (b1 : l.n1.n ≤ 1048576) (b2 : l.n2.n ≤ 1048576) : 0 < (lyB l).length ∧ (lyB l).length ≤ 10485760 := by
  have := mB_len hB b1 b2 7
  unfold lyB
  rw [List.length_append, nbL_len]
  omega
/-- a list that was there and one of the call's own -/
theorem rd_off {w z : World} {ao : Option Addr} {sz n cap : Nat} {cs : Nat → Value} (hs : 0 < sz) (h : RdA w ao sz n cap cs) {v : Value} {e : TypeId} {m : Nat} {c2 : Nat → Value} {b0 : Nat} (hb : w.heap.size ≤ b0) (ho : Own z b0 e 1 v m c2) : 0 < n → ∀ b off, ao = some ⟨b, off, none⟩ → v.ownBlock ≠ some b := fun h0 b off e9 q => by
  obtain ⟨b', off', e', hc⟩ := h.at_ h0
  rw [e9] at e'
  injection e' with e'
  injection e' with e1 _
  subst e1
  have h1 := lt_of_cell (hc 0 (Nat.mul_pos h0 hs))
  have h2 := (ho.lt _ q).1
  omega
theorem addN_in {w z : World} (f0 : Below w.heap.size w z) {b0 : Nat} (hw : w.heap.size ≤ b0) (hz : b0 ≤ z.heap.size) {v : Value} {L : List Int} (hv : OwB z b0 v L) (hL : L.length ≤ 1073741824) {ao : Option Addr} {n cap : Nat} {f : Nat → Int} (hr : RdA w ao 1 n cap (fun i => .int .i8 (f i))) (hn : n ≤ 1048576) (hf : ∀ i, i < n → -128 ≤ f i ∧ f i ≤ 127) :
    Calls Try.prog 79 #[v, .slice ao n cap] z fun e w' => ∃ v', e = .returned v' ∧ OwB w' b0 v' (L ++ nbL f n) ∧ Below b0 z w' := (addN_any hv hz hL (hr.fresh f0) hn (rd_off (by decide) hr hw hv) hf).mono fun e w' ⟨v', h1, h2, h3⟩ => ⟨v', h1, h2, h3.below (Below.refl _ _) hv (Nat.le_refl _) hz⟩
theorem narB_in {w z : World} (f0 : Below w.heap.size w z) {b0 : Nat} (hw : w.heap.size ≤ b0) (hz : b0 ≤ z.heap.size) {v : Value} {L : List Int} (hv : OwB z b0 v L) (hL : L.length ≤ 1073741824) {ao : Option Addr} {n cap : Nat} {f : Nat → Int} (hr : RdA w ao 1 n cap (fun i => .int .i8 (f i))) (hn : n ≤ 1048576) (hf : ∀ i, i < n → -128 ≤ f i ∧ f i ≤ 127) :
    Calls Try.prog 31 #[v, .slice ao n cap] z fun e w' => ∃ v', e = .returned v' ∧ OwB w' b0 v' (L ++ nbL f n) ∧ Below b0 z w' := (narB_any hv hz hL (hr.fresh f0) hn (rd_off (by decide) hr hw hv) hf).mono fun e w' ⟨v', h1, h2, h3⟩ => ⟨v', h1, h2, h3.below (Below.refl _ _) hv (Nat.le_refl _) hz⟩
end Go.Proofs.Ytilghknalbhacaa
