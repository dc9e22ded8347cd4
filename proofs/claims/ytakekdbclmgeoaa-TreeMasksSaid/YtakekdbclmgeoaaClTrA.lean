import Derived.Test.YtakekdbclmgeoaaRows
import Derived.Test.YtakekdbclmgeoaaClOwn
import Derived.Test.YtakekdbclmgeoaaClLat
import Derived.RangeFuncRecord
namespace Go.Proofs.Ytakekdbclmgeoaa.Cl
open Go.RowKit
/-! Nodes in memory; EqNodes, CopyNodes, spareNodes, nodesStay. -/
theorem infoN : (Try.prog.info? 54).map (fun i => (i.zero, i.size, i.bytes)) = some (some (.agg #[.int .i64 0, .int .i64 0, .int .i64 0]), 3, 24) := by kernel_rfl
def nds (P T D : Nat → Int) : Nat → Value := fun j => if j % 3 = 0 then .int .i64 (P (j / 3)) else if j % 3 = 1 then .int .i64 (T (j / 3)) else .int .i64 (D (j / 3))
theorem nds_0 (P T D : Nat → Int) (i : Nat) : nds P T D (i * 3) = .int .i64 (P i) := by
  unfold nds
  rw [if_pos (by omega), show i * 3 / 3 = i by omega]
theorem nds_1 (P T D : Nat → Int) (i : Nat) : nds P T D (i * 3 + 1) = .int .i64 (T i) := by
  unfold nds
  rw [if_neg (by omega), if_pos (by omega), show (i * 3 + 1) / 3 = i by omega]
theorem nds_2 (P T D : Nat → Int) (i : Nat) : nds P T D (i * 3 + 2) = .int .i64 (D i) := by
  unfold nds
  rw [if_neg (by omega), if_neg (by omega), show (i * 3 + 2) / 3 = i by omega]
theorem nds_one (P T D : Nat → Int) (j : Nat) : (nds P T D j).oneCell' = true := by
  unfold nds
  split
  · rfl
  · split <;> rfl
theorem nds_congr {P T D P' T' D' : Nat → Int} {n : Nat} (h : ∀ i, i < n → P i = P' i ∧ T i = T' i ∧ D i = D' i) {j : Nat} (hj : j < n * 3) : nds P T D j = nds P' T' D' j := by
  obtain ⟨h1, h2, h3⟩ := h (j / 3) (by omega)
  unfold nds
  rw [h1, h2, h3]
theorem own_rda {w : World} {base : Nat} {e : TypeId} {sz : Nat} {u : Option Addr} {m c n : Nat} {cs : Nat → Value} (h : Own w base e sz (.slice u m c) n cs) : RdA w u sz n c cs := by
  obtain ⟨u', c', e', hr⟩ := h.rd
  cases e'
  exact hr
theorem RdA.node {w : World} {ao : Option Addr} {n cap : Nat} {P T D : Nat → Int} (h : RdA w ao 3 n cap (nds P T D)) (hn : 0 < n) : ∃ b o, ao = some ⟨b, o, none⟩ ∧ ∀ i, i < n → w.cell? ⟨b, o + i * 3, none⟩ = some (.int .i64 (P i)) ∧ w.cell? ⟨b, o + i * 3 + 1, none⟩ = some (.int .i64 (T i)) ∧ w.cell? ⟨b, o + i * 3 + 2, none⟩ = some (.int .i64 (D i)) := by
  obtain ⟨b, o, e, hc⟩ := h.at_ hn
  refine ⟨b, o, e, fun i hi => ?_⟩
  have c0 := hc (i * 3) (by omega)
  have c1 := hc (i * 3 + 1) (by omega)
  have c2 := hc (i * 3 + 2) (by omega)
  rw [nds_0] at c0
  rw [nds_1, ← Nat.add_assoc] at c1
  rw [nds_2, ← Nat.add_assoc] at c2
  exact ⟨c0, c1, c2⟩
theorem RdA.firsts {w : World} {ao : Option Addr} {sz n m cap : Nat} {cs : Nat → Value} (h : RdA w ao sz n cap cs) (hm : m ≤ n) : RdA w ao sz m cap cs :=
  ⟨by have := h.le; omega, h.top, fun h0 => by
    obtain ⟨b, off, e, hc⟩ := h.at_ (by omega)
    exact ⟨b, off, e, fun j hj => hc j (Nat.lt_of_lt_of_le hj (Nat.mul_le_mul_right sz hm))⟩⟩
/-- the nodes with a mark behind them -/
def mkN (n : Nat) (f : Nat → Int) (x : Int) : Nat → Int := fun i => if i < n then f i else x
theorem mkN_lt {n i : Nat} (f : Nat → Int) (x : Int) (h : i < n) : mkN n f x i = f i := if_pos h
theorem mkN_at (n : Nat) (f : Nat → Int) (x : Int) : mkN n f x n = x := if_neg (by omega)
def mkd (n : Nat) (P T D : Nat → Int) : Nat → Value := nds (mkN n P (-75)) (mkN n T (-76)) (mkN n D (-77))
theorem mkd_lt (n : Nat) (P T D : Nat → Int) {j : Nat} (h : j < n * 3) : mkd n P T D j = nds P T D j := nds_congr (n := n) (fun _ hi => ⟨mkN_lt P _ hi, mkN_lt T _ hi, mkN_lt D _ hi⟩) h
/-- a marked tree -/
structure Mkd (w w' : World) (u : Option Addr) (c n : Nat) (P T D : Nat → Int) : Prop where
  own : Own w' w.heap.size 54 3 (.slice u (n + 1) c) (n + 1) (mkd n P T D)
  low : Below w.heap.size w w'
theorem Mkd.all {w w' : World} {u : Option Addr} {c n : Nat} {P T D : Nat → Int} (h : Mkd w w' u c n P T D) : RdA w' u 3 (n + 1) c (mkd n P T D) := own_rda h.own
theorem Mkd.rd {w w' : World} {u : Option Addr} {c n : Nat} {P T D : Nat → Int} (h : Mkd w w' u c n P T D) : RdA w' u 3 n c (nds P T D) := (h.all.firsts (Nat.le_succ n)).congr (fun _ hj => mkd_lt n P T D hj)
end Go.Proofs.Ytakekdbclmgeoaa.Cl
