import Derived.Test.YtmcefgpejocjfaaDoorInA
namespace Go.Proofs.YtmcefgpejocjfaaDoor
open Go.RowKit
/-! What the loop over the vectors keeps. -/
def vsl (o : OpD) (A : Nat → Option Addr) (K : Nat → Nat) (q : Nat) : Value := .slice (A q) (o.Vl q + 64) (K q)
structure IL (w1 wr : World) (o : OpD) (g : Nat) (aA aB aD aX aT : Option Addr) (cA cB cD cX cT : Nat) (k : Nat) (v : Value) (A : Nat → Option Addr) (K : Nat → Nat) : Prop where
  low : Below w1.heap.size w1 wr
  big : w1.heap.size ≤ g
  row : wr.rowIs g 41 6 (fun j => #[Value.slice aA (o.nA + 64) cA, .slice aB (o.nB + 64) cB, .slice aD (o.nD + 64) cD, .slice aX (o.nX + 64) cX, .slice aT (o.nT + 64) cT, v].getD j undef)
  a : Own wr w1.heap.size 48 1 (Value.slice aA (o.nA + 64) cA) (o.nA + 64) (fun j => .int .i8 (mkd o.nA o.A j))
  ga : (Value.slice aA (o.nA + 64) cA).ownBlock ≠ some g
  oa : Off v (Value.slice aA (o.nA + 64) cA)
  b : Own wr w1.heap.size 48 1 (Value.slice aB (o.nB + 64) cB) (o.nB + 64) (fun j => .int .i8 (mkd o.nB o.B j))
  gb : (Value.slice aB (o.nB + 64) cB).ownBlock ≠ some g
  ob : Off v (Value.slice aB (o.nB + 64) cB)
  d : Own wr w1.heap.size 48 1 (Value.slice aD (o.nD + 64) cD) (o.nD + 64) (fun j => .int .i8 (mkd o.nD o.D j))
  gd : (Value.slice aD (o.nD + 64) cD).ownBlock ≠ some g
  od : Off v (Value.slice aD (o.nD + 64) cD)
  x : Own wr w1.heap.size 2 1 (Value.slice aX (o.nX + 64) cX) (o.nX + 64) (fun j => .int .i64 (mkd o.nX o.X j))
  gx : (Value.slice aX (o.nX + 64) cX).ownBlock ≠ some g
  ox : Off v (Value.slice aX (o.nX + 64) cX)
  t : Own wr w1.heap.size 79 2 (Value.slice aT (o.nT + 64) cT) (o.nT + 64) (tcs (mkd o.nT o.Tc) (mkz o.nT o.Ts))
  gt : (Value.slice aT (o.nT + 64) cT).ownBlock ≠ some g
  ot : Off v (Value.slice aT (o.nT + 64) cT)
  top : Own wr w1.heap.size 26 1 v k (vsl o A K)
  gv : v.ownBlock ≠ some g
  rows : ∀ q, q < k → Own wr w1.heap.size 48 1 (vsl o A K q) (o.Vl q + 64) (fun j => .int .i8 (mkd (o.Vl q) (o.Vx q) j))
  gr : ∀ q, q < k → (vsl o A K q).ownBlock ≠ some g
  off : ∀ q, q < k → Off v (vsl o A K q)
theorem IL.start {w1 wr : World} {o : OpD} {g : Nat} {aA : Option Addr} {cA : Nat} {aB : Option Addr} {cB : Nat} {aD : Option Addr} {cD : Nat} {aX : Option Addr} {cX : Nat} {aT : Option Addr} {cT : Nat} (h : InM w1 wr o g aA aB aD aX aT cA cB cD cX cT) : IL w1 wr o g aA aB aD aX aT cA cB cD cX cT 0 (.slice none 0 0) (fun _ => none) (fun _ => 0) :=
  ⟨h.low, h.big, h.row, h.a, h.ga, off_nil _, h.b, h.gb, off_nil _, h.d, h.gd, off_nil _, h.x, h.gx, off_nil _, h.t, h.gt, off_nil _, own_nil _ _ _ _ _, by simp [Value.ownBlock], fun q hq => absurd hq (by omega), fun q hq => absurd hq (by omega), fun q hq => absurd hq (by omega)⟩
theorem IL.kept {w1 wr w' : World} {o : OpD} {g : Nat} {aA : Option Addr} {cA : Nat} {aB : Option Addr} {cB : Nat} {aD : Option Addr} {cD : Nat} {aX : Option Addr} {cX : Nat} {aT : Option Addr} {cT : Nat} {k : Nat} {v : Value} {A : Nat → Option Addr} {K : Nat → Nat} (h : IL w1 wr o g aA aB aD aX aT cA cB cD cX cT k v A K) (f : Below wr.heap.size wr w') : IL w1 w' o g aA aB aD aX aT cA cB cD cX cT k v A K :=
  ⟨h.low.trans (f.mono h.low.size), h.big, h.row.of_block (f.block _ h.row.lt), h.a.kept f, h.ga, h.oa, h.b.kept f, h.gb, h.ob, h.d.kept f, h.gd, h.od, h.x.kept f, h.gx, h.ox, h.t.kept f, h.gt, h.ot, h.top.kept f, h.gv, fun q hq => (h.rows q hq).kept f, h.gr, h.off⟩
/-- one vector more -/
theorem IL.next {w1 wr w2 w6 : World} {o : OpD} {g : Nat} {aA : Option Addr} {cA : Nat} {aB : Option Addr} {cB : Nat} {aD : Option Addr} {cD : Nat} {aX : Option Addr} {cX : Nat} {aT : Option Addr} {cT : Nat} {k : Nat} {v v' : Value} {A A' : Nat → Option Addr} {K K' : Nat → Nat} (h : IL w1 wr o g aA aB aD aX aT cA cB cD cX cT k v A K) (hg : g < wr.heap.size)
    (hA : ∀ q, q < k → vsl o A' K' q = vsl o A K q) (f : Below wr.heap.size wr w2) (hn : Own w2 wr.heap.size 48 1 (vsl o A' K' k) (o.Vl k + 64) (fun j => .int .i8 (mkd (o.Vl k) (o.Vx k) j)))
    (ho : Own w6 w1.heap.size 26 1 v' (k + 1) (vsl o A' K')) (ha : App w2 w6 v v') : IL w1 (w6.setCell ⟨g, 5, none⟩ v') o g aA aB aD aX aT cA cB cD cX cT (k + 1) v' A' K' := by
  have h2 := h.kept f
  have low6 : Below w1.heap.size w1 w6 := ha.below h2.low h2.top (Nat.le_refl _) h2.low.size
  have r6 : w6.rowIs g 41 6 (fun j => #[Value.slice aA (o.nA + 64) cA, .slice aB (o.nB + 64) cB, .slice aD (o.nD + 64) cD, .slice aX (o.nX + 64) cX, .slice aT (o.nT + 64) cT, v].getD j undef) := h2.row.of_block (ha.grown.block g h2.row.lt (fun e => h.gv e.symm))
  have gv' : v'.ownBlock ≠ some g := fun e => by
    rcases ha.blk g e with e1 | e1
    · exact h.gv e1
    · have := f.size; omega
  have offn : Off v (vsl o A' K' k) := fun b e1 e2 => by
    have := (h.top.lt b e1).2
    have := (hn.lt b e2).1
    omega
  have gn : (vsl o A' K' k).ownBlock ≠ some g := fun e => by have := (hn.lt g e).1; omega
  have hn1 := hn.weaken (base' := w1.heap.size) h.low.size
  refine ⟨low6.setCell h.big _, h.big, (r6.set 5 v').congr (fun i hi => ?_), (ha.own h2.a h.oa).set h.ga, h.ga, ha.off h2.a h.oa, (ha.own h2.b h.ob).set h.gb, h.gb, ha.off h2.b h.ob, (ha.own h2.d h.od).set h.gd, h.gd, ha.off h2.d h.od, (ha.own h2.x h.ox).set h.gx, h.gx, ha.off h2.x h.ox, (ha.own h2.t h.ot).set h.gt, h.gt, ha.off h2.t h.ot, ho.set gv', gv', fun q hq => ?_, fun q hq => ?_, fun q hq => ?_⟩
  · obtain rfl | rfl | rfl | rfl | rfl | rfl : i = 0 ∨ i = 1 ∨ i = 2 ∨ i = 3 ∨ i = 4 ∨ i = 5 := by omega
    all_goals rfl
  · by_cases e : q = k
    · rw [e]; exact (ha.own hn1 offn).set gn
    · rw [hA q (by omega)]; exact (ha.own (h2.rows q (by omega)) (h.off q (by omega))).set (h.gr q (by omega))
  · by_cases e : q = k
    · rw [e]; exact gn
    · rw [hA q (by omega)]; exact h.gr q (by omega)
  · by_cases e : q = k
    · rw [e]; exact ha.off hn1 offn
    · rw [hA q (by omega)]; exact ha.off (h2.rows q (by omega)) (h.off q (by omega))
theorem row6 {w : World} {b : Nat} {t : TypeId} {x0 x1 x2 x3 x4 x5 : Value} (h : w.rowIs b t 6 (fun j => #[x0, x1, x2, x3, x4, x5].getD j undef)) : w.heap[b]? = some (.cells #[x0, x1, x2, x3, x4, x5] t (0, 0)) := by
  obtain ⟨c, hc, hs, hv⟩ := h
  have e : c = #[x0, x1, x2, x3, x4, x5] := by
    apply Array.ext
    · rw [hs]; rfl
    · intro i h1 h2
      have h3 := hv i (by omega)
      rw [Array.getElem?_eq_getElem h1] at h3
      have h4 : i < 6 := by omega
      have h5 := Option.some.inj h3
      rw [h5]
      obtain rfl | rfl | rfl | rfl | rfl | rfl : i = 0 ∨ i = 1 ∨ i = 2 ∨ i = 3 ∨ i = 4 ∨ i = 5 := by omega
      all_goals rfl
  rw [hc, e]
theorem Own.rda {w : World} {base : Nat} {e : TypeId} {sz : Nat} {ao : Option Addr} {n cap : Nat} {cs : Nat → Value} (h : Own w base e sz (.slice ao n cap) n cs) : RdA w ao sz n cap cs := by
  obtain ⟨a, c, e, r⟩ := h.rd'
  simp only [Value.slice.injEq, true_and] at e
  obtain ⟨rfl, rfl⟩ := e
  exact r
end Go.Proofs.YtmcefgpejocjfaaDoor
