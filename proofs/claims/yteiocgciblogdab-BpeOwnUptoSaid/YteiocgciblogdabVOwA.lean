import Derived.Test.YteiocgciblogdabVBkB
import Derived.Test.YteiocgciblogdabVBkS
import Derived.Test.YteiocgciblogdabVCl2
import Derived.Test.YteiocgciblogdabVAl2
import Derived.Test.YteiocgciblogdabVEnc
namespace Go.Proofs.Yteiocgciblogdab
open Go.RowKit
/-! What BpeOwn's law keeps: the book, lists that are not in it yet. -/
theorem own_put {w : World} {base : Nat} {e : TypeId} {sz : Nat} {v : Value} {n : Nat} {cs : Nat → Value} {l : Nat} {o o' : Obj} (hl : w.heap[l]? = some o) (hc : o.isCells = false) (h : Own w base e sz v n cs) : Own (w.putObj l o') base e sz v n cs := by
  refine ⟨h.1, ?_⟩
  rcases h.2 with hn | ⟨k, cap, cur, rfl, hb, hgg, rest⟩
  · exact .inl hn
  · refine .inr ⟨k, cap, cur, rfl, hb, ?_, rest⟩
    have hk : k ≠ l := fun e => by subst e; rw [hgg] at hl; cases hl; simp [Obj.isCells] at hc
    rw [put_other _ hk]; exact hgg
theorem own_chg {w w' : World} {base : Nat} {e : TypeId} {sz : Nat} {v : Value} {n : Nat} {cs : Nat → Value} {S : Nat → Prop} (h : Own w base e sz v n cs) (c : Chg w w' S) (hS : ∀ b, v.ownBlock = some b → ¬ S b) : Own w' base e sz v n cs := by
  have hlt := h.lt
  refine ⟨h.1, ?_⟩
  rcases h.2 with hn | ⟨k, cap, cur, rfl, hb, hgg, rest⟩
  · exact .inl hn
  · refine .inr ⟨k, cap, cur, rfl, hb, ?_, rest⟩
    rw [c.block k (hlt k rfl).2 (hS k rfl)]; exact hgg
theorem own_offT {w : World} {b b' : Nat} {e e' : TypeId} {sz sz' : Nat} {v v' : Value} {n n' : Nat} {cs cs' : Nat → Value} (h : Own w b e sz v n cs) (h' : Own w b' e' sz' v' n' cs') (hne : e ≠ e') : Off v v' := by
  intro k hk hk'
  rcases h.2 with ⟨rfl, _⟩ | ⟨g, _, _, rfl, _, hg, _⟩
  · simp [Value.ownBlock] at hk
  · rcases h'.2 with ⟨rfl, _⟩ | ⟨g', _, _, rfl, _, hg', _⟩
    · simp [Value.ownBlock] at hk'
    · simp [Value.ownBlock] at hk hk'
      subst hk
      subst hk'
      rw [hg] at hg'
      cases hg'
      exact hne rfl
theorem own_isCells {w : World} {base : Nat} {e : TypeId} {sz : Nat} {v : Value} {n : Nat} {cs : Nat → Value} (h : Own w base e sz v n cs) {b : Nat} (hb : v.ownBlock = some b) : ∃ o, w.heap[b]? = some o ∧ o.isCells = true := by
  rcases h.2 with ⟨rfl, _⟩ | ⟨g, _, _, rfl, _, hg, _⟩
  · simp [Value.ownBlock] at hb
  · simp [Value.ownBlock] at hb
    subst hb
    exact ⟨_, hg, rfl⟩
theorem Chg.keeps {w w' : World} {S : Nat → Prop} (c : Chg w w' S) (h : ∀ b, b < w.heap.size → S b → ∃ o, w.heap[b]? = some o ∧ o.isCells = true) : KeepsOthers w w' :=
  ⟨c.low.size, fun k o hk ho => by
    have hlt := (Array.getElem?_eq_some_iff.1 hk).1
    refine (c.block k hlt (fun hs => ?_)).trans hk
    obtain ⟨o2, h2, h3⟩ := h k hlt hs
    rw [hk] at h2
    cases h2
    rw [ho] at h3
    cases h3⟩
theorem Chg.kps {w w' : World} {S : Nat → Prop} {base n₁ : Nat} (c : Chg w w' S) (hn : n₁ ≤ w.heap.size) (h : ∀ b, S b → b < base ∨ n₁ ≤ b) : KpS base n₁ w w' :=
  ⟨c.low.size, fun b h1 h2 => c.block b (by omega) (fun hs => by rcases h b hs with q | q <;> omega)⟩
theorem Chg.belowN {w0 w w' : World} {S : Nat → Prop} {N : Nat} (c : Chg w w' S) (h : Below N w0 w) (hN : N ≤ w.heap.size) (hS : ∀ b, S b → N ≤ b) : Below N w0 w' :=
  h.trans ⟨c.low.os, c.low.tape, c.low.output, c.low.size, fun b hb => c.block b (by omega) (fun hs => by have := hS b hs; omega)⟩
theorem Chg.app_set {w0 w w' : World} {v v' : Value} {g' j : Nat} {x : Value} (hC : Chg w0 w (fun b => v.ownBlock = some b)) (ha : App w w' v v') (hb : v'.ownBlock = some g') : Chg w0 (w'.setCell ⟨g', j, none⟩ x) (fun b => v.ownBlock = some b ∨ w.heap.size ≤ b) := by
  have c1 := hC.trans (Chg.of_app ha) (fun _ _ t => t)
  refine ⟨c1.low.trans (Chg.of_set w' g' j x).low, fun b hlt hS => ?_⟩
  have hne : ¬ b = g' := fun e => by
    subst e
    rcases ha.blk b hb with q | q
    · exact hS (.inl q)
    · exact hS (.inr q)
  exact ((Chg.of_set w' g' j x).block b (by have := c1.low.size; omega) hne).trans (c1.block b hlt (fun q => hS (.inl q)))
/-- the state: wA the world ahead of the book, m lists noted -/
structure Stg (wA w : World) (base g C9 m : Nat) (vL vZ : Value) (A Z : Nat → Value) (l : Nat → List Int) : Prop where
  low : Below wA.heap.size wA w
  c9 : w.rowIs C9 37 1 (fun _ => .pointer (some ⟨g, 0, none⟩))
  bk : BookR w base g m m vL vZ A Z l
  hg : wA.heap.size ≤ g
  ne : C9 ≠ g
  h9 : C9 < base
  hb : base ≤ w.heap.size
  hA : wA.heap.size ≤ base
theorem Stg.fresh {wA w w' : World} {base g C9 m : Nat} {vL vZ : Value} {A Z : Nat → Value} {l : Nat → List Int} (h : Stg wA w base g C9 m vL vZ A Z l) (f : Below w.heap.size w w') : Stg wA w' base g C9 m vL vZ A Z l :=
  ⟨h.low.trans (f.mono h.low.size), h.c9.of_block (f.block _ h.c9.lt), h.bk.kept f, h.hg, h.ne, h.h9, Nat.le_trans h.hb f.size, h.hA⟩
theorem Stg.put {wA w : World} {base g C9 m : Nat} {vL vZ : Value} {A Z : Nat → Value} {l : Nat → List Int} {k : Nat} {o o' : Obj} (h : Stg wA w base g C9 m vL vZ A Z l) (hk : base ≤ k) (hl : w.heap[k]? = some o) (hc : o.isCells = false) : Stg wA (w.putObj k o') base g C9 m vL vZ A Z l :=
  ⟨below_put hl (Nat.le_trans h.hA hk) h.low, row_put hl hc h.c9, ⟨row_put hl hc h.bk.row, h.bk.low, own_put hl hc h.bk.L, own_put hl hc h.bk.top, fun i hi => own_put hl hc (h.bk.a i hi), fun i hi => own_put hl hc (h.bk.z i hi), h.bk.off, h.bk.offL, h.bk.offLZ, h.bk.offZ, h.bk.offZZ, h.bk.apart, h.bk.az⟩, h.hg, h.ne, h.h9, by simpa using h.hb, h.hA⟩
/-- a list that is not in the book -/
structure Pnd (w : World) (base m : Nat) (vL vZ : Value) (A Z : Nat → Value) (v : Value) (x : List Int) : Prop where
  own : OwnB w base v x
  oL : Off vL v
  oZ : Off vZ v
  oa : ∀ i, i < m → Off (A i) v
  oz : ∀ j, j < m → Off v (Z j)
theorem Pnd.fresh {w w' : World} {base m : Nat} {vL vZ : Value} {A Z : Nat → Value} {v : Value} {x : List Int} (h : Pnd w base m vL vZ A Z v x) (f : Below w.heap.size w w') : Pnd w' base m vL vZ A Z v x :=
  ⟨Own.kept h.own f, h.oL, h.oZ, h.oa, h.oz⟩
theorem Stg.new {wA wp w : World} {base g C9 m : Nat} {vL vZ : Value} {A Z : Nat → Value} {l : Nat → List Int} (h : Stg wA wp base g C9 m vL vZ A Z l) {v : Value} {x : List Int} (hv : OwnB w wp.heap.size v x) : Pnd w base m vL vZ A Z v x :=
  ⟨Own.weaken hv h.hb, off_own h.bk.L hv, off_own h.bk.top hv, fun i hi => off_own (h.bk.a i hi) hv, fun j hj => (off_own (h.bk.z j hj) hv).symm⟩
theorem note_st {wA w : World} {base g C9 m : Nat} {vL vZ v : Value} {A Z : Nat → Value} {l : Nat → List Int} (h : Stg wA w base g C9 m vL vZ A Z l) (hv : Pnd w base m vL vZ A Z v (l m)) (hm : m ≤ 1048576) (hl : (l m).length ≤ 140737488351232) :
    Calls Try.prog 16 #[.pointer (some ⟨g, 0, none⟩), v] w fun e w' => e = .returned (.tuple #[]) ∧ ∃ vL' vZ' A' Z', Stg wA w' base g C9 (m + 1) vL' vZ' A' Z' l ∧ (∀ v2 x2, Pnd w base m vL vZ A Z v2 x2 → Off v v2 → Pnd w' base (m + 1) vL' vZ' A' Z' v2 x2) ∧ Chg w w' (fun b => b = g ∨ vL.ownBlock = some b ∨ vZ.ownBlock = some b) := by
  refine (bnote_any h.bk hv.own hv.oL hv.oZ hv.oa hv.oz hm hl h.hb).mono ?_
  rintro e w' ⟨rfl, vL', vZ', z, hB, hC, hz⟩
  have hLb := fun b (hb : vL.ownBlock = some b) => (h.bk.L.lt b hb).1
  have hZb := fun b (hb : vZ.ownBlock = some b) => (h.bk.top.lt b hb).1
  have hlow := h.bk.low
  have h9 := h.h9
  refine ⟨rfl, vL', vZ', upd A m v, upd Z m z, ⟨hC.belowN h.low h.low.size (fun b hb => ?_), h.c9.of_block (hC.block _ h.c9.lt (fun hs => ?_)), hB, h.hg, h.ne, h.h9, Nat.le_trans h.hb hC.low.size, h.hA⟩, fun v2 x2 k hoff => ?_, hC⟩
  · have h1 := h.hg
    have h2 := h.hA
    rcases hb with e | e | e
    · omega
    · have := hLb b e; omega
    · have := hZb b e; omega
  · rcases hs with e | e | e
    · exact h.ne e
    · have := hLb _ e; omega
    · have := hZb _ e; omega
  · have hlt := k.own.lt
    have ho : OwnB w' base v2 x2 := own_chg k.own hC (fun b hb hs => by
      rcases hs with e | e | e
      · have := (hlt b hb).1; omega
      · exact k.oL b e hb
      · exact k.oZ b e hb)
    refine ⟨ho, own_offT hB.L ho (by decide), own_offT hB.top ho (by decide), fun i hi => ?_, fun j hj => ?_⟩
    · by_cases e : i = m
      · subst e; rw [upd_at]; exact hoff
      · rw [upd_lt _ _ (by omega)]; exact k.oa i (by omega)
    · by_cases e : j = m
      · subst e
        rw [upd_at]
        intro b h1 h2
        have := hz b h2
        have := (hlt b h1).2
        omega
      · rw [upd_lt _ _ (by omega)]; exact k.oz j (by omega)
theorem Stg.nk {wA w w' : World} {base g C9 m bT : Nat} {vL vZ : Value} {A Z : Nat → Value} {l : Nat → List Int} (h : Stg wA w base g C9 m vL vZ A Z l) (c : Chg w w' (fun b => b = g ∨ vL.ownBlock = some b ∨ vZ.ownBlock = some b)) (hg : g < bT) : KeepsOthers w w' ∧ KpS bT base w w' := by
  refine ⟨c.keeps (fun b _ hs => ?_), c.kps h.hb (fun b hs => ?_)⟩
  · rcases hs with e | e | e
    · subst e
      obtain ⟨cs, hc, _⟩ := h.bk.row
      exact ⟨_, hc, rfl⟩
    · exact own_isCells h.bk.L e
    · exact own_isCells h.bk.top e
  · rcases hs with e | e | e
    · exact .inl (by omega)
    · exact .inr (h.bk.L.lt b e).1
    · exact .inr (h.bk.top.lt b e).1
theorem Stg.start {wA w : World} {base g C9 : Nat} {l : Nat → List Int} (low : Below wA.heap.size wA w) (c9 : w.rowIs C9 37 1 (fun _ => .pointer (some ⟨g, 0, none⟩))) (row : w.rowIs g 40 3 (three (.slice none 0 0) (.slice none 0 0) (.slice none 0 0))) (hg : wA.heap.size ≤ g) (ne : C9 ≠ g) (h9 : C9 < base) (hgb : g < base) (hb : base ≤ w.heap.size) (hA : wA.heap.size ≤ base) (A Z : Nat → Value) : Stg wA w base g C9 0 (.slice none 0 0) (.slice none 0 0) A Z l :=
  ⟨low, c9, ⟨row, hgb, own_nil _ _ _ _ _, own_nil _ _ _ _ _, fun i hi => absurd hi (by omega), fun i hi => absurd hi (by omega), off_nil _, fun i hi => absurd hi (by omega), fun i hi => absurd hi (by omega), fun i hi => absurd hi (by omega), fun i hi => absurd hi (by omega), fun i j hi => absurd hi (by omega), fun i j hi => absurd hi (by omega)⟩, hg, ne, h9, hb, hA⟩
/-- the address and the room of a slice -/
def adO : Value → Option Addr
  | .slice a _ _ => a
  | _ => none
def cpO : Value → Nat
  | .slice _ _ c => c
  | _ => 0
theorem ownB_rows {w : World} {base m : Nat} {A : Nat → Value} {l : Nat → List Int} {ao : Option Addr} {cap : Nat} (hL : Own w base 22 1 (.slice ao m cap) m A) (ha : ∀ i, i < m → OwnB w base (A i) (l i)) : RdRows w ao m cap (fun i => adO (A i)) (fun i => cpO (A i)) l := by
  have key : ∀ i, i < m → ∃ a c, A i = .slice a (l i).length c ∧ RdA w a 1 (l i).length c (fun j => .int .u8 ((l i).getD j 0)) := fun i hi => (ha i hi).rd
  refine ⟨hL.rda.congr (fun i hi => ?_), fun i hi => ?_⟩
  · obtain ⟨a, c, e, _⟩ := key i (by omega)
    rw [e]; rfl
  · obtain ⟨a, c, e, h⟩ := key i hi
    rw [e]; exact h
theorem still_st {wA w : World} {base g C9 m : Nat} {vL vZ : Value} {A Z : Nat → Value} {l : Nat → List Int} (h : Stg wA w base g C9 m vL vZ A Z l) (hm : m ≤ 1000) :
    Calls Try.prog 18 #[.pointer (some ⟨g, 0, none⟩)] w fun e w' => e = .returned (.bool true) ∧ Below w.heap.size w w' := by
  obtain ⟨lo, lc, rfl, _⟩ := h.bk.L.rd
  obtain ⟨zo, zc, rfl, _⟩ := h.bk.top.rd
  exact bstill_any (h.bk.row.cell (i := 0) (by decide)) (h.bk.row.cell (i := 2) (by decide)) (ownB_rows h.bk.L h.bk.a) (ownB_rows h.bk.top h.bk.z) (by omega)
theorem apart_st {wA w : World} {base g C9 m : Nat} {vL vZ : Value} {A Z : Nat → Value} {l : Nat → List Int} (h : Stg wA w base g C9 m vL vZ A Z l) (hm : m ≤ 1000) (hl : ∀ i, i < m → (l i).length ≤ 1073741824) :
    Calls Try.prog 19 #[.pointer (some ⟨g, 0, none⟩)] w fun e w' => e = .returned (.bool true) ∧ Chg w w' (fun b => b = g ∨ ∃ i, i < m ∧ (A i).ownBlock = some b) :=
  bapart_any (PenR.start h.bk) hm hl h.hb
/-- which lists are noted, in their order -/
def lsF (d : VD) (N : Nat) (x y z : List Int) (i : Nat) : List Int := if i < 4 * N then (if i % 4 = 3 then d.pc 0 else d.pc (i / 4)) else if i = 4 * N then x else if i = 4 * N + 1 then y else z
theorem lsF_0 {d : VD} {N : Nat} {x y z : List Int} {k : Nat} (h : k < N) : lsF d N x y z (4 * k) = d.pc k := by
  unfold lsF; rw [if_pos (by omega), if_neg (by omega)]; congr 1; omega
theorem lsF_1 {d : VD} {N : Nat} {x y z : List Int} {k : Nat} (h : k < N) : lsF d N x y z (4 * k + 1) = d.pc k := by
  unfold lsF; rw [if_pos (by omega), if_neg (by omega)]; congr 1; omega
theorem lsF_2 {d : VD} {N : Nat} {x y z : List Int} {k : Nat} (h : k < N) : lsF d N x y z (4 * k + 2) = d.pc k := by
  unfold lsF; rw [if_pos (by omega), if_neg (by omega)]; congr 1; omega
theorem lsF_3 {d : VD} {N : Nat} {x y z : List Int} {k : Nat} (h : k < N) : lsF d N x y z (4 * k + 3) = d.pc 0 := by
  unfold lsF; rw [if_pos (by omega), if_pos (by omega)]
theorem lsF_x {d : VD} {N : Nat} {x y z : List Int} : lsF d N x y z (4 * N) = x := by
  unfold lsF; rw [if_neg (by omega), if_pos rfl]
theorem lsF_y {d : VD} {N : Nat} {x y z : List Int} : lsF d N x y z (4 * N + 1) = y := by
  unfold lsF; rw [if_neg (by omega), if_neg (by omega), if_pos rfl]
theorem lsF_z {d : VD} {N : Nat} {x y z : List Int} : lsF d N x y z (4 * N + 2) = z := by
  unfold lsF; rw [if_neg (by omega), if_neg (by omega), if_neg (by omega)]
theorem lsF_le {d : VD} {N B : Nat} {x y z : List Int} (h : ∀ t, t < N → (d.pc t).length ≤ B) (h0 : (d.pc 0).length ≤ B) (hx : x.length ≤ B) (hy : y.length ≤ B) (hz : z.length ≤ B) (i : Nat) : (lsF d N x y z i).length ≤ B := by
  unfold lsF
  split
  · split
    · exact h0
    · exact h _ (by omega)
  · split
    · exact hx
    · split
      · exact hy
      · exact hz
end Go.Proofs.Yteiocgciblogdab
