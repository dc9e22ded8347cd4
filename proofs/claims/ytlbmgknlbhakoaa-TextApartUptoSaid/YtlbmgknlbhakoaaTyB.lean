import Derived.Test.YtlbmgknlbhakoaaTxT
namespace Go.Proofs.Ytlbmgknlbhakoaa
open Go.RowKit
/-! Four streams, two pairs of lists: what TextApart keeps. -/
/-- the tokens of the pieces of one stream, among the first p -/
def apT (On : Nat → Bool) (R : Nat → List Nat) (b : Bool) : Nat → List Nat
  | 0 => []
  | p + 1 => if On p = b then apT On R b p ++ R p else apT On R b p
def sumN (f : Nat → Nat) : Nat → Nat
  | 0 => 0
  | p + 1 => sumN f p + f p
theorem sumN_mono (f : Nat → Nat) {p q : Nat} (h : p ≤ q) : sumN f p ≤ sumN f q := by
  induction q with
  | zero => obtain rfl : p = 0 := by omega
            exact Nat.le_refl _
  | succ q ih =>
    by_cases e : p = q + 1
    · rw [e]; exact Nat.le_refl _
    · have := ih (by omega)
      show sumN f p ≤ sumN f q + f q
      omega
theorem sumN_one (f : Nat → Nat) {p q : Nat} (h : p < q) : f p ≤ sumN f q := by
  have := sumN_mono f (show p + 1 ≤ q from h)
  have e : sumN f (p + 1) = sumN f p + f p := rfl
  omega
section
variable {On : Nat → Bool} {R : Nat → List Nat} {b : Bool} {p : Nat}
theorem apT_yes (h : On p = b) : apT On R b (p + 1) = apT On R b p ++ R p := if_pos h
theorem apT_no (h : ¬ On p = b) : apT On R b (p + 1) = apT On R b p := if_neg h
theorem apT_len (f : Nat → Nat) (hf : ∀ i, (R i).length = f i) (p : Nat) : (apT On R b p).length ≤ sumN f p := by
  induction p with
  | zero => exact Nat.le_refl _
  | succ p ih =>
    show _ ≤ sumN f p + f p
    by_cases e : On p = b
    · rw [apT_yes e, List.length_append, hf]; omega
    · rw [apT_no e]; omega
theorem apT_mem {P : Nat → Prop} (h : ∀ i t, t ∈ R i → P t) (p : Nat) : ∀ t ∈ apT On R b p, P t := by
  induction p with
  | zero => intro t ht; exact absurd ht (by simp [apT])
  | succ p ih =>
    intro t ht
    by_cases e : On p = b
    · rw [apT_yes e, List.mem_append] at ht
      rcases ht with ht | ht
      · exact ih t ht
      · exact h p t ht
    · rw [apT_no e] at ht; exact ih t ht
end
/-- a stream that has been fed these tokens, and what it gave out -/
structure Fd1 (d : VD) (sts : List (List Int)) (ts : List Nat) (x o : List Int) (e : Bool) : Prop where
  x : x = fdX d sts [] false ts
  o : o = fdO d sts [] false ts
  e : e = fdE d sts [] false ts
theorem fd1_nil (d : VD) (sts : List (List Int)) : Fd1 d sts [] [] [] false := ⟨by simp [fdX, comT], by simp [fdO, comT], by simp [fdE, comT]⟩
theorem Fd1.more {d : VD} {sts : List (List Int)} {ts : List Nat} {x o : List Int} {e : Bool} (hd : ∀ k, Byt (d.pc k)) (h : Fd1 d sts ts x o e) (us : List Nat) : Fd1 d sts (ts ++ us) (fdX d sts x e us) (o ++ fdO d sts x e us) (fdE d sts x e us) := by
  obtain ⟨h1, h2, h3⟩ := fd_app hd (stl_start sts) ts us
  rw [h.x, h.o, h.e]
  exact ⟨h2.symm, h1.symm, h3.symm⟩
theorem Fd1.stl {d : VD} {sts : List (List Int)} {ts : List Nat} {x o : List Int} {e : Bool} (hd : ∀ k, Byt (d.pc k)) (h : Fd1 d sts ts x o e) : Stl sts x e := by
  rw [h.x, h.e]
  exact fd_stl hd (stl_start sts) ts
theorem Fd1.len {d : VD} {sts : List (List Int)} {ts : List Nat} {x o : List Int} {e : Bool} (h : Fd1 d sts ts x o e) (hl : ∀ t ∈ ts, (d.pc t).length ≤ 16) : o.length ≤ 16 * ts.length := by
  have := pO_len (d := d) (sts := sts) ts hl ts.length
  unfold pO at this
  rw [List.take_length] at this
  rw [h.o]
  exact this
/-- a list to a stream's place, in the row of two -/
theorem two_put0 {w : World} {g : Nat} {t : TypeId} {x y : Value} (h : w.rowIs g t 2 (two x y)) (z : Value) : (w.setCell ⟨g, 0, none⟩ z).rowIs g t 2 (two z y) :=
  (h.set 0 z).congr (fun i hi => by
    have : i = 0 ∨ i = 1 := by omega
    rcases this with rfl | rfl <;> rfl)
theorem two_put1 {w : World} {g : Nat} {t : TypeId} {x y : Value} (h : w.rowIs g t 2 (two x y)) (z : Value) : (w.setCell ⟨g, 1, none⟩ z).rowIs g t 2 (two x z) :=
  (h.set 1 z).congr (fun i hi => by
    have : i = 0 ∨ i = 1 := by omega
    rcases this with rfl | rfl <;> rfl)
section
variable {w0 wX wY : World} {M N : Nat} {S : Nat → Nat} {K : Nat → Nat → Prop} {d : VD} {sts : Nat → List (List Int)} {V : Nat → Value} {L : Nat → List Int} {O : Nat → Bool}
/-- a store into a block that is none of theirs -/
theorem Fam.store (h : Fam w0 M N S K d sts V L O wX) {g : Nat} (hg : w0.heap.size ≤ g) (hV : ∀ i, i < N → (V i).ownBlock ≠ some g) (k : Nat) (z : Value) : Fam w0 M N S K d sts V L O (wX.setCell ⟨g, k, none⟩ z) := by
  have c := Chg.of_set wX g k z
  refine ⟨h.mn, fun j hj => (h.st j hj).chg c (fun e => ?_) (fun b hb e => ?_), fun i hi => Own.chg c (h.own i hi) (fun b hb e => hV i hi (by rw [hb, e])), h.lo, h.off, h.sl, h.sd, h.kl, h.chg.trans c (fun b hb e => ?_)⟩
  · have := h.sl j hj; omega
  · have := (h.kl j b hj hb).1; omega
  · omega
end
/-- the state: the streams a, b, x, y; the lists got[0], got[1], want[0], want[1] in two rows -/
structure ApI (w0 : World) (gb wb : Nat) (S : Nat → Nat) (K : Nat → Nat → Prop) (d : VD) (sts : Nat → List (List Int)) (V : Nat → Value) (L : Nat → List Int) (O : Nat → Bool) (wX : World) : Prop where
  fam : Fam w0 4 8 S K d sts V L O wX
  got : wX.rowIs gb 43 2 (two (V 4) (V 5))
  want : wX.rowIs wb 43 2 (two (V 6) (V 7))
  gl : w0.heap.size ≤ gb
  wl : w0.heap.size ≤ wb
  ne : gb ≠ wb
section
variable {w0 wX wY : World} {gb wb : Nat} {S : Nat → Nat} {K : Nat → Nat → Prop} {d : VD} {sts : Nat → List (List Int)} {V : Nat → Value} {L : Nat → List Int} {O : Nat → Bool}
theorem ApI.fresh (h : ApI w0 gb wb S K d sts V L O wX) (f : Below wX.heap.size wX wY) : ApI w0 gb wb S K d sts V L O wY :=
  ⟨h.fam.fresh f, h.got.of_block (f.block _ h.got.lt), h.want.of_block (f.block _ h.want.lt), h.gl, h.wl, h.ne⟩
theorem ApI.nog (h : ApI w0 gb wb S K d sts V L O wX) {i : Nat} (hi : i < 8) : (V i).ownBlock ≠ some gb := Own.apart (h.fam.own i hi) h.got (by decide)
theorem ApI.now (h : ApI w0 gb wb S K d sts V L O wX) {i : Nat} (hi : i < 8) : (V i).ownBlock ≠ some wb := Own.apart (h.fam.own i hi) h.want (by decide)
theorem ApI.feed (h : ApI w0 gb wb S K d sts V L O wX) {j : Nat} (hj : j < 4) {ts : List Nat} {v : Value} (f : Fed wX (S j) (K j) d (sts j) (V j) (L j) (O j) ts v wY) (ho : O j = true → v = .slice none 0 0) :
    ∃ wv, ApI w0 gb wb S K d sts (pt V j wv) (pt L j (fdX d (sts j) (L j) (O j) ts)) (pt O j (fdE d (sts j) (L j) (O j) ts)) wY ∧ OwnB wY 0 v (fdO d (sts j) (L j) (O j) ts) ∧ (∀ i, i < 8 → ∀ b, (pt V j wv i).ownBlock = some b → v.ownBlock ≠ some b) := by
  obtain ⟨wv, h1, h2, h3⟩ := h.fam.feed hj f ho
  have hg : ¬ (gb = S j ∨ (V j).ownBlock = some gb) := fun e => by
    rcases e with e | e
    · have := h.fam.sl j hj; have := h.gl; omega
    · exact h.nog (by omega) e
  have hw : ¬ (wb = S j ∨ (V j).ownBlock = some wb) := fun e => by
    rcases e with e | e
    · have := h.fam.sl j hj; have := h.wl; omega
    · exact h.now (by omega) e
  refine ⟨wv, ⟨h1, ?_, ?_, h.gl, h.wl, h.ne⟩, h2, h3⟩
  · rw [pt_ne _ _ (by omega), pt_ne _ _ (by omega)]
    exact f.chg.row h.got hg
  · rw [pt_ne _ _ (by omega), pt_ne _ _ (by omega)]
    exact f.chg.row h.want hw
/-- a list is joined, and laid into its place -/
theorem ApI.joinG (h : ApI w0 gb wb S K d sts V L O wX) {i : Nat} (hi : i = 4 ∨ i = 5) {v : Value} {l : List Int} (f : JnP wX (V i) l v wY) : ApI w0 gb wb S K d sts (pt V i v) (pt L i l) O (wY.setCell ⟨gb, i - 4, none⟩ v) := by
  have hi8 : i < 8 := by omega
  have hf := h.fam.join (i := i) (by omega) hi8 f
  have hgot : wY.rowIs gb 43 2 (two (V 4) (V 5)) := f.chg.row h.got (h.nog hi8)
  have hwant : wY.rowIs wb 43 2 (two (V 6) (V 7)) := f.chg.row h.want (h.now hi8)
  refine ⟨hf.store h.gl (fun q hq => Own.apart (hf.own q hq) hgot (by decide)) _ _, ?_, ?_, h.gl, h.wl, h.ne⟩
  · rcases hi with rfl | rfl
    · rw [pt_at, pt_ne _ _ (by decide)]; exact two_put0 hgot v
    · rw [pt_at, pt_ne _ _ (by decide)]; exact two_put1 hgot v
  · rw [pt_ne _ _ (by omega), pt_ne _ _ (by omega)]
    exact hwant.setOther (by show wb ≠ gb; exact fun e => h.ne e.symm) _
theorem ApI.joinW (h : ApI w0 gb wb S K d sts V L O wX) {i : Nat} (hi : i = 6 ∨ i = 7) {v : Value} {l : List Int} (f : JnP wX (V i) l v wY) : ApI w0 gb wb S K d sts (pt V i v) (pt L i l) O (wY.setCell ⟨wb, i - 6, none⟩ v) := by
  have hi8 : i < 8 := by omega
  have hf := h.fam.join (i := i) (by omega) hi8 f
  have hgot : wY.rowIs gb 43 2 (two (V 4) (V 5)) := f.chg.row h.got (h.nog hi8)
  have hwant : wY.rowIs wb 43 2 (two (V 6) (V 7)) := f.chg.row h.want (h.now hi8)
  refine ⟨hf.store h.wl (fun q hq => Own.apart (hf.own q hq) hwant (by decide)) _ _, ?_, ?_, h.gl, h.wl, h.ne⟩
  · rw [pt_ne _ _ (by omega), pt_ne _ _ (by omega)]
    exact hgot.setOther (by show gb ≠ wb; exact h.ne) _
  · rcases hi with rfl | rfl
    · rw [pt_at, pt_ne _ _ (by decide)]; exact two_put0 hwant v
    · rw [pt_at, pt_ne _ _ (by decide)]; exact two_put1 hwant v
/-- a stream is closed -/
theorem ApI.close (h : ApI w0 gb wb S K d sts V L O wX) {j : Nat} (hj : j < 4) (hS : StA wY (S j) (K j) d (sts j) (.slice none 0 0) [] true) (c : Chg wX wY (fun b => b = S j)) : ApI w0 gb wb S K d sts (pt V j (.slice none 0 0)) (pt L j []) (pt O j true) wY := by
  refine ⟨h.fam.close hj hS c, ?_, ?_, h.gl, h.wl, h.ne⟩
  · rw [pt_ne _ _ (by omega), pt_ne _ _ (by omega)]
    exact c.row h.got (fun e => by have := h.fam.sl j hj; have := h.gl; omega)
  · rw [pt_ne _ _ (by omega), pt_ne _ _ (by omega)]
    exact c.row h.want (fun e => by have := h.fam.sl j hj; have := h.wl; omega)
/-- the lists are joined, and the places stay -/
theorem ApI.joinE (h : ApI w0 gb wb S K d sts V L O wX) {i : Nat} (h4 : 4 ≤ i) (hi : i < 8) {v : Value} {l : List Int} (f : JnP wX (V i) l v wY) : Fam w0 4 8 S K d sts (pt V i v) (pt L i l) O wY := h.fam.join h4 hi f
end
/-- what has been fed to whom: pa, pb: to a and b; px, py: to x and y -/
structure Ap (w0 : World) (gb wb : Nat) (S : Nat → Nat) (K : Nat → Nat → Prop) (d : VD) (sts : Nat → List (List Int)) (On : Nat → Bool) (R : Nat → List Nat) (p0 p1 p2 p3 : Nat) (V : Nat → Value) (wX : World) : Prop where
  ex : ∃ (L : Nat → List Int) (O : Nat → Bool), ApI w0 gb wb S K d sts V L O wX ∧ Fd1 d (sts 0) (apT On R false p0) (L 0) (L 4) (O 0) ∧ Fd1 d (sts 1) (apT On R true p1) (L 1) (L 5) (O 1) ∧ Fd1 d (sts 2) (apT On R false p2) (L 2) (L 6) (O 2) ∧ Fd1 d (sts 3) (apT On R true p3) (L 3) (L 7) (O 3)
end Go.Proofs.Ytlbmgknlbhakoaa
