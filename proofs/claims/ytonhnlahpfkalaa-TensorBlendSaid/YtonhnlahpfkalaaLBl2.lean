import Derived.Test.YtonhnlahpfkalaaLBld
namespace Go.Proofs.Ytonhnlahpfkalaa
open Go.RowKit
/-! The law TensorBlend: its walk. -/
theorem new_val (w : World) {x y : Value} (t : TypeId) (h : y = x) : (w.alloc (.cells #[x] t)).cell? ⟨w.heap.size, 0, none⟩ = some y := by simp [h]
theorem off_lt {w w' : World} {B B' : Nat} {e e' : TypeId} {sz sz' n n' : Nat} {a v : Value} {cs cs' : Nat → Value} (ha : Own w B e sz a n cs) (hv : Own w' B' e' sz' v n' cs') (h : w.heap.size ≤ B') : Off a v := fun k hk hv' => by
  have h1 := (ha.lt k hk).2
  have h2 := (hv.lt k hv').1
  omega
/-- What is gathered: the vectors, the weights, three times the weights. -/
structure BR (w1 w : World) (l ww tt : Value) (k L0 : Nat) (V : Nat → Value) (Y : Nat → Nat → Int) (W : Nat → Int) : Prop where
  ol : Own w w1.heap.size 23 1 l k V
  ow : Own w w1.heap.size 2 1 ww k (fun i => .int .i64 (W i))
  ot : Own w w1.heap.size 2 1 tt k (fun i => .int .i64 (3 * W i))
  lw : Off l ww
  lt : Off l tt
  wt : Off ww tt
  vec : ∀ i, i < k → Own w w1.heap.size 32 1 (V i) L0 (fun j => .int .i8 (Y i j)) ∧ Off l (V i) ∧ Off ww (V i) ∧ Off tt (V i)
  bel : Below w1.heap.size w1 w
theorem br_start (w1 : World) (L0 : Nat) (V : Nat → Value) (Y : Nat → Nat → Int) (W : Nat → Int) : BR w1 w1 (.slice none 0 0) (.slice none 0 0) (.slice none 0 0) 0 L0 V Y W :=
  ⟨own_nil _ _ _ _ _, own_nil _ _ _ _ _, own_nil _ _ _ _ _, off_nil _, off_nil _, off_nil _, fun i hi => absurd hi (by omega), Below.refl _ _⟩
theorem BR.kept {w1 w w' : World} {l ww tt : Value} {k L0 : Nat} {V : Nat → Value} {Y : Nat → Nat → Int} {W : Nat → Int} (h : BR w1 w l ww tt k L0 V Y W) (f : Below w.heap.size w w') : BR w1 w' l ww tt k L0 V Y W :=
  ⟨h.ol.kept f, h.ow.kept f, h.ot.kept f, h.lw, h.lt, h.wt, fun i hi => ⟨(h.vec i hi).1.kept f, (h.vec i hi).2⟩, fresh_trans h.bel f⟩
def updV (V : Nat → Value) (k : Nat) (v : Value) : Nat → Value := fun i => if i = k then v else V i
theorem updV_at (V : Nat → Value) (k : Nat) (v : Value) : updV V k v k = v := by unfold updV; rw [if_pos rfl]
theorem updV_ne (V : Nat → Value) {k i : Nat} (v : Value) (h : i ≠ k) : updV V k v i = V i := by unfold updV; rw [if_neg h]
/-- the three appends of one round -/
theorem BR.next {w1 w wa wb wc wd we wf : World} {l ww tt v l' w' t' : Value} {k L0 : Nat} {V : Nat → Value} {Y : Nat → Nat → Int} {W : Nat → Int} (h : BR w1 w l ww tt k L0 V Y W)
    (hv : Own w w1.heap.size 32 1 v L0 (fun j => .int .i8 (Y k j))) (flv : Off l v) (fwv : Off ww v) (ftv : Off tt v)
    (fa : Below w.heap.size w wa) (A : App wa wb l l') (nl : Own wb w1.heap.size 23 1 l' (k + 1) (updV V k v))
    (fb : Below wb.heap.size wb wc) (B : App wc wd ww w') (nw : Own wd w1.heap.size 2 1 w' (k + 1) (fun i => .int .i64 (W i)))
    (fc : Below wd.heap.size wd we) (C : App we wf tt t') (nt : Own wf w1.heap.size 2 1 t' (k + 1) (fun i => .int .i64 (3 * W i))) : BR w1 wf l' w' t' (k + 1) L0 (updV V k v) Y W := by
  have ha := h.kept fa
  have hs := ha.bel.size
  -- behind the first
  have ow1 := A.own ha.ow h.lw
  have ot1 := A.own ha.ot h.lt
  have lw1 := A.off ha.ow h.lw
  have lt1 := A.off ha.ot h.lt
  have b1 := A.below ha.bel ha.ol (Nat.le_refl _) hs
  have v1 : ∀ i, i < k + 1 → Own wb w1.heap.size 32 1 (updV V k v i) L0 (fun j => .int .i8 (Y i j)) ∧ Off l' (updV V k v i) ∧ Off ww (updV V k v i) ∧ Off tt (updV V k v i) := by
    intro i hi
    by_cases e : i = k
    · subst e
      rw [updV_at]
      exact ⟨A.own (hv.kept fa) flv, A.off (hv.kept fa) flv, fwv, ftv⟩
    · rw [updV_ne V v e]
      obtain ⟨o, x, y, z⟩ := ha.vec i (by omega)
      exact ⟨A.own o x, A.off o x, y, z⟩
  -- behind the second
  have b2 := B.below (fresh_trans b1 fb) (ow1.kept fb) (Nat.le_refl _) (fresh_trans b1 fb).size
  have ol2 := B.own (nl.kept fb) lw1.symm
  have lw2 := (B.off (nl.kept fb) lw1.symm).symm
  have ot2 := B.own (ot1.kept fb) h.wt
  have wt2 := B.off (ot1.kept fb) h.wt
  have v2 : ∀ i, i < k + 1 → Own wd w1.heap.size 32 1 (updV V k v i) L0 (fun j => .int .i8 (Y i j)) ∧ Off l' (updV V k v i) ∧ Off w' (updV V k v i) ∧ Off tt (updV V k v i) := by
    intro i hi
    obtain ⟨o, x, y, z⟩ := v1 i hi
    exact ⟨B.own (o.kept fb) y, x, B.off (o.kept fb) y, z⟩
  -- behind the third
  have b3 := C.below (fresh_trans b2 fc) (ot2.kept fc) (Nat.le_refl _) (fresh_trans b2 fc).size
  refine ⟨C.own (ol2.kept fc) lt1.symm, C.own (nw.kept fc) wt2.symm, nt, lw2, (C.off (ol2.kept fc) lt1.symm).symm, (C.off (nw.kept fc) wt2.symm).symm, fun i hi => ?_, b3⟩
  obtain ⟨o, x, y, z⟩ := v2 i hi
  exact ⟨C.own (o.kept fc) z, x, y, C.off (o.kept fc) z⟩
end Go.Proofs.Ytonhnlahpfkalaa
