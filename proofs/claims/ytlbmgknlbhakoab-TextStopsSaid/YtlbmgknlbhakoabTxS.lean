import Derived.Test.YtlbmgknlbhakoabTxR
import Derived.Deep.DeepCutAuto
namespace Go.Proofs.Ytlbmgknlbhakoab
open Go.RowKit
/-! TextPieces. -/
def pX (d : VD) (sts : List (List Int)) (ts : List Nat) (p : Nat) : List Int := fdX d sts [] false (ts.take p)
def pE (d : VD) (sts : List (List Int)) (ts : List Nat) (p : Nat) : Bool := fdE d sts [] false (ts.take p)
def pO (d : VD) (sts : List (List Int)) (ts : List Nat) (p : Nat) : List Int := fdO d sts [] false (ts.take p)
section
variable {d : VD} {sts : List (List Int)} (hd : ∀ k, Byt (d.pc k)) (ts : List Nat)
theorem p_zero : pX d sts ts 0 = [] ∧ pE d sts ts 0 = false ∧ pO d sts ts 0 = [] := by
  simp [pX, pE, pO, fdX, fdE, fdO, comT]
include hd in
theorem p_stl (p : Nat) : Stl sts (pX d sts ts p) (pE d sts ts p) := fd_stl hd (stl_start sts) _
include hd in
theorem p_add (p k : Nat) : pX d sts ts (p + k) = fdX d sts (pX d sts ts p) (pE d sts ts p) ((ts.drop p).take k) ∧ pE d sts ts (p + k) = fdE d sts (pX d sts ts p) (pE d sts ts p) ((ts.drop p).take k) ∧ pO d sts ts (p + k) = pO d sts ts p ++ fdO d sts (pX d sts ts p) (pE d sts ts p) ((ts.drop p).take k) := by
  obtain ⟨h1, h2, h3⟩ := fd_app hd (stl_start sts) (ts.take p) ((ts.drop p).take k)
  unfold pX pE pO
  rw [List.take_add]
  exact ⟨h2, h3, h1⟩
theorem spl_len (hl : ∀ t ∈ ts, (d.pc t).length ≤ 16) : (spl d ts).length ≤ 16 * ts.length := by
  induction ts with
  | nil => simp [spl]
  | cons t r ih =>
    have h1 := hl t (by simp)
    have h2 := ih (fun t ht => hl t (by simp [ht]))
    simp only [spl, List.flatMap_cons, List.length_append, List.length_cons] at h2 ⊢
    omega
theorem pO_len (hl : ∀ t ∈ ts, (d.pc t).length ≤ 16) (p : Nat) : (pO d sts ts p).length ≤ 16 * p := by
  have h1 := spl_len (ts.take p) (fun t ht => hl t (List.mem_of_mem_take ht))
  have h2 := (comT_pre (d := d) (sts := sts) (ts.take p) []).length_le
  unfold pO fdO
  simp only [Bool.false_eq_true, if_false, List.length_take, List.nil_append] at h1 h2 ⊢
  omega
end
theorem drop_one {ts : List Nat} {k : Nat} (h : k < ts.length) : (ts.drop k).take 1 = [ts.getD k 0] := by
  rw [dropN_cons h]; simp
theorem dropT_get {ts : List Nat} {p k i : Nat} (hi : i < k) : ((ts.drop p).take k).getD i 0 = ts.getD (p + i) 0 := by
  simp [List.getD_eq_getElem?_getD, hi]
theorem mem_good {d : VD} (hR : d.Right) {ts : List Nat} (hg : ∀ i, i < ts.length → ts.getD i 0 < d.nb + 1 + d.np) : ∀ t ∈ ts, (d.pc t).length ≤ 16 := fun t ht => by
  obtain ⟨i, hi, e⟩ := List.mem_iff_getElem.1 ht
  have := hg i hi
  rw [List.getD_eq_getElem?_getD, List.getElem?_eq_getElem hi] at this
  simp at this
  rw [e] at this
  exact hR.len_all t this
/-- Two streams, freshly made, and two empty lists. -/
theorem fam_two {w2 w0 : World} {S1 S2 : Nat} {K1 K2 : Nat → Prop} {d : VD} {sts sts' : List (List Int)} (h1 : StA w0 S1 K1 d sts (.slice none 0 0) [] false) (h2 : StA w0 S2 K2 d sts' (.slice none 0 0) [] false) (hS1 : S1 < w2.heap.size) (hS2 : w2.heap.size ≤ S2) (k1 : ∀ b, K1 b → b < w2.heap.size) (k2 : ∀ b, K2 b → w2.heap.size ≤ b) :
    Fam w0 2 4 (fun j => if j = 0 then S1 else S2) (fun j => if j = 0 then K1 else K2) d (fun j => if j = 0 then sts else sts') (fun _ => .slice none 0 0) (fun _ => []) (fun _ => false) w0 := by
  have nn : ∀ b, (Value.slice none 0 0).ownBlock ≠ some b := fun b e => by simp [Value.ownBlock] at e
  refine ⟨by omega, fun j hj => ?_, fun i _ => ownB_nil _ _, fun i _ b hb => absurd hb (nn b), fun i j _ _ _ b hb => absurd hb (nn b), fun j hj => ?_, fun i j hi hj hne => ?_, fun j b hj hk => ?_, Chg.refl _ _⟩
  · obtain rfl | rfl : j = 0 ∨ j = 1 := by omega
    · exact h1.p
    · exact h2.p
  · obtain rfl | rfl : j = 0 ∨ j = 1 := by omega
    · exact h1.p.lt
    · exact h2.p.lt
  · obtain rfl | rfl : i = 0 ∨ i = 1 := by omega
    · obtain rfl | rfl : j = 0 ∨ j = 1 := by omega
      · exact absurd rfl hne
      · simp; omega
    · obtain rfl | rfl : j = 0 ∨ j = 1 := by omega
      · simp; omega
      · exact absurd rfl hne
  · obtain rfl | rfl : j = 0 ∨ j = 1 := by omega
    · have hk : K1 b := hk
      refine ⟨h1.p.kl b hk, fun i hi => ?_⟩
      obtain rfl | rfl : i = 0 ∨ i = 1 := by omega
      · intro e
        have e : b = S1 := e
        exact h1.p.kS (e ▸ hk)
      · have := k1 b hk
        simp; omega
    · have hk : K2 b := hk
      refine ⟨h2.p.kl b hk, fun i hi => ?_⟩
      obtain rfl | rfl : i = 0 ∨ i = 1 := by omega
      · have := k2 b hk
        simp; omega
      · intro e
        have e : b = S2 := e
        exact h2.p.kS (e ▸ hk)
/-- What TextPieces' loop keeps. -/
structure PcI (w0 : World) (S : Nat → Nat) (K : Nat → Nat → Prop) (d : VD) (sts : List (List Int)) (ts : List Nat) (p1 p2 r1 r2 : Nat) (V : Nat → Value) (L : Nat → List Int) (O : Nat → Bool) (wX : World) : Prop where
  fam : Fam w0 2 4 S K d (fun _ => sts) V L O wX
  x1 : L 0 = pX d sts ts p1
  x2 : L 1 = pX d sts ts p2
  e1 : O 0 = pE d sts ts p1
  e2 : O 1 = pE d sts ts p2
  o1 : L 2 = pO d sts ts r1
  o2 : L 3 = pO d sts ts r2
section
variable {w0 wX wY : World} {S : Nat → Nat} {K : Nat → Nat → Prop} {d : VD} {sts : List (List Int)} {ts : List Nat} {p1 p2 r1 r2 : Nat} {V : Nat → Value} {L : Nat → List Int} {O : Nat → Bool}
theorem PcI.fresh (h : PcI w0 S K d sts ts p1 p2 r1 r2 V L O wX) (f : Below wX.heap.size wX wY) : PcI w0 S K d sts ts p1 p2 r1 r2 V L O wY := ⟨h.fam.fresh f, h.x1, h.x2, h.e1, h.e2, h.o1, h.o2⟩
theorem PcI.feed2 (hd : ∀ k, Byt (d.pc k)) (h : PcI w0 S K d sts ts p1 p2 r1 r2 V L O wX) {v : Value} {k : Nat} (f : Fed wX (S 1) (K 1) d sts (V 1) (L 1) (O 1) ((ts.drop p2).take k) v wY) (ho : O 1 = true → v = .slice none 0 0) :
    ∃ V' L' O' A, PcI w0 S K d sts ts p1 (p2 + k) r1 r2 V' L' O' wY ∧ V' 2 = V 2 ∧ V' 3 = V 3 ∧ pO d sts ts (p2 + k) = pO d sts ts p2 ++ A ∧ OwnB wY 0 v A ∧ (∀ b, v.ownBlock = some b → (V 3).ownBlock ≠ some b) := by
  obtain ⟨wv, hf, h1, h2⟩ := h.fam.feed (j := 1) (by omega) f ho
  obtain ⟨a1, a2, a3⟩ := p_add (sts := sts) hd ts p2 k
  refine ⟨_, _, _, _, ⟨hf, ?_, ?_, ?_, ?_, ?_, ?_⟩, pt_ne _ _ (by decide), pt_ne _ _ (by decide), a3, ?_, fun b hb e => h2 3 (by omega) b (by rw [pt_ne _ _ (by decide)]; exact e) hb⟩
  · rw [pt_ne _ _ (by decide)]; exact h.x1
  · rw [pt_at, a1, h.x2, h.e2]
  · rw [pt_ne _ _ (by decide)]; exact h.e1
  · rw [pt_at, a2, h.x2, h.e2]
  · rw [pt_ne _ _ (by decide)]; exact h.o1
  · rw [pt_ne _ _ (by decide)]; exact h.o2
  · rw [← h.x2, ← h.e2]; exact h1
theorem PcI.feed1 (hd : ∀ k, Byt (d.pc k)) (h : PcI w0 S K d sts ts p1 p2 r1 r2 V L O wX) {v : Value} {k : Nat} (f : Fed wX (S 0) (K 0) d sts (V 0) (L 0) (O 0) ((ts.drop p1).take k) v wY) (ho : O 0 = true → v = .slice none 0 0) :
    ∃ V' L' O' A, PcI w0 S K d sts ts (p1 + k) p2 r1 r2 V' L' O' wY ∧ V' 2 = V 2 ∧ V' 3 = V 3 ∧ pO d sts ts (p1 + k) = pO d sts ts p1 ++ A ∧ OwnB wY 0 v A ∧ (∀ b, v.ownBlock = some b → (V 2).ownBlock ≠ some b) := by
  obtain ⟨wv, hf, h1, h2⟩ := h.fam.feed (j := 0) (by omega) f ho
  obtain ⟨a1, a2, a3⟩ := p_add (sts := sts) hd ts p1 k
  refine ⟨_, _, _, _, ⟨hf, ?_, ?_, ?_, ?_, ?_, ?_⟩, pt_ne _ _ (by decide), pt_ne _ _ (by decide), a3, ?_, fun b hb e => h2 2 (by omega) b (by rw [pt_ne _ _ (by decide)]; exact e) hb⟩
  · rw [pt_at, a1, h.x1, h.e1]
  · rw [pt_ne _ _ (by decide)]; exact h.x2
  · rw [pt_at, a2, h.x1, h.e1]
  · rw [pt_ne _ _ (by decide)]; exact h.e2
  · rw [pt_ne _ _ (by decide)]; exact h.o1
  · rw [pt_ne _ _ (by decide)]; exact h.o2
  · rw [← h.x1, ← h.e1]; exact h1
theorem PcI.join1 (h : PcI w0 S K d sts ts p1 p2 r1 r2 V L O wX) {v : Value} {r : Nat} (f : JnP wX (V 2) (pO d sts ts r) v wY) : ∃ V' L', PcI w0 S K d sts ts p1 p2 r r2 V' L' O wY ∧ V' 2 = v ∧ V' 3 = V 3 := by
  refine ⟨_, _, ⟨h.fam.join (i := 2) (by omega) (by omega) f, ?_, ?_, h.e1, h.e2, ?_, ?_⟩, pt_at _ _ _, pt_ne _ _ (by decide)⟩
  · rw [pt_ne _ _ (by decide)]; exact h.x1
  · rw [pt_ne _ _ (by decide)]; exact h.x2
  · rw [pt_at]
  · rw [pt_ne _ _ (by decide)]; exact h.o2
theorem PcI.join2 (h : PcI w0 S K d sts ts p1 p2 r1 r2 V L O wX) {v : Value} {r : Nat} (f : JnP wX (V 3) (pO d sts ts r) v wY) : ∃ V' L', PcI w0 S K d sts ts p1 p2 r1 r V' L' O wY ∧ V' 2 = V 2 ∧ V' 3 = v := by
  refine ⟨_, _, ⟨h.fam.join (i := 3) (by omega) (by omega) f, ?_, ?_, h.e1, h.e2, ?_, ?_⟩, pt_ne _ _ (by decide), pt_at _ _ _⟩
  · rw [pt_ne _ _ (by decide)]; exact h.x1
  · rw [pt_ne _ _ (by decide)]; exact h.x2
  · rw [pt_ne _ _ (by decide)]; exact h.o1
  · rw [pt_at]
end
end Go.Proofs.Ytlbmgknlbhakoab
