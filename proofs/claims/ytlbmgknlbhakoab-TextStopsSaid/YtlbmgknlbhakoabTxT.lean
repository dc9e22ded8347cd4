import Derived.Test.YtlbmgknlbhakoabTxS
namespace Go.Proofs.Ytlbmgknlbhakoab
open Go.RowKit
/-! TextWaits. -/
theorem fam_one {w0 : World} {S1 N : Nat} {K1 : Nat → Prop} {d : VD} {sts : List (List Int)} (hN : 1 ≤ N) (h1 : StA w0 S1 K1 d sts (.slice none 0 0) [] false) :
    Fam w0 1 N (fun _ => S1) (fun _ => K1) d (fun _ => sts) (fun _ => .slice none 0 0) (fun _ => []) (fun _ => false) w0 := by
  have nn : ∀ b, (Value.slice none 0 0).ownBlock ≠ some b := fun b e => by simp [Value.ownBlock] at e
  exact ⟨hN, fun j _ => h1.p, fun i _ => ownB_nil _ _, fun i _ b hb => absurd hb (nn b), fun i j _ _ _ b hb => absurd hb (nn b), fun j _ => h1.p.lt, fun i j hi hj hne => absurd (show i = j by omega) hne, fun j b _ hk => ⟨h1.p.kl b hk, fun i _ e => h1.p.kS (e ▸ hk)⟩, Chg.refl _ _⟩
theorem endN_nil (t : List Int) : endN [] t = 0 := rfl
theorem comB_nil : ∀ (bs t : List Int), (comB [] t bs).2 = false
  | [], _ => rfl
  | b :: r, t => by
    rw [comB_cons, endN_nil, if_neg (by omega)]
    exact comB_nil r _
theorem comT_nil {d : VD} : ∀ (ts : List Nat) (t : List Int), (∀ k ∈ ts, k ≠ 0) → (comT d [] t ts).2 = false
  | [], _, _ => rfl
  | k :: r, t, h => by
    rw [comT_cons, if_neg (h k (by simp)), if_neg (by rw [comB_nil]; simp)]
    exact comT_nil r _ (fun q hq => h q (by simp [hq]))
theorem pE_nil {d : VD} {ts : List Nat} (h : ∀ k ∈ ts, k ≠ 0) (p : Nat) : pE d [] ts p = false := by
  unfold pE fdE
  simp only [Bool.false_eq_true, if_false]
  exact comT_nil _ _ (fun k hk => h k (List.mem_of_mem_take hk))
theorem begN_nil (t : List Int) : begN [] t = 0 := rfl
/-- how many bytes wait at most -/
def mostN (sts : List (List Int)) : Nat := if sts.length = 0 then 3 else 18
theorem waN_most {sts : List (List Int)} (h : SOk sts) (t : List Int) : waN sts t ≤ mostN sts := by
  unfold mostN
  split
  · rename_i h0
    obtain rfl : sts = [] := List.eq_nil_of_length_eq_zero h0
    have := (runeN_le (t.take (t.length - begN [] t))).1
    unfold waN
    rw [begN_nil] at this ⊢
    omega
  · exact waN_18 h t
/-- what has come, what has been given out -/
theorem p_all {d : VD} {sts : List (List Int)} {ts : List Nat} {p : Nat} (h : pE d sts ts p = false) : pO d sts ts p ++ pX d sts ts p = spl d (ts.take p) := by
  have := fd_all (d := d) (sts := sts) (x := []) (ts.take p) h
  unfold pO pX
  simpa using this
theorem spl_succ {d : VD} {ts : List Nat} {p : Nat} (h : p < ts.length) : spl d (ts.take (p + 1)) = spl d (ts.take p) ++ d.pc (ts.getD p 0) := by
  rw [List.take_succ_eq_append_getElem h]
  unfold spl
  rw [List.flatMap_append]
  simp only [List.flatMap_cons, List.flatMap_nil, List.append_nil]
  congr 2
  simp [List.getD_eq_getElem?_getD, h]
theorem rt_nz {d : VD} (hR : d.Right) (T : Nat → Int) (n : Nat) : ∀ k ∈ rtL d false T n, k ≠ 0 := fun k hk => by
  obtain ⟨z1, z2, z3⟩ := hR.cnt
  obtain ⟨i, _, rfl⟩ := List.mem_map.1 hk
  have := rtN_pos (N := d.nb + 1 + d.np) (by omega) (T i)
  omega
/-- What TextWaits' loop keeps. -/
structure WtI (w0 : World) (S : Nat → Nat) (K : Nat → Nat → Prop) (d : VD) (sts : List (List Int)) (ts : List Nat) (p r1 r2 : Nat) (V : Nat → Value) (L : Nat → List Int) (O : Nat → Bool) (wX : World) : Prop where
  fam : Fam w0 1 3 S K d (fun _ => sts) V L O wX
  x : L 0 = pX d sts ts p
  e : O 0 = pE d sts ts p
  c : L 1 = spl d (ts.take r1)
  o : L 2 = pO d sts ts r2
section
variable {w0 wX wY : World} {S : Nat → Nat} {K : Nat → Nat → Prop} {d : VD} {sts : List (List Int)} {ts : List Nat} {p r1 r2 : Nat} {V : Nat → Value} {L : Nat → List Int} {O : Nat → Bool}
theorem WtI.fresh (h : WtI w0 S K d sts ts p r1 r2 V L O wX) (f : Below wX.heap.size wX wY) : WtI w0 S K d sts ts p r1 r2 V L O wY := ⟨h.fam.fresh f, h.x, h.e, h.c, h.o⟩
theorem WtI.feed (hd : ∀ k, Byt (d.pc k)) (h : WtI w0 S K d sts ts p r1 r2 V L O wX) {v : Value} {k : Nat} (f : Fed wX (S 0) (K 0) d sts (V 0) (L 0) (O 0) ((ts.drop p).take k) v wY) (ho : O 0 = true → v = .slice none 0 0) :
    ∃ V' L' O' A, WtI w0 S K d sts ts (p + k) r1 r2 V' L' O' wY ∧ V' 1 = V 1 ∧ V' 2 = V 2 ∧ pO d sts ts (p + k) = pO d sts ts p ++ A ∧ OwnB wY 0 v A ∧ (∀ b, v.ownBlock = some b → (V 1).ownBlock ≠ some b ∧ (V 2).ownBlock ≠ some b) := by
  obtain ⟨wv, hf, h1, h2⟩ := h.fam.feed (j := 0) (by omega) f ho
  obtain ⟨a1, a2, a3⟩ := p_add (sts := sts) hd ts p k
  refine ⟨_, _, _, _, ⟨hf, ?_, ?_, ?_, ?_⟩, pt_ne _ _ (by decide), pt_ne _ _ (by decide), a3, ?_, fun b hb => ⟨fun e => h2 1 (by omega) b (by rw [pt_ne _ _ (by decide)]; exact e) hb, fun e => h2 2 (by omega) b (by rw [pt_ne _ _ (by decide)]; exact e) hb⟩⟩
  · rw [pt_at, a1, h.x, h.e]
  · rw [pt_at, a2, h.x, h.e]
  · rw [pt_ne _ _ (by decide)]; exact h.c
  · rw [pt_ne _ _ (by decide)]; exact h.o
  · rw [← h.x, ← h.e]; exact h1
theorem WtI.join1 (h : WtI w0 S K d sts ts p r1 r2 V L O wX) {v : Value} {r : Nat} (f : JnP wX (V 1) (spl d (ts.take r)) v wY) : ∃ V' L', WtI w0 S K d sts ts p r r2 V' L' O wY ∧ V' 1 = v ∧ V' 2 = V 2 := by
  refine ⟨_, _, ⟨h.fam.join (i := 1) (by omega) (by omega) f, ?_, h.e, ?_, ?_⟩, pt_at _ _ _, pt_ne _ _ (by decide)⟩
  · rw [pt_ne _ _ (by decide)]; exact h.x
  · rw [pt_at]
  · rw [pt_ne _ _ (by decide)]; exact h.o
theorem WtI.join2 (h : WtI w0 S K d sts ts p r1 r2 V L O wX) {v : Value} {r : Nat} (f : JnP wX (V 2) (pO d sts ts r) v wY) : ∃ V' L', WtI w0 S K d sts ts p r1 r V' L' O wY ∧ V' 1 = V 1 ∧ V' 2 = v := by
  refine ⟨_, _, ⟨h.fam.join (i := 2) (by omega) (by omega) f, ?_, h.e, ?_, ?_⟩, pt_ne _ _ (by decide), pt_at _ _ _⟩
  · rw [pt_ne _ _ (by decide)]; exact h.x
  · rw [pt_ne _ _ (by decide)]; exact h.c
  · rw [pt_at]
end
end Go.Proofs.Ytlbmgknlbhakoab
