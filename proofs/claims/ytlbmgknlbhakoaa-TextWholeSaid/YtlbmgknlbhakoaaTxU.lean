import Derived.Test.YtlbmgknlbhakoaaTxT
import Derived.Test.YtlbmgknlbhakoaaVSpl
namespace Go.Proofs.Ytlbmgknlbhakoaa
open Go.RowKit
/-! TextWhole: what Encode gives is spelt by a stream without stops. -/
/-- tokens as natural numbers -/
def natL (l : List Int) : List Nat := l.map Int.toNat
theorem natL_len (l : List Int) : (natL l).length = l.length := by simp [natL]
theorem natL_get {l : List Int} {i : Nat} (h : i < l.length) : (natL l).getD i 0 = (l.getD i 0).toNat := by simp [natL, List.getD_eq_getElem?_getD, h]
theorem spl_spell (d : VD) (l : List Int) : spl d (natL l) = d.spell l := by
  unfold spl natL VD.spell
  rw [List.flatMap_map]
theorem first_spell {d : VD} {X : Nat → Int} {n : Nat} (hX : ∀ i, i < n → 0 ≤ X i) (hk : ∀ i, i < n → d.tok (X i) ≠ 0) : d.spell (d.first X n) = (List.range n).map X := by
  induction n with
  | zero => simp [VD.spell, VD.first]
  | succ n ih =>
    have h1 := ih (fun i hi => hX i (by omega)) (fun i hi => hk i (by omega))
    unfold VD.first VD.spell at *
    rw [List.range_succ, List.map_append, List.map_append, List.flatMap_append, h1]
    simp [(d.tok_pc (hX n (by omega)) (hk n (by omega))).1]
theorem enc_good {d : VD} {X : Nat → Int} {n : Nat} (hX : ∀ i, i < n → 0 ≤ X i) (hk : ∀ i, i < n → d.tok (X i) ≠ 0) : ∀ x ∈ d.encL (d.first X n) d.np, 1 ≤ x ∧ x < ((d.nb + 1 + d.np : Nat) : Int) := by
  intro x hx
  rcases d.enc_mem _ d.np x hx with h | ⟨j, hj, e⟩
  · obtain ⟨i, hi, rfl⟩ := List.mem_map.1 h
    have hi := List.mem_range.1 hi
    have := (d.tok_pc (hX i hi) (hk i hi)).2
    omega
  · omega
section
variable {w0 wX wY : World} {S : Nat → Nat} {K : Nat → Nat → Prop} {d : VD} {sts : List (List Int)} {ts : List Nat} {p1 p2 r1 r2 : Nat} {V : Nat → Value} {L : Nat → List Int} {O : Nat → Bool}
theorem PcI.feed1w (hd : ∀ k, Byt (d.pc k)) (h : PcI w0 S K d sts ts p1 p2 r1 r2 V L O wX) {v : Value} {k : Nat} (f : Fed wX (S 0) (K 0) d sts (V 0) (L 0) (O 0) ((ts.drop p1).take k) v wY) (ho : O 0 = true → v = .slice none 0 0) :
    ∃ V' L' O' A, PcI w0 S K d sts ts (p1 + k) p2 r1 r2 V' L' O' wY ∧ V' 1 = V 1 ∧ V' 2 = V 2 ∧ V' 3 = V 3 ∧ pO d sts ts (p1 + k) = pO d sts ts p1 ++ A ∧ OwnB wY 0 v A ∧ (∀ b, v.ownBlock = some b → (V 1).ownBlock ≠ some b ∧ (V 2).ownBlock ≠ some b ∧ (V 3).ownBlock ≠ some b ∧ w0.heap.size ≤ b) := by
  obtain ⟨wv, hf, h1, h2⟩ := h.fam.feed (j := 0) (by omega) f ho
  obtain ⟨a1, a2, a3⟩ := p_add (sts := sts) hd ts p1 k
  refine ⟨_, _, _, _, ⟨hf, ?_, ?_, ?_, ?_, ?_, ?_⟩, pt_ne _ _ (by decide), pt_ne _ _ (by decide), pt_ne _ _ (by decide), a3, ?_, fun b hb => ⟨fun e => h2 1 (by omega) b (by rw [pt_ne _ _ (by decide)]; exact e) hb, fun e => h2 2 (by omega) b (by rw [pt_ne _ _ (by decide)]; exact e) hb, fun e => h2 3 (by omega) b (by rw [pt_ne _ _ (by decide)]; exact e) hb, ?_⟩⟩
  · rw [pt_at, a1, h.x1, h.e1]
  · rw [pt_ne _ _ (by decide)]; exact h.x2
  · rw [pt_at, a2, h.x1, h.e1]
  · rw [pt_ne _ _ (by decide)]; exact h.e2
  · rw [pt_ne _ _ (by decide)]; exact h.o1
  · rw [pt_ne _ _ (by decide)]; exact h.o2
  · rw [← h.x1, ← h.e1]; exact h1
  · rcases f.blk b hb with e | e
    · exact h.fam.lo 0 (by omega) b e
    · have := h.fam.size; omega
end
/-- token 0: all that waited comes -/
theorem fd_end {d : VD} {sts : List (List Int)} (x : List Int) : fdO d sts x false [0] = x ∧ fdX d sts x false [0] = [] ∧ fdE d sts x false [0] = true := by
  have e : comT d sts x [0] = (x, true) := by rw [comT_cons, if_pos rfl]
  simp [fdO, fdX, fdE, e, gvN]

section
variable {w0 wX wY : World} {S : Nat → Nat} {K : Nat → Nat → Prop} {d : VD} {sts : List (List Int)} {ts : List Nat} {p1 p2 r1 r2 : Nat} {V : Nat → Value} {L : Nat → List Int} {O : Nat → Bool}
theorem PcI.feed2w (hd : ∀ k, Byt (d.pc k)) (h : PcI w0 S K d sts ts p1 p2 r1 r2 V L O wX) {v : Value} {k : Nat} (f : Fed wX (S 1) (K 1) d sts (V 1) (L 1) (O 1) ((ts.drop p2).take k) v wY) (ho : O 1 = true → v = .slice none 0 0) :
    ∃ V' L' O' A, PcI w0 S K d sts ts p1 (p2 + k) r1 r2 V' L' O' wY ∧ V' 2 = V 2 ∧ V' 3 = V 3 ∧ pO d sts ts (p2 + k) = pO d sts ts p2 ++ A ∧ OwnB wY 0 v A ∧ (∀ b, v.ownBlock = some b → (V 2).ownBlock ≠ some b ∧ (V 3).ownBlock ≠ some b) := by
  obtain ⟨wv, hf, h1, h2⟩ := h.fam.feed (j := 1) (by omega) f ho
  obtain ⟨a1, a2, a3⟩ := p_add (sts := sts) hd ts p2 k
  refine ⟨_, _, _, _, ⟨hf, ?_, ?_, ?_, ?_, ?_, ?_⟩, pt_ne _ _ (by decide), pt_ne _ _ (by decide), a3, ?_, fun b hb => ⟨fun e => h2 2 (by omega) b (by rw [pt_ne _ _ (by decide)]; exact e) hb, fun e => h2 3 (by omega) b (by rw [pt_ne _ _ (by decide)]; exact e) hb⟩⟩
  · rw [pt_ne _ _ (by decide)]; exact h.x1
  · rw [pt_at, a1, h.x2, h.e2]
  · rw [pt_ne _ _ (by decide)]; exact h.e1
  · rw [pt_at, a2, h.x2, h.e2]
  · rw [pt_ne _ _ (by decide)]; exact h.o1
  · rw [pt_ne _ _ (by decide)]; exact h.o2
  · rw [← h.x2, ← h.e2]; exact h1
theorem PcI.last (h : PcI w0 S K d sts ts p1 p2 r1 r2 V L O wX) (hO : O 1 = false) {v : Value} (f : Fed wX (S 1) (K 1) d sts (V 1) (L 1) (O 1) [0] v wY) :
    ∃ wv, Fam w0 2 4 S K d (fun _ => sts) (pt V 1 wv) (pt L 1 []) (pt O 1 true) wY ∧ OwnB wY 0 v (L 1) ∧ (∀ i, i < 4 → ∀ b, (pt V 1 wv i).ownBlock = some b → v.ownBlock ≠ some b) := by
  obtain ⟨wv, h1, h2, h3⟩ := h.fam.feed (j := 1) (by omega) f (fun e => by rw [hO] at e; cases e)
  obtain ⟨E1, E2, E3⟩ := fd_end (d := d) (sts := sts) (L 1)
  simp only [hO, E1, E2, E3] at h1 h2
  exact ⟨wv, h1, h2, h3⟩
end
theorem new_bad0 {w : World} {d : VD} {bo po : Option Addr} {cb cp : Nat} (hb : RdA w bo 1 d.nb cb (fun i => .int .u8 (d.B i))) (hp : RdA w po 2 d.np cp (tcs d.P d.Q)) (hR : ¬ d.Right) :
    Calls Try.prog 11 #[.agg #[.slice bo d.nb cb, .slice po d.np cp], .slice none 0 0] w fun e w' => e = .returned (.tuple #[.pointer none, .int .i64 50]) ∧ Below w.heap.size w w' := by
  have hs : RdA w none 1 ([] : List ByteArray).length 0 (fun i => .string (([] : List ByteArray).getD i ByteArray.empty)) := ⟨Nat.le_refl _, Nat.zero_le _, fun h => absurd h (Nat.lt_irrefl 0)⟩
  have := new_bad (sb := []) (so := none) (cs := 0) hb hp hs (fun i hi => absurd hi (Nat.not_lt_zero i)) (fun h => hR h.1)
  refine Calls.mono this ?_
  rintro e w' ⟨⟨x, rfl, _, h, _⟩, f⟩
  rw [h hR]
  exact ⟨rfl, f⟩
end Go.Proofs.Ytlbmgknlbhakoaa
