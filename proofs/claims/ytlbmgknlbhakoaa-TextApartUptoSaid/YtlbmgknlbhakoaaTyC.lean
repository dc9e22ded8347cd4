import Derived.Test.YtlbmgknlbhakoaaTyB
namespace Go.Proofs.Ytlbmgknlbhakoaa
open Go.RowKit
/-! The four streams with what has been fed to them. -/
def bj (j : Nat) : Bool := decide (j % 2 = 1)
structure ApX (w0 : World) (gb wb : Nat) (S : Nat → Nat) (K : Nat → Nat → Prop) (d : VD) (sts : Nat → List (List Int)) (On : Nat → Bool) (R : Nat → List Nat) (p q : Nat → Nat) (V : Nat → Value) (L : Nat → List Int) (O : Nat → Bool) (wX : World) : Prop where
  i : ApI w0 gb wb S K d sts V L O wX
  x : ∀ j, j < 4 → L j = fdX d (sts j) [] false (apT On R (bj j) (p j))
  e : ∀ j, j < 4 → O j = fdE d (sts j) [] false (apT On R (bj j) (p j))
  o : ∀ j, j < 4 → L (4 + j) = fdO d (sts j) [] false (apT On R (bj j) (q j))
section
variable {w0 wX wY : World} {gb wb : Nat} {S : Nat → Nat} {K : Nat → Nat → Prop} {d : VD} {sts : Nat → List (List Int)} {On : Nat → Bool} {R : Nat → List Nat} {p q p' q' : Nat → Nat} {V : Nat → Value} {L : Nat → List Int} {O : Nat → Bool}
theorem ApX.fresh (h : ApX w0 gb wb S K d sts On R p q V L O wX) (f : Below wX.heap.size wX wY) : ApX w0 gb wb S K d sts On R p q V L O wY := ⟨h.i.fresh f, h.x, h.e, h.o⟩
theorem ApX.congr (h : ApX w0 gb wb S K d sts On R p q V L O wX) (hp : ∀ j, j < 4 → p j = p' j) (hq : ∀ j, j < 4 → q j = q' j) : ApX w0 gb wb S K d sts On R p' q' V L O wX :=
  ⟨h.i, fun j hj => by rw [← hp j hj]; exact h.x j hj, fun j hj => by rw [← hp j hj]; exact h.e j hj, fun j hj => by rw [← hq j hj]; exact h.o j hj⟩
/-- a piece that is not this stream's -/
theorem ApX.skip (h : ApX w0 gb wb S K d sts On R p q V L O wX) {j : Nat} (h1 : ¬ On (p j) = bj j) (h2 : q j = p j) : ApX w0 gb wb S K d sts On R (pt p j (p j + 1)) (pt q j (p j + 1)) V L O wX := by
  refine ⟨h.i, fun i hi => ?_, fun i hi => ?_, fun i hi => ?_⟩
  · by_cases e : i = j
    · subst e; rw [pt_at, apT_no h1]; exact h.x i hi
    · rw [pt_ne _ _ e]; exact h.x i hi
  · by_cases e : i = j
    · subst e; rw [pt_at, apT_no h1]; exact h.e i hi
    · rw [pt_ne _ _ e]; exact h.e i hi
  · by_cases e : i = j
    · subst e; rw [pt_at, apT_no h1, ← h2]; exact h.o i hi
    · rw [pt_ne _ _ e]; exact h.o i hi
theorem ApX.stl (h : ApX w0 gb wb S K d sts On R p q V L O wX) (hd : ∀ k, Byt (d.pc k)) {j : Nat} (hj : j < 4) : Stl (sts j) (L j) (O j) := by
  rw [h.x j hj, h.e j hj]
  exact fd_stl hd (stl_start _) _
/-- a piece is fed -/
theorem ApX.feed (h : ApX w0 gb wb S K d sts On R p q V L O wX) (hd : ∀ k, Byt (d.pc k)) {j : Nat} (hj : j < 4) (hon : On (p j) = bj j) {v : Value} (f : Fed wX (S j) (K j) d (sts j) (V j) (L j) (O j) (R (p j)) v wY) (ho : O j = true → v = .slice none 0 0) :
    ∃ V' L' O' A, ApX w0 gb wb S K d sts On R (pt p j (p j + 1)) q V' L' O' wY ∧ (∀ i, 4 ≤ i → V' i = V i) ∧ fdO d (sts j) [] false (apT On R (bj j) (p j + 1)) = fdO d (sts j) [] false (apT On R (bj j) (p j)) ++ A ∧ OwnB wY 0 v A ∧ (∀ i, i < 8 → ∀ b, (V' i).ownBlock = some b → v.ownBlock ≠ some b) := by
  obtain ⟨wv, h1, h2, h3⟩ := h.i.feed hj f ho
  obtain ⟨a1, a2, a3⟩ := fd_app hd (stl_start (sts j)) (apT On R (bj j) (p j)) (R (p j))
  rw [← apT_yes hon] at a1 a2 a3
  rw [← h.x j hj, ← h.e j hj] at a1 a2 a3
  refine ⟨_, _, _, _, ⟨h1, fun i hi => ?_, fun i hi => ?_, fun i hi => ?_⟩, fun i hi => pt_ne _ _ (by omega), a1, h2, h3⟩
  · by_cases e : i = j
    · subst e; rw [pt_at, pt_at]; exact a2.symm
    · rw [pt_ne _ _ e, pt_ne _ _ e]; exact h.x i hi
  · by_cases e : i = j
    · subst e; rw [pt_at, pt_at]; exact a3.symm
    · rw [pt_ne _ _ e, pt_ne _ _ e]; exact h.e i hi
  · rw [pt_ne _ _ (by omega)]; exact h.o i hi
/-- and what it gave out is joined -/
theorem ApX.joinG (h : ApX w0 gb wb S K d sts On R p q V L O wX) {j r : Nat} (hj : j = 0 ∨ j = 1) {v : Value} (f : JnP wX (V (4 + j)) (fdO d (sts j) [] false (apT On R (bj j) r)) v wY) : ∃ V' L', ApX w0 gb wb S K d sts On R p (pt q j r) V' L' O (wY.setCell ⟨gb, j, none⟩ v) := by
  have hI := h.i.joinG (i := 4 + j) (by omega) f
  rw [show 4 + j - 4 = j by omega] at hI
  refine ⟨_, _, hI, fun i hi => ?_, h.e, fun i hi => ?_⟩
  · rw [pt_ne _ _ (by omega)]; exact h.x i hi
  · by_cases e : i = j
    · subst e; rw [pt_at, pt_at]
    · rw [pt_ne _ _ (by omega), pt_ne _ _ e]; exact h.o i hi
theorem ApX.joinW (h : ApX w0 gb wb S K d sts On R p q V L O wX) {j r : Nat} (hj : j = 2 ∨ j = 3) {v : Value} (f : JnP wX (V (4 + j)) (fdO d (sts j) [] false (apT On R (bj j) r)) v wY) : ∃ V' L', ApX w0 gb wb S K d sts On R p (pt q j r) V' L' O (wY.setCell ⟨wb, j - 2, none⟩ v) := by
  have hI := h.i.joinW (i := 4 + j) (by omega) f
  rw [show 4 + j - 6 = j - 2 by omega] at hI
  refine ⟨_, _, hI, fun i hi => ?_, h.e, fun i hi => ?_⟩
  · rw [pt_ne _ _ (by omega)]; exact h.x i hi
  · by_cases e : i = j
    · subst e; rw [pt_at, pt_at]
    · rw [pt_ne _ _ (by omega), pt_ne _ _ e]; exact h.o i hi
theorem ApX.len (h : ApX w0 gb wb S K d sts On R p q V L O wX) {tn : Nat → Nat} (hl : ∀ i, (R i).length = tn i) (hm : ∀ i t, t ∈ R i → (d.pc t).length ≤ 16) {j : Nat} (hj : j < 4) : (L (4 + j)).length ≤ 16 * sumN tn (q j) := by
  rw [h.o j hj]
  have h1 := pO_len (d := d) (sts := sts j) (apT On R (bj j) (q j)) (apT_mem hm (q j)) (apT On R (bj j) (q j)).length
  unfold pO at h1
  rw [List.take_length] at h1
  have h2 := apT_len (On := On) (b := bj j) tn hl (q j)
  omega
theorem fdO_len {ts : List Nat} {st : List (List Int)} (hm : ∀ t ∈ ts, (d.pc t).length ≤ 16) : (fdO d st [] false ts).length ≤ 16 * ts.length := by
  have h1 := pO_len (d := d) (sts := st) ts hm ts.length
  unfold pO at h1
  rw [List.take_length] at h1
  exact h1
end
/-- at the end: the rows stay as they were -/
structure ApF (w0 : World) (gb wb : Nat) (S : Nat → Nat) (K : Nat → Nat → Prop) (d : VD) (sts : Nat → List (List Int)) (g0 g1 h0 h1 : Value) (V : Nat → Value) (L : Nat → List Int) (O : Nat → Bool) (wX : World) : Prop where
  fam : Fam w0 4 8 S K d sts V L O wX
  got : wX.rowIs gb 43 2 (two g0 g1)
  want : wX.rowIs wb 43 2 (two h0 h1)
  gl : w0.heap.size ≤ gb
  wl : w0.heap.size ≤ wb
section
variable {w0 wX wY : World} {gb wb : Nat} {S : Nat → Nat} {K : Nat → Nat → Prop} {d : VD} {sts : Nat → List (List Int)} {g0 g1 h0 h1 : Value} {V : Nat → Value} {L : Nat → List Int} {O : Nat → Bool}
theorem ApI.fin (h : ApI w0 gb wb S K d sts V L O wX) : ApF w0 gb wb S K d sts (V 4) (V 5) (V 6) (V 7) V L O wX := ⟨h.fam, h.got, h.want, h.gl, h.wl⟩
theorem ApF.fresh (h : ApF w0 gb wb S K d sts g0 g1 h0 h1 V L O wX) (f : Below wX.heap.size wX wY) : ApF w0 gb wb S K d sts g0 g1 h0 h1 V L O wY := ⟨h.fam.fresh f, h.got.of_block (f.block _ h.got.lt), h.want.of_block (f.block _ h.want.lt), h.gl, h.wl⟩
theorem ApF.close (h : ApF w0 gb wb S K d sts g0 g1 h0 h1 V L O wX) {j : Nat} (hj : j < 4) (hS : StA wY (S j) (K j) d (sts j) (.slice none 0 0) [] true) (c : Chg wX wY (fun b => b = S j)) : ApF w0 gb wb S K d sts g0 g1 h0 h1 (pt V j (.slice none 0 0)) (pt L j []) (pt O j true) wY :=
  ⟨h.fam.close hj hS c, c.row h.got (fun e => by have := h.fam.sl j hj; have := h.gl; omega), c.row h.want (fun e => by have := h.fam.sl j hj; have := h.wl; omega), h.gl, h.wl⟩
theorem ApF.join (h : ApF w0 gb wb S K d sts g0 g1 h0 h1 V L O wX) {i : Nat} (h4 : 4 ≤ i) (hi : i < 8) {v : Value} {l : List Int} (f : JnP wX (V i) l v wY) : ApF w0 gb wb S K d sts g0 g1 h0 h1 (pt V i v) (pt L i l) O wY :=
  ⟨h.fam.join h4 hi f, f.chg.row h.got (Own.apart (h.fam.own i hi) h.got (by decide)), f.chg.row h.want (Own.apart (h.fam.own i hi) h.want (by decide)), h.gl, h.wl⟩
end
/-- streams made one behind the other -/
theorem fam_many {w0 : World} {S : Nat → Nat} {K : Nat → Nat → Prop} {d : VD} {sts : Nat → List (List Int)} (bd : Nat → Nat) (h : ∀ j, j < 4 → StA w0 (S j) (K j) d (sts j) (.slice none 0 0) [] false) (hS : ∀ j, j < 4 → bd j ≤ S j ∧ S j < bd (j + 1)) (hK : ∀ j b, j < 4 → K j b → bd j ≤ b ∧ b < bd (j + 1)) (mono : ∀ i j, i ≤ j → j ≤ 4 → bd i ≤ bd j) :
    Fam w0 4 8 S K d sts (fun _ => .slice none 0 0) (fun _ => []) (fun _ => false) w0 := by
  have nn : ∀ b, (Value.slice none 0 0).ownBlock ≠ some b := fun b e => by simp [Value.ownBlock] at e
  have sd : ∀ i j, i < j → j < 4 → S i < S j := fun i j hij hj => by
    have := hS i (by omega); have := hS j hj; have := mono (i + 1) j (by omega) (by omega); omega
  refine ⟨by omega, fun j hj => (h j hj).p, fun i _ => ownB_nil _ _, fun i _ b hb => absurd hb (nn b), fun i j _ _ _ b hb => absurd hb (nn b), fun j hj => (h j hj).p.lt, fun i j hi hj hne => ?_, fun j b hj hk => ⟨(h j hj).p.kl b hk, fun i hi e => ?_⟩, Chg.refl _ _⟩
  · rcases Nat.lt_or_gt_of_ne hne with e | e
    · have := sd i j e hj; omega
    · have := sd j i e hi; omega
  · have hk1 := hK j b hj hk
    have hs1 := hS i hi
    rcases Nat.lt_trichotomy i j with e2 | e2 | e2
    · have := mono (i + 1) j (by omega) (by omega); omega
    · subst e2
      exact (h i hi).p.kS (e ▸ hk)
    · have := mono (j + 1) i (by omega) (by omega); omega
/-- pieces in memory -/
def pcF (On : Nat → Bool) (qo : Nat → Option Addr) (tn tk : Nat → Nat) (j : Nat) : Value := if j % 2 = 0 then .bool (On (j / 2)) else .slice (qo (j / 2)) (tn (j / 2)) (tk (j / 2))
theorem RdA.piece {w : World} {ao : Option Addr} {n cap : Nat} {On : Nat → Bool} {qo : Nat → Option Addr} {tn tk : Nat → Nat} (h : RdA w ao 2 n cap (pcF On qo tn tk)) (hn : 0 < n) : ∃ b o, ao = some ⟨b, o, none⟩ ∧ ∀ i, i < n → w.cell? ⟨b, o + i * 2, none⟩ = some (.bool (On i)) ∧ w.cell? ⟨b, o + i * 2 + 1, none⟩ = some (.slice (qo i) (tn i) (tk i)) := by
  obtain ⟨b, o, e, hc⟩ := h.at_ hn
  refine ⟨b, o, e, fun i hi => ?_⟩
  have c0 := hc (i * 2) (by omega)
  have c1 := hc (i * 2 + 1) (by omega)
  unfold pcF at c0 c1
  rw [if_pos (by omega), show i * 2 / 2 = i by omega] at c0
  rw [if_neg (by omega), show (i * 2 + 1) / 2 = i by omega, ← Nat.add_assoc] at c1
  exact ⟨c0, c1⟩
end Go.Proofs.Ytlbmgknlbhakoaa
