import Derived.Test.YtppcgfdogacmkaaLPMw
namespace Go.Proofs.Ytppcgfdogacmkaa
open Go.RowKit
/-! Lists of notes, beside the pool. -/
/-- a list of notes that is grown -/
structure No (w : World) (base nb : Nat) (v : Value) (n : Nat) (V : Nat → Int) (bk : Nat → Nat) : Prop where
  own : Own w base 34 4 v n (nt bk)
  row : ∀ c, c < 4 * n → w.rowIs (bk c) 116 3 (fun j => .int .i8 (V (3 * c + j)))
  ne : ∀ c, c < 4 * n → bk c ≠ nb
theorem No.fresh {w w' : World} {base nb : Nat} {v : Value} {n : Nat} {V : Nat → Int} {bk : Nat → Nat} (h : No w base nb v n V bk) (f : Below w.heap.size w w') : No w' base nb v n V bk :=
  ⟨h.own.kept f, fun c hc => (h.row c hc).of_block (f.block _ (h.row c hc).lt), h.ne⟩
theorem No.chg {w w' : World} {base nb m : Nat} {v : Value} {n : Nat} {V : Nat → Int} {bk : Nat → Nat} {G : Nat → Value} (h : No w base nb v n V bk) (hr : w.rowIs nb 116 m G) (c : Chg w w' (fun b => b = nb)) : No w' base nb v n V bk :=
  ⟨Own.chg c h.own (fun x hx e => by subst e; exact h.own.apart hr (by decide) hx), fun x hx => c.row (h.row x hx) (h.ne x hx), h.ne⟩
/-- another list of notes grows -/
theorem No.other {w w' : World} {base nb : Nat} {v u u' : Value} {n : Nat} {V : Nat → Int} {bk : Nat → Nat} {base2 m : Nat} {cs : Nat → Value} (h : No w base nb v n V bk) (ho : Own w base2 34 4 u m cs) (ha : App w w' u u') (hoff : Off u v) : No w' base nb v n V bk :=
  ⟨ha.own h.own hoff, fun c hc => (Chg.of_app ha).row (h.row c hc) (ho.apart (h.row c hc) (by decide)), h.ne⟩
theorem No.push {w w' : World} {base nb : Nat} {v v' : Value} {n : Nat} {V nv : Nat → Int} {bk b : Nat → Nat} (h : No w base nb v n V bk) (hN : NoteAt w b nv) (hb : ∀ k, k < 4 → b k ≠ nb) (ho : Own w' base 34 4 v' (n + 1) (nt (pushB bk n b))) (ha : App w w' v v') : No w' base nb v' (n + 1) (setS V (n * 12) nv) (pushB bk n b) := by
  have ca := Chg.of_app ha
  refine ⟨ho, fun x hx => ?_, fun x hx => ?_⟩
  · by_cases e : x < 4 * n
    · rw [pushB_lt e]
      exact (ca.row (h.row x e) (h.own.apart (h.row x e) (by decide))).congr (fun j hj => by rw [setS_out (by omega)])
    · obtain ⟨k, rfl⟩ : ∃ k, x = 4 * n + k := ⟨x - 4 * n, by omega⟩
      rw [pushB_at]
      have r := hN.row k (by omega)
      exact (ca.row r (h.own.apart r (by decide))).congr (fun j hj => by rw [show 3 * (4 * n + k) + j = n * 12 + (3 * k + j) by omega, setS_in (by omega)])
  · by_cases e : x < 4 * n
    · rw [pushB_lt e]; exact h.ne x e
    · obtain ⟨k, rfl⟩ : ∃ k, x = 4 * n + k := ⟨x - 4 * n, by omega⟩
      rw [pushB_at]
      exact hb k (by omega)
/-- a list of notes that is written into -/
structure Nr (w : World) (nb gN cN n : Nat) (V : Nat → Int) (bk : Nat → Nat) : Prop where
  N : ∃ F, w.rowIs gN 34 (cN * 4) F ∧ ∀ c, c < 4 * n → F c = nt bk c
  row : ∀ c, c < 4 * n → w.rowIs (bk c) 116 3 (fun j => .int .i8 (V (3 * c + j)))
  ne : ∀ c, c < 4 * n → bk c ≠ nb
  nc : n ≤ cN ∧ cN ≤ 9223372036854775807
theorem No.nr {w : World} {base nb : Nat} {v : Value} {n : Nat} {V : Nat → Int} {bk : Nat → Nat} (h : No w base nb v n V bk) (hn : 0 < n) : ∃ gN cN, v = .slice (some ⟨gN, 0, none⟩) n cN ∧ Nr w nb gN cN n V bk ∧ base ≤ gN := by
  obtain ⟨gN, cN, F, rfl, h1, h2, h3, hr, hF⟩ := h.own.row hn
  exact ⟨gN, cN, rfl, ⟨⟨F, hr, fun c hc => hF c (by omega)⟩, h.row, h.ne, ⟨h1, by unfold maxLen at h2; omega⟩⟩, h3⟩
theorem Nr.fresh {w w' : World} {nb gN cN n : Nat} {V : Nat → Int} {bk : Nat → Nat} (h : Nr w nb gN cN n V bk) (f : Below w.heap.size w w') : Nr w' nb gN cN n V bk := by
  obtain ⟨F, hr, hF⟩ := h.N
  exact ⟨⟨F, hr.of_block (f.block _ hr.lt), hF⟩, fun c hc => (h.row c hc).of_block (f.block _ (h.row c hc).lt), h.ne, h.nc⟩
/-- a call on the pool, and on one table -/
theorem Nr.chg {w w' : World} {nb gN cN n t cb m1 m2 m3 base m : Nat} {V : Nat → Int} {bk : Nat → Nat} {v : Value} {G1 G2 G3 cs : Nat → Value} (h : Nr w nb gN cN n V bk) (rt : w.rowIs t 103 m1 G1) (rc : w.rowIs cb 3 m2 G2) (rn : w.rowIs nb 116 m3 G3) (ho : Own w base 3 1 v m cs) (c : Chg w w' (fun b => b = t ∨ b = cb ∨ b = nb ∨ v.ownBlock = some b)) : Nr w' nb gN cN n V bk := by
  obtain ⟨F, hr, hF⟩ := h.N
  refine ⟨⟨F, c.row hr ?_, hF⟩, fun x hx => c.row (h.row x hx) ?_, h.ne, h.nc⟩
  · have k1 := rowIs_apart hr rt (by decide)
    have k2 := rowIs_apart hr rc (by decide)
    have k3 := rowIs_apart hr rn (by decide)
    have k4 := ho.apart hr (by decide)
    rintro (e | e | e | e)
    · exact k1 e
    · exact k2 e
    · exact k3 e
    · exact k4 e
  · have k1 := rowIs_apart (h.row x hx) rt (by decide)
    have k2 := rowIs_apart (h.row x hx) rc (by decide)
    have k4 := ho.apart (h.row x hx) (by decide)
    rintro (e | e | e | e)
    · exact k1 e
    · exact k2 e
    · exact h.ne x hx e
    · exact k4 e
theorem Nr.chgP {w w' : World} {nb gN cN n m3 : Nat} {V : Nat → Int} {bk : Nat → Nat} {G3 : Nat → Value} (h : Nr w nb gN cN n V bk) (rn : w.rowIs nb 116 m3 G3) (c : Chg w w' (fun b => b = nb)) : Nr w' nb gN cN n V bk := by
  obtain ⟨F, hr, hF⟩ := h.N
  exact ⟨⟨F, c.row hr (rowIs_apart hr rn (by decide)), hF⟩, fun x hx => c.row (h.row x hx) (h.ne x hx), h.ne, h.nc⟩
theorem Nr.cells {w : World} {nb gN cN n : Nat} {V : Nat → Int} {bk : Nat → Nat} (h : Nr w nb gN cN n V bk) {t : Nat} (ht : t < n) : w.cell? ⟨gN, t * 4, none⟩ = some (.slice (some ⟨bk (4 * t + 0), 0, none⟩) 3 3) ∧ w.cell? ⟨gN, t * 4 + 1, none⟩ = some (.slice (some ⟨bk (4 * t + 1), 0, none⟩) 3 3) ∧ w.cell? ⟨gN, t * 4 + 2, none⟩ = some (.slice (some ⟨bk (4 * t + 2), 0, none⟩) 3 3) ∧ w.cell? ⟨gN, t * 4 + 3, none⟩ = some (.slice (some ⟨bk (4 * t + 3), 0, none⟩) 3 3) := by
  obtain ⟨F, hr, hF⟩ := h.N
  have hc := h.nc.1
  refine ⟨?_, ?_, ?_, ?_⟩
  · rw [hr.cell (i := t * 4) (by omega), hF _ (by omega), show t * 4 = 4 * t + 0 by omega]; rfl
  · rw [hr.cell (i := t * 4 + 1) (by omega), hF _ (by omega), show t * 4 + 1 = 4 * t + 1 by omega]; rfl
  · rw [hr.cell (i := t * 4 + 2) (by omega), hF _ (by omega), show t * 4 + 2 = 4 * t + 2 by omega]; rfl
  · rw [hr.cell (i := t * 4 + 3) (by omega), hF _ (by omega), show t * 4 + 3 = 4 * t + 3 by omega]; rfl
theorem Nr.note {w : World} {nb gN cN n : Nat} {V : Nat → Int} {bk : Nat → Nat} (h : Nr w nb gN cN n V bk) {t : Nat} (ht : t < n) : NoteAt w (fun k => bk (4 * t + k)) (fun j => V (t * 12 + j)) :=
  ⟨fun k hk => (h.row (4 * t + k) (by omega)).congr (fun j _ => by show Value.int .i8 (V (3 * (4 * t + k) + j)) = .int .i8 (V (t * 12 + (3 * k + j))); rw [show 3 * (4 * t + k) + j = t * 12 + (3 * k + j) by omega])⟩
/-- four cells of a list of notes are written -/
def put4 (w1 : World) (gN t : Nat) (b : Nat → Nat) : World := (((w1.setCell ⟨gN, t * 4, none⟩ (.slice (some ⟨b 0, 0, none⟩) 3 3)).setCell ⟨gN, t * 4 + 1, none⟩ (.slice (some ⟨b 1, 0, none⟩) 3 3)).setCell ⟨gN, t * 4 + 2, none⟩ (.slice (some ⟨b 2, 0, none⟩) 3 3)).setCell ⟨gN, t * 4 + 3, none⟩ (.slice (some ⟨b 3, 0, none⟩) 3 3)
theorem put4_chg (w1 : World) (gN t : Nat) (b : Nat → Nat) : Chg w1 (put4 w1 gN t b) (fun x => x = gN) := (((Chg.of_set _ _ _ _).trans (Chg.of_set _ _ _ _) (fun _ _ e => e)).trans (Chg.of_set _ _ _ _) (fun _ _ e => e)).trans (Chg.of_set _ _ _ _) (fun _ _ e => e)
theorem Nr.put {w1 : World} {nb gN cN n t : Nat} {V nv : Nat → Int} {bk b : Nat → Nat} (h : Nr w1 nb gN cN n V bk) (hN : NoteAt w1 b nv) (hb : ∀ k, k < 4 → b k ≠ nb) : Nr (put4 w1 gN t b) nb gN cN n (setS V (t * 12) nv) (setB bk t b) := by
  obtain ⟨F, hr, hF⟩ := h.N
  have cs := put4_chg w1 gN t b
  have rk : ∀ x m G, w1.rowIs x 116 m G → x ≠ gN := fun x m G hx => rowIs_apart hx hr (by decide)
  refine ⟨⟨_, (((hr.set _ _).set _ _).set _ _).set _ _, fun x hx => ?_⟩, fun x hx => ?_, fun x hx => ?_, h.nc⟩
  · unfold nt setB
    by_cases e : 4 * t ≤ x ∧ x < 4 * t + 4
    · rw [if_pos e]
      obtain ⟨k, rfl⟩ : ∃ k, x = 4 * t + k := ⟨x - 4 * t, by omega⟩
      rw [show 4 * t + k - 4 * t = k by omega]
      match k, e with
      | 0, _ => rw [if_neg (by omega), if_neg (by omega), if_neg (by omega), if_pos (by omega)]
      | 1, _ => rw [if_neg (by omega), if_neg (by omega), if_pos (by omega)]
      | 2, _ => rw [if_neg (by omega), if_pos (by omega)]
      | 3, _ => rw [if_pos (by omega)]
      | k + 4, e => omega
    · rw [if_neg e, if_neg (by omega), if_neg (by omega), if_neg (by omega), if_neg (by omega)]
      exact hF x hx
  · unfold setB
    by_cases e : 4 * t ≤ x ∧ x < 4 * t + 4
    · rw [if_pos e]
      obtain ⟨k, rfl⟩ : ∃ k, x = 4 * t + k := ⟨x - 4 * t, by omega⟩
      rw [show 4 * t + k - 4 * t = k by omega]
      have r := hN.row k (by omega)
      exact (cs.row r (rk _ _ _ r)).congr (fun j hj => by rw [show 3 * (4 * t + k) + j = t * 12 + (3 * k + j) by omega, setS_in (by omega)])
    · rw [if_neg e]
      have r := h.row x hx
      exact (cs.row r (rk _ _ _ r)).congr (fun j hj => by rw [setS_out (by omega)])
  · unfold setB
    by_cases e : 4 * t ≤ x ∧ x < 4 * t + 4
    · rw [if_pos e]; exact hb _ (by omega)
    · rw [if_neg e]; exact h.ne x hx
/-- the other list stays -/
theorem Nr.apart {w1 : World} {nb gN cN n t gM : Nat} {V : Nat → Int} {bk b : Nat → Nat} {m : Nat} {G : Nat → Value} (h : Nr w1 nb gN cN n V bk) (hM : w1.rowIs gM 34 m G) (hne : gN ≠ gM) : Nr (put4 w1 gM t b) nb gN cN n V bk := by
  obtain ⟨F, hr, hF⟩ := h.N
  have cs := put4_chg w1 gM t b
  exact ⟨⟨F, cs.row hr hne, hF⟩, fun x hx => cs.row (h.row x hx) (rowIs_apart (h.row x hx) hM (by decide)), h.ne, h.nc⟩
end Go.Proofs.Ytppcgfdogacmkaa
