import Derived.Test.YtppcgfdogacmkaaQG
namespace Go.Proofs.Ytppcgfdogacmkaa
open Go.RowKit
/-! Notes of all slots. -/
theorem infoNote : (Try.prog.info? 34).map (fun i => (i.zero, i.size, i.bytes)) = some (some (.agg #[.slice none 0 0, .slice none 0 0, .slice none 0 0, .slice none 0 0]), 4, 96) := by kernel_rfl
def nt (bk : Nat → Nat) : Nat → Value := fun c => .slice (some ⟨bk c, 0, none⟩) 3 3
structure Kp (w0 w : World) (g cb nb B S base : Nat) (cnt : Nat → Nat) (num : Nat → Int) (vN : Value) (n : Nat) (bk : Nat → Nat) : Prop where
  P : PoolAt w g cb nb 2 3 B S cnt num
  own : Own w base 34 4 vN n (nt bk)
  row : ∀ c, c < 4 * n → w.rowIs (bk c) 116 3 (fun j => .int .i8 (num (3 * c + j)))
  ne : ∀ c, c < 4 * n → bk c ≠ nb
  low : Below w0.heap.size w0 w
  new : w0.heap.size ≤ g ∧ w0.heap.size ≤ cb ∧ w0.heap.size ≤ nb ∧ w0.heap.size ≤ base
  bs : base ≤ w.heap.size
  cn : ∀ b, b < B → cnt b ≠ 0
theorem Kp.fresh {w0 w w' : World} {g cb nb B S base : Nat} {cnt : Nat → Nat} {num : Nat → Int} {vN : Value} {n : Nat} {bk : Nat → Nat} (h : Kp w0 w g cb nb B S base cnt num vN n bk) (f : Below w.heap.size w w') : Kp w0 w' g cb nb B S base cnt num vN n bk :=
  ⟨h.P.fresh f, h.own.kept f, fun c hc => (h.row c hc).of_block (f.block _ (h.row c hc).lt), h.ne, h.low.trans (f.mono h.low.size), h.new, Nat.le_trans h.bs f.size, h.cn⟩
theorem Kp.geo {w0 w : World} {g cb nb B S base : Nat} {cnt : Nat → Nat} {num : Nat → Int} {vN : Value} {n : Nat} {bk : Nat → Nat} (h : Kp w0 w g cb nb B S base cnt num vN n bk) : Geo 2 3 B S 12 (S * 12) (B * S * 12) := by
  obtain ⟨q, m, T, G⟩ := h.P.geo
  have e1 := G.eq
  have e2 := G.en
  have e3 := G.eT
  simp only [Nat.reduceMul] at e1
  subst e1
  subst e2
  subst e3
  exact G
def pushB (bk : Nat → Nat) (n : Nat) (b : Nat → Nat) : Nat → Nat := fun c => if c < 4 * n then bk c else b (c - 4 * n)
theorem pushB_lt {bk b : Nat → Nat} {n c : Nat} (h : c < 4 * n) : pushB bk n b c = bk c := if_pos h
theorem pushB_at {bk b : Nat → Nat} {n : Nat} (k : Nat) : pushB bk n b (4 * n + k) = b k := by unfold pushB; rw [if_neg (by omega), show 4 * n + k - 4 * n = k by omega]
theorem setS_out {num nv : Nat → Int} {o j : Nat} (h : ¬ (o ≤ j ∧ j < o + 12)) : setS num o nv j = num j := if_neg h
theorem setS_in {num nv : Nat → Int} {o k : Nat} (h : k < 12) : setS num o nv (o + k) = nv k := by unfold setS; rw [if_pos (by omega), show o + k - o = k by omega]
/-- one more slot filled and noted -/
theorem Kp.push {w0 w w1 w2 w3 : World} {g cb nb B S base : Nat} {cnt : Nat → Nat} {num nv : Nat → Int} {vN vN' : Value} {n : Nat} {bk b : Nat → Nat} (h : Kp w0 w g cb nb B S base cnt num vN n bk) (hN : NoteAt w1 b nv) (hb : ∀ k, k < 4 → w.heap.size ≤ b k) (hP : PoolAt w1 g cb nb 2 3 B S cnt (setS num (n * 12) nv)) (c : Chg w w1 (fun b => b = nb)) (f : Below w1.heap.size w1 w2) (ho : Own w3 base 34 4 vN' (n + 1) (nt (pushB bk n b))) (ha : App w2 w3 vN vN') : Kp w0 w3 g cb nb B S base cnt (setS num (n * 12) nv) vN' (n + 1) (pushB bk n b) := by
  have hnl := h.P.nums.lt
  have hO1 := Own.chg c h.own (fun x hx e => by subst e; exact h.own.apart h.P.nums (by decide) hx)
  have hO2 := hO1.kept f
  have ca := Chg.of_app ha
  have hP2 := hP.fresh f
  have rk : ∀ x m F, w1.rowIs x 116 m F → w3.rowIs x 116 m F := fun x m F hr => by
    have hr2 := hr.of_block (f.block _ hr.lt)
    exact ca.row hr2 (hO2.apart hr2 (by decide))
  refine ⟨hP2.chg ca (hO2.apart hP2.row (by decide)) (hO2.apart hP2.cnts (by decide)) (hO2.apart hP2.nums (by decide)), ho, fun x hx => ?_, fun x hx => ?_, ?_, h.new, Nat.le_trans h.bs (Nat.le_trans c.size (Nat.le_trans f.size ca.size)), h.cn⟩
  · by_cases e : x < 4 * n
    · rw [pushB_lt e]
      have r := c.row (h.row x e) (h.ne x e)
      exact (rk _ _ _ r).congr (fun j hj => by rw [setS_out (by omega)])
    · obtain ⟨k, rfl⟩ : ∃ k, x = 4 * n + k := ⟨x - 4 * n, by omega⟩
      rw [pushB_at]
      exact (rk _ _ _ (hN.row k (by omega))).congr (fun j hj => by rw [show 3 * (4 * n + k) + j = n * 12 + (3 * k + j) by omega, setS_in (by omega)])
  · by_cases e : x < 4 * n
    · rw [pushB_lt e]; exact h.ne x e
    · obtain ⟨k, rfl⟩ : ∃ k, x = 4 * n + k := ⟨x - 4 * n, by omega⟩
      rw [pushB_at]
      have := hb k (by omega)
      omega
  · have l1 := c.below h.low h.low.size (fun x e => by subst e; exact h.new.2.2.1)
    have l2 := l1.trans (f.mono (Nat.le_trans h.low.size c.size))
    exact ca.below l2 (Nat.le_trans h.low.size (Nat.le_trans c.size f.size)) (fun x e => by have := (hO2.lt x e).1; have := h.new.2.2.2; omega)
/-- the notes' row -/
structure Kr (w0 w : World) (g cb nb B S : Nat) (cnt : Nat → Nat) (num : Nat → Int) (gN cN n : Nat) (bk : Nat → Nat) : Prop where
  P : PoolAt w g cb nb 2 3 B S cnt num
  N : ∃ F, w.rowIs gN 34 (cN * 4) F ∧ ∀ c, c < 4 * n → F c = nt bk c
  row : ∀ c, c < 4 * n → w.rowIs (bk c) 116 3 (fun j => .int .i8 (num (3 * c + j)))
  ne : ∀ c, c < 4 * n → bk c ≠ nb
  low : Below w0.heap.size w0 w
  new : w0.heap.size ≤ g ∧ w0.heap.size ≤ cb ∧ w0.heap.size ≤ nb ∧ w0.heap.size ≤ gN
  nc : n ≤ cN ∧ cN ≤ 9223372036854775807
  cn : ∀ b, b < B → cnt b ≠ 0
theorem Kp.kr {w0 w : World} {g cb nb B S base : Nat} {cnt : Nat → Nat} {num : Nat → Int} {vN : Value} {n : Nat} {bk : Nat → Nat} (h : Kp w0 w g cb nb B S base cnt num vN n bk) (hn : 0 < n) : ∃ gN cN, vN = .slice (some ⟨gN, 0, none⟩) n cN ∧ Kr w0 w g cb nb B S cnt num gN cN n bk := by
  obtain ⟨gN, cN, F, rfl, h1, h2, h3, hr, hF⟩ := h.own.row hn
  exact ⟨gN, cN, rfl, ⟨h.P, ⟨F, hr, fun c hc => hF c (by omega)⟩, h.row, h.ne, h.low, ⟨h.new.1, h.new.2.1, h.new.2.2.1, by have := h.new.2.2.2; omega⟩, ⟨h1, by unfold maxLen at h2; omega⟩, h.cn⟩⟩
theorem Kr.fresh {w0 w w' : World} {g cb nb B S : Nat} {cnt : Nat → Nat} {num : Nat → Int} {gN cN n : Nat} {bk : Nat → Nat} (h : Kr w0 w g cb nb B S cnt num gN cN n bk) (f : Below w.heap.size w w') : Kr w0 w' g cb nb B S cnt num gN cN n bk := by
  obtain ⟨F, hr, hF⟩ := h.N
  exact ⟨h.P.fresh f, ⟨F, hr.of_block (f.block _ hr.lt), hF⟩, fun c hc => (h.row c hc).of_block (f.block _ (h.row c hc).lt), h.ne, h.low.trans (f.mono h.low.size), h.new, h.nc, h.cn⟩
theorem Kr.geo {w0 w : World} {g cb nb B S : Nat} {cnt : Nat → Nat} {num : Nat → Int} {gN cN n : Nat} {bk : Nat → Nat} (h : Kr w0 w g cb nb B S cnt num gN cN n bk) : Geo 2 3 B S 12 (S * 12) (B * S * 12) := by
  obtain ⟨q, m, T, G⟩ := h.P.geo
  have e1 := G.eq
  have e2 := G.en
  have e3 := G.eT
  simp only [Nat.reduceMul] at e1
  subst e1
  subst e2
  subst e3
  exact G
theorem Kr.cells {w0 w : World} {g cb nb B S : Nat} {cnt : Nat → Nat} {num : Nat → Int} {gN cN n : Nat} {bk : Nat → Nat} (h : Kr w0 w g cb nb B S cnt num gN cN n bk) {t : Nat} (ht : t < n) : w.cell? ⟨gN, t * 4, none⟩ = some (.slice (some ⟨bk (4 * t + 0), 0, none⟩) 3 3) ∧ w.cell? ⟨gN, t * 4 + 1, none⟩ = some (.slice (some ⟨bk (4 * t + 1), 0, none⟩) 3 3) ∧ w.cell? ⟨gN, t * 4 + 2, none⟩ = some (.slice (some ⟨bk (4 * t + 2), 0, none⟩) 3 3) ∧ w.cell? ⟨gN, t * 4 + 3, none⟩ = some (.slice (some ⟨bk (4 * t + 3), 0, none⟩) 3 3) := by
  obtain ⟨F, hr, hF⟩ := h.N
  have hc := h.nc.1
  refine ⟨?_, ?_, ?_, ?_⟩
  · rw [hr.cell (i := t * 4) (by omega), hF _ (by omega), show t * 4 = 4 * t + 0 by omega]; rfl
  · rw [hr.cell (i := t * 4 + 1) (by omega), hF _ (by omega), show t * 4 + 1 = 4 * t + 1 by omega]; rfl
  · rw [hr.cell (i := t * 4 + 2) (by omega), hF _ (by omega), show t * 4 + 2 = 4 * t + 2 by omega]; rfl
  · rw [hr.cell (i := t * 4 + 3) (by omega), hF _ (by omega), show t * 4 + 3 = 4 * t + 3 by omega]; rfl
theorem Kr.note {w0 w : World} {g cb nb B S : Nat} {cnt : Nat → Nat} {num : Nat → Int} {gN cN n : Nat} {bk : Nat → Nat} (h : Kr w0 w g cb nb B S cnt num gN cN n bk) {t : Nat} (ht : t < n) : NoteAt w (fun k => bk (4 * t + k)) (fun j => num (t * 12 + j)) :=
  ⟨fun k hk => (h.row (4 * t + k) (by omega)).congr (fun j _ => by show Value.int .i8 (num (3 * (4 * t + k) + j)) = .int .i8 (num (t * 12 + (3 * k + j))); rw [show 3 * (4 * t + k) + j = t * 12 + (3 * k + j) by omega])⟩
set_option maxRecDepth 20000 in
theorem Kr.tells {w0 w : World} {g cb nb B S : Nat} {cnt : Nat → Nat} {num : Nat → Int} {gN cN n : Nat} {bk : Nat → Nat} (h : Kr w0 w g cb nb B S cnt num gN cN n bk) (hn : n = B * S) {t : Nat} (ht : t < n) : Calls Try.prog 15 #[.pointer (some ⟨g, 0, none⟩), .int .i64 t, .agg #[.slice (some ⟨bk (4 * t + 0), 0, none⟩) 3 3, .slice (some ⟨bk (4 * t + 1), 0, none⟩) 3 3, .slice (some ⟨bk (4 * t + 2), 0, none⟩) 3 3, .slice (some ⟨bk (4 * t + 3), 0, none⟩) 3 3]] w fun e w' => e = .returned (.bool true) ∧ Below w.heap.size w w' := by
  have k := tells_ok h.P h.geo (hn ▸ ht) (h.cn _ (slot_in (hn ▸ ht) h.P.hS.1).1) (h.note ht) (fun _ _ => rfl)
  unfold noteV at k
  exact k
/-- the note of slot t is replaced -/
def setB (bk : Nat → Nat) (t : Nat) (b : Nat → Nat) : Nat → Nat := fun c => if 4 * t ≤ c ∧ c < 4 * t + 4 then b (c - 4 * t) else bk c
theorem Kr.put {w0 w w1 : World} {g cb nb B S : Nat} {cnt : Nat → Nat} {num num' nv : Nat → Int} {gN cN n t : Nat} {bk b : Nat → Nat} (h : Kr w0 w g cb nb B S cnt num gN cN n bk) (_ht : t < n) (hN : NoteAt w1 b nv) (hb : ∀ k, k < 4 → b k ≠ nb) (hP : PoolAt w1 g cb nb 2 3 B S cnt num') (c : Chg w w1 (fun b => b = nb)) (h1 : ∀ j, j < 12 → num' (t * 12 + j) = nv j) (h2 : ∀ j, ¬ (t * 12 ≤ j ∧ j < t * 12 + 12) → num' j = num j) :
    Kr w0 ((((w1.setCell ⟨gN, t * 4, none⟩ (.slice (some ⟨b 0, 0, none⟩) 3 3)).setCell ⟨gN, t * 4 + 1, none⟩ (.slice (some ⟨b 1, 0, none⟩) 3 3)).setCell ⟨gN, t * 4 + 2, none⟩ (.slice (some ⟨b 2, 0, none⟩) 3 3)).setCell ⟨gN, t * 4 + 3, none⟩ (.slice (some ⟨b 3, 0, none⟩) 3 3)) g cb nb B S cnt num' gN cN n (setB bk t b) := by
  obtain ⟨F, hr, hF⟩ := h.N
  have hr1 := c.row hr (rowIs_apart hr h.P.nums (by decide))
  have cs : Chg w1 ((((w1.setCell ⟨gN, t * 4, none⟩ (.slice (some ⟨b 0, 0, none⟩) 3 3)).setCell ⟨gN, t * 4 + 1, none⟩ (.slice (some ⟨b 1, 0, none⟩) 3 3)).setCell ⟨gN, t * 4 + 2, none⟩ (.slice (some ⟨b 2, 0, none⟩) 3 3)).setCell ⟨gN, t * 4 + 3, none⟩ (.slice (some ⟨b 3, 0, none⟩) 3 3)) (fun x => x = gN) := (((Chg.of_set _ _ _ _).trans (Chg.of_set _ _ _ _) (fun _ _ e => e)).trans (Chg.of_set _ _ _ _) (fun _ _ e => e)).trans (Chg.of_set _ _ _ _) (fun _ _ e => e)
  have rk : ∀ x m G, w1.rowIs x 116 m G → x ≠ gN := fun x m G hx => rowIs_apart hx hr1 (by decide)
  refine ⟨hP.chg cs (rowIs_apart hP.row hr1 (by decide)) (rowIs_apart hP.cnts hr1 (by decide)) (rowIs_apart hP.nums hr1 (by decide)), ⟨_, (((hr1.set _ _).set _ _).set _ _).set _ _, fun x hx => ?_⟩, fun x hx => ?_, fun x hx => ?_, ?_, h.new, h.nc, h.cn⟩
  · unfold nt setB
    by_cases e : 4 * t ≤ x ∧ x < 4 * t + 4
    · rw [if_pos e]
      obtain ⟨k, rfl⟩ : ∃ k, x = 4 * t + k := ⟨x - 4 * t, by omega⟩
      rw [show 4 * t + k - 4 * t = k by omega]
      match k, e with
      | 0, _ => rw [if_neg (by omega), if_neg (by omega), if_neg (by omega), if_pos (by omega)]
      | 1, _ => rw [if_neg (by omega), if_neg (by omega), if_pos (by omega)]
      | 2, _ => rw [if_neg (by omega), if_pos (by omega)]
      | 3, _ => rw [if_pos (by omega)]
      | k + 4, e => omega
    · rw [if_neg e, if_neg (by omega), if_neg (by omega), if_neg (by omega), if_neg (by omega)]
      exact hF x hx
  · unfold setB
    by_cases e : 4 * t ≤ x ∧ x < 4 * t + 4
    · rw [if_pos e]
      obtain ⟨k, rfl⟩ : ∃ k, x = 4 * t + k := ⟨x - 4 * t, by omega⟩
      rw [show 4 * t + k - 4 * t = k by omega]
      have r := hN.row k (by omega)
      exact (cs.row r (rk _ _ _ r)).congr (fun j hj => by rw [show 3 * (4 * t + k) + j = t * 12 + (3 * k + j) by omega, h1 _ (by omega)])
    · rw [if_neg e]
      have r := c.row (h.row x hx) (h.ne x hx)
      exact (cs.row r (rk _ _ _ r)).congr (fun j hj => by rw [h2 _ (by omega)])
  · unfold setB
    by_cases e : 4 * t ≤ x ∧ x < 4 * t + 4
    · rw [if_pos e]; exact hb _ (by omega)
    · rw [if_neg e]; exact h.ne x hx
  · exact cs.below (c.below h.low h.low.size (fun x e => by subst e; exact h.new.2.2.1)) (Nat.le_trans h.low.size c.size) (fun x e => by subst e; exact h.new.2.2.2)
theorem tms_two {f : Nat → Nat} {b i j : Nat} (hij : i < j) (h1 : f i = b) (h2 : f j = b) : ∀ {n : Nat}, j < n → 2 ≤ tms f b n
  | 0, h => absurd h (by omega)
  | n + 1, h => by
    rw [tms_succ]
    by_cases e : j = n
    · subst e
      have := tms_pos (n := j) hij h1
      rw [if_pos h2]; omega
    · have := tms_two hij h1 h2 (n := n) (by omega)
      omega
theorem isum_tms (p : Nat → Nat) (v : Nat) : ∀ n, isum (fun i => upd (fun _ => 0) v 1 (p i)) n = (tms p v n : Int)
  | 0 => rfl
  | n + 1 => by
    show isum (fun i => upd (fun _ => 0) v 1 (p i)) n + upd (fun _ => 0) v 1 (p n) = _
    rw [isum_tms p v n, tms_succ]
    unfold upd
    by_cases e : p n = v
    · rw [if_pos e, if_pos e]; omega
    · rw [if_neg e, if_neg e]; show (tms p v n : Int) + 0 = _; omega
theorem Perm.inj {n : Nat} {p : Nat → Nat} (h : Perm n p) {i j : Nat} (hij : i < j) (hj : j < n) : p i ≠ p j := fun e => by
  have hs := h.sum (upd (fun _ => 0) (p j) 1)
  rw [isum_upd, isum_zero, if_pos (h.lt j hj), isum_tms] at hs
  have := tms_two (f := p) (b := p j) hij e rfl hj
  omega
end Go.Proofs.Ytppcgfdogacmkaa
