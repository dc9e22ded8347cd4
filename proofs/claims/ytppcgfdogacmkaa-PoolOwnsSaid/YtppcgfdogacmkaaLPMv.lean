import Derived.Test.YtppcgfdogacmkaaQH
import Derived.Test.YtppcgfdogacmkaaLPLk
namespace Go.Proofs.Ytppcgfdogacmkaa
open Go.RowKit
/-! PoolMoves. -/
theorem infoMove : (Try.prog.info? 42).map (fun i => (i.zero, i.size, i.bytes)) = some (some (.agg #[.int .i64 0, .int .i64 0]), 2, 16) := by kernel_rfl
theorem moved_at {num : Nat → Int} {q : Nat} {F T : Nat → Nat} {n : Nat} (hd : ∀ i j, i < j → j < n → T i ≠ T j) : ∀ {m i j : Nat}, m ≤ n → i < m → j < q → movedN num q F T m (T i * q + j) = num (F i * q + j)
  | 0, _, _, _, h, _ => absurd h (by omega)
  | m + 1, i, j, hm, hi, hj => by
    show (if T m * q ≤ T i * q + j ∧ T i * q + j < T m * q + q then num (F m * q + (T i * q + j - T m * q)) else movedN num q F T m (T i * q + j)) = _
    by_cases e : i = m
    · subst e
      rw [if_pos (by omega), show T i * q + j - T i * q = j by omega]
    · have hne := hd i m (by omega) (by omega)
      rw [if_neg, moved_at hd (by omega) (by omega) hj]
      rintro ⟨h1, h2⟩
      have a := (part_div h1 h2).1
      have b := (part_div (q := q) (k := T i) (j := T i * q + j) (by omega) (by omega)).1
      omega
/-- takings of all blocks -/
theorem takes_all {B : Nat} : ∀ b, b < B → takesC B (fun _ => 0) B b ≠ 0 := fun b hb e => by
  have h1 := takes_free (B := B) (c := fun _ => 0) B (by rw [freeN_zero]; exact Nat.le_refl _)
  rw [freeN_zero] at h1
  have h2 := freeN_upd (cnt := takesC B (fun _ => 0) B) 1 hb
  rw [if_pos e] at h2
  simp at h2
  omega
theorem kp_start {w w' : World} {g cb nb B S : Nat} {cnt : Nat → Nat} {num : Nat → Int} (hP : PoolAt w' g cb nb 2 3 B S cnt num) (hl : Below w.heap.size w w') (hn : w.heap.size ≤ g ∧ w.heap.size ≤ cb ∧ w.heap.size ≤ nb) (hc : ∀ b, b < B → cnt b ≠ 0) : Kp w w' g cb nb B S w'.heap.size cnt num (.slice none 0 0) 0 (fun _ => 0) :=
  ⟨hP, own_nil _ _ _ _ _, fun c hc => absurd hc (by omega), fun c hc => absurd hc (by omega), hl, ⟨hn.1, hn.2.1, hn.2.2, hl.size⟩, Nat.le_refl _, hc⟩
theorem made_pool (w : World) (a b : Int) :
    Calls Try.prog 10 #[.int .i64 a, .int .i64 b, .int .i64 0] w fun e w' => ∃ g cb nb B S ao cap, e = .returned (.tuple #[.pointer (some ⟨g, 0, none⟩), .slice ao 0 cap, .int .i64 (B : Nat), .int .i64 (S : Nat)]) ∧ PoolAt w' g cb nb 2 3 B S (fun _ => 0) (fun _ => 0) ∧ (w.heap.size ≤ g ∧ w.heap.size ≤ cb ∧ w.heap.size ≤ nb) ∧ (2 ≤ B ∧ B ≤ 17) ∧ (1 ≤ S ∧ S ≤ 6) ∧ Below w.heap.size w w' := by
  refine (made_any w a b 0 (by decide)).mono ?_
  rintro e w' ⟨g, cb, nb, ao, cap, tb, rfl, hM⟩
  have hB := md_lt a (n := 16) (by decide)
  have hS := md_lt b (n := 6) (by decide)
  exact ⟨g, cb, nb, _, _, ao, cap, rfl, hM.pool, hM.new, by omega, by omega, hM.low⟩
theorem mcs_cells {w : World} {v : Value} {base n : Nat} {F T : Nat → Nat} (h : Own w base 42 2 v n (mcs F T)) (hn : 0 < n) : ∃ b c, v = .slice (some ⟨b, 0, none⟩) n c ∧ RdA w (some ⟨b, 0, none⟩) 2 n c (mcs F T) ∧ base ≤ b := by
  rcases h.2 with ⟨_, e⟩ | ⟨g, cap, cur, rfl, hb, _⟩
  · omega
  · obtain ⟨ao, c, hv, hr⟩ := h.rd
    simp only [Value.slice.injEq] at hv
    obtain ⟨rfl, _, rfl⟩ := hv
    exact ⟨g, cap, rfl, hr, hb⟩
theorem Kr.chgP {w0 w w1 : World} {g cb nb B S : Nat} {cnt : Nat → Nat} {num : Nat → Int} {gN cN n : Nat} {bk : Nat → Nat} (h : Kr w0 w g cb nb B S cnt num gN cN n bk) (c : Chg w w1 (fun b => b = nb)) : (∃ F, w1.rowIs gN 34 (cN * 4) F ∧ ∀ c, c < 4 * n → F c = nt bk c) ∧ (∀ c, c < 4 * n → w1.rowIs (bk c) 116 3 (fun j => .int .i8 (num (3 * c + j)))) ∧ Below w0.heap.size w0 w1 := by
  obtain ⟨F, hr, hF⟩ := h.N
  exact ⟨⟨F, c.row hr (rowIs_apart hr h.P.nums (by decide)), hF⟩, fun x hx => c.row (h.row x hx) (h.ne x hx), c.below h.low h.low.size (fun x e => by subst e; exact h.new.2.2.1)⟩
/-- the notes as they were, the pool's numbers moved -/
structure Km (w0 w : World) (g cb nb B S : Nat) (cnt : Nat → Nat) (num num' : Nat → Int) (gN cN n : Nat) (bk : Nat → Nat) : Prop where
  P : PoolAt w g cb nb 2 3 B S cnt num'
  N : ∃ F, w.rowIs gN 34 (cN * 4) F ∧ ∀ c, c < 4 * n → F c = nt bk c
  row : ∀ c, c < 4 * n → w.rowIs (bk c) 116 3 (fun j => .int .i8 (num (3 * c + j)))
  ne : ∀ c, c < 4 * n → bk c ≠ nb
  low : Below w0.heap.size w0 w
  nbn : w0.heap.size ≤ nb
  nc : n ≤ cN ∧ cN ≤ 9223372036854775807
  cn : ∀ b, b < B → cnt b ≠ 0
theorem Kr.km {w0 w : World} {g cb nb B S : Nat} {cnt : Nat → Nat} {num : Nat → Int} {gN cN n : Nat} {bk : Nat → Nat} (h : Kr w0 w g cb nb B S cnt num gN cN n bk) : Km w0 w g cb nb B S cnt num num gN cN n bk := ⟨h.P, h.N, h.row, h.ne, h.low, h.new.2.2.1, h.nc, h.cn⟩
theorem Km.fresh {w0 w w' : World} {g cb nb B S : Nat} {cnt : Nat → Nat} {num num' : Nat → Int} {gN cN n : Nat} {bk : Nat → Nat} (h : Km w0 w g cb nb B S cnt num num' gN cN n bk) (f : Below w.heap.size w w') : Km w0 w' g cb nb B S cnt num num' gN cN n bk := by
  obtain ⟨F, hr, hF⟩ := h.N
  exact ⟨h.P.fresh f, ⟨F, hr.of_block (f.block _ hr.lt), hF⟩, fun c hc => (h.row c hc).of_block (f.block _ (h.row c hc).lt), h.ne, h.low.trans (f.mono h.low.size), h.nbn, h.nc, h.cn⟩
theorem Km.chg {w0 w w' : World} {g cb nb B S : Nat} {cnt : Nat → Nat} {num num' num2 : Nat → Int} {gN cN n : Nat} {bk : Nat → Nat} (h : Km w0 w g cb nb B S cnt num num' gN cN n bk) (hP : PoolAt w' g cb nb 2 3 B S cnt num2) (c : Chg w w' (fun b => b = nb)) : Km w0 w' g cb nb B S cnt num num2 gN cN n bk := by
  obtain ⟨F, hr, hF⟩ := h.N
  exact ⟨hP, ⟨F, c.row hr (rowIs_apart hr h.P.nums (by decide)), hF⟩, fun x hx => c.row (h.row x hx) (h.ne x hx), h.ne, c.below h.low h.low.size (fun x e => by subst e; exact h.nbn), h.nbn, h.nc, h.cn⟩
theorem Km.geo {w0 w : World} {g cb nb B S : Nat} {cnt : Nat → Nat} {num num' : Nat → Int} {gN cN n : Nat} {bk : Nat → Nat} (h : Km w0 w g cb nb B S cnt num num' gN cN n bk) : Geo 2 3 B S 12 (S * 12) (B * S * 12) := by
  obtain ⟨q, m, T, G⟩ := h.P.geo
  have e1 := G.eq
  have e2 := G.en
  have e3 := G.eT
  simp only [Nat.reduceMul] at e1
  subst e1
  subst e2
  subst e3
  exact G
theorem Km.cells {w0 w : World} {g cb nb B S : Nat} {cnt : Nat → Nat} {num num' : Nat → Int} {gN cN n : Nat} {bk : Nat → Nat} (h : Km w0 w g cb nb B S cnt num num' gN cN n bk) {t : Nat} (ht : t < n) : w.cell? ⟨gN, t * 4, none⟩ = some (.slice (some ⟨bk (4 * t + 0), 0, none⟩) 3 3) ∧ w.cell? ⟨gN, t * 4 + 1, none⟩ = some (.slice (some ⟨bk (4 * t + 1), 0, none⟩) 3 3) ∧ w.cell? ⟨gN, t * 4 + 2, none⟩ = some (.slice (some ⟨bk (4 * t + 2), 0, none⟩) 3 3) ∧ w.cell? ⟨gN, t * 4 + 3, none⟩ = some (.slice (some ⟨bk (4 * t + 3), 0, none⟩) 3 3) := by
  obtain ⟨F, hr, hF⟩ := h.N
  have hc := h.nc.1
  refine ⟨?_, ?_, ?_, ?_⟩
  · rw [hr.cell (i := t * 4) (by omega), hF _ (by omega), show t * 4 = 4 * t + 0 by omega]; rfl
  · rw [hr.cell (i := t * 4 + 1) (by omega), hF _ (by omega), show t * 4 + 1 = 4 * t + 1 by omega]; rfl
  · rw [hr.cell (i := t * 4 + 2) (by omega), hF _ (by omega), show t * 4 + 2 = 4 * t + 2 by omega]; rfl
  · rw [hr.cell (i := t * 4 + 3) (by omega), hF _ (by omega), show t * 4 + 3 = 4 * t + 3 by omega]; rfl
set_option maxRecDepth 20000 in
theorem Km.tells {w0 w : World} {g cb nb B S : Nat} {cnt : Nat → Nat} {num num' : Nat → Int} {gN cN n : Nat} {bk : Nat → Nat} (h : Km w0 w g cb nb B S cnt num num' gN cN n bk) {s t : Nat} (hs : s < n) (ht : t < B * S) (he : ∀ j, j < 12 → num (s * 12 + j) = num' (t * 12 + j)) : Calls Try.prog 15 #[.pointer (some ⟨g, 0, none⟩), .int .i64 t, .agg #[.slice (some ⟨bk (4 * s + 0), 0, none⟩) 3 3, .slice (some ⟨bk (4 * s + 1), 0, none⟩) 3 3, .slice (some ⟨bk (4 * s + 2), 0, none⟩) 3 3, .slice (some ⟨bk (4 * s + 3), 0, none⟩) 3 3]] w fun e w' => e = .returned (.bool true) ∧ Below w.heap.size w w' := by
  have k := tells_ok (nv := fun j => num (s * 12 + j)) (b := fun k => bk (4 * s + k)) h.P h.geo ht (h.cn _ (slot_in ht h.P.hS.1).1) ⟨fun k hk => (h.row (4 * s + k) (by omega)).congr (fun j _ => by show Value.int .i8 (num (3 * (4 * s + k) + j)) = .int .i8 (num (s * 12 + (3 * k + j))); rw [show 3 * (4 * s + k) + j = s * 12 + (3 * k + j) by omega])⟩ he
  unfold noteV at k
  exact k
end Go.Proofs.Ytppcgfdogacmkaa
