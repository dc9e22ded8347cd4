import Derived.Test.YtdceahebkohbjabScMl
namespace Go.Proofs.Ytdceahebkohbjab
open Go.RowKit
/-! The law's markedSeats and stillSeats. -/
def mkZ : Se := ⟨-123456, 0, 0, 0, none, 0, 0, fun _ => 0⟩
theorem five {r : Nat} (h : r < 5) : r = 0 ∨ r = 1 ∨ r = 2 ∨ r = 3 ∨ r = 4 := by omega
theorem made5 (w : World) (n : Nat) (t : TypeId) : (w.alloc (.cells (madeCells #[.int .i64 0, .int .i64 0, .int .i64 0, .int .i64 0, .slice none 0 0] (n * 5)) t)).rowIs w.heap.size t (n * 5) (seF (fun _ => seZ)) :=
  ⟨_, Go.Deep.blk_alloc_new _ _, size_madeCells _ _, fun i hi => by
    rcases five (Nat.mod_lt i (by decide : 0 < 5)) with e | e | e | e | e <;> simp [madeCells, hi, e, seF, seC, seZ]⟩
theorem run_make_seats (n : Nat) (hn : n * 56 ≤ 140737488354816) (w : World) : (Instr.makeSlice 24 (.int .i64 (n : Int)) (.int .i64 (n : Int))).run Try.prog w = .ok (.slice (some ⟨w.heap.size, 0, none⟩) n n) (w.alloc (.cells (madeCells #[.int .i64 0, .int .i64 0, .int .i64 0, .int .i64 0, .slice none 0 0] (n * 5)) 32)) := by
  obtain ⟨i, hi, z0, z1, z2⟩ := info_parts infoSe
  have hr := run_make (P := Try.prog) w 24 32 i _ Try.underlying24 hi z0 .i64 .i64 n n (by omega) (Int.le_refl _) (by rw [z2]; omega) (by omega)
  simp only [Int.toNat_natCast, z1] at hr
  exact hr
/-- a seat is written into the row -/
theorem seat_set {w : World} {b N : Nat} {t : TypeId} {X : Nat → Se} (h : w.rowIs b t N (seF X)) (k : Nat) (s : Se) : (((((w.setCell ⟨b, k * 5, none⟩ (.int .i64 s.id)).setCell ⟨b, k * 5 + 1, none⟩ (.int .i64 s.kn)).setCell ⟨b, k * 5 + 2, none⟩ (.int .i64 s.ca)).setCell ⟨b, k * 5 + 3, none⟩ (.int .i64 s.wa)).setCell ⟨b, k * 5 + 4, none⟩ (.slice s.ho s.hn s.hc)).rowIs b t N (seF (updS X k s)) :=
  (((((h.set _ _).set _ _).set _ _).set _ _).set _ _).congr (fun j hj => by
    by_cases e : j / 5 = k
    · obtain ⟨r, hr, rfl⟩ : ∃ r, r < 5 ∧ j = k * 5 + r := ⟨j % 5, Nat.mod_lt _ (by decide), by omega⟩
      rw [seF_updk _ _ _ _ hr]
      rcases five hr with rfl | rfl | rfl | rfl | rfl
      · rw [if_neg (by omega), if_neg (by omega), if_neg (by omega), if_neg (by omega), if_pos (by omega)]; rfl
      · rw [if_neg (by omega), if_neg (by omega), if_neg (by omega), if_pos (by omega)]; rfl
      · rw [if_neg (by omega), if_neg (by omega), if_pos (by omega)]; rfl
      · rw [if_neg (by omega), if_pos (by omega)]; rfl
      · rw [if_pos (by omega)]; rfl
    · rw [if_neg (by omega), if_neg (by omega), if_neg (by omega), if_neg (by omega), if_neg (by omega)]
      unfold seF updS
      rw [if_neg e])
/-- only its blocks are -/
theorem seat_held {w : World} {b N : Nat} {t : TypeId} {X : Nat → Se} (h : w.rowIs b t N (seF X)) (k : Nat) (u : Option Addr) (m c : Nat) : (w.setCell ⟨b, k * 5 + 4, none⟩ (.slice u m c)).rowIs b t N (seF (updS X k { X k with ho := u, hn := m, hc := c })) :=
  (h.set _ _).congr (fun j hj => by
    by_cases e : j / 5 = k
    · obtain ⟨r, hr, rfl⟩ : ∃ r, r < 5 ∧ j = k * 5 + r := ⟨j % 5, Nat.mod_lt _ (by decide), by omega⟩
      rw [seF_updk _ _ _ _ hr, seF_at _ _ _ hr]
      rcases five hr with rfl | rfl | rfl | rfl | rfl
      · rw [if_neg (by omega)]; rfl
      · rw [if_neg (by omega)]; rfl
      · rw [if_neg (by omega)]; rfl
      · rw [if_neg (by omega)]; rfl
      · rw [if_pos (by omega)]; rfl
    · rw [if_neg (by omega)]
      unfold seF updS
      rw [if_neg e])
/-- the marked seats: X in the row g, each with marked blocks in a block of its own -/
structure Msd (w wr : World) (g : Nat) (S X : Nat → Se) (n k c : Nat) : Prop where
  row : wr.rowIs g 32 (c * 5) (seF X)
  low : Below w.heap.size w wr
  hin : ∀ i, i < k → i < n → er (X i) = er (S i) ∧ ∃ b, (X i).ho = some ⟨b, 0, none⟩ ∧ (X i).hc = (S i).hn + 64 ∧ wr.rowIs b 3 ((S i).hn + 64) (fun j => .int .i64 (mkd (S i).H (S i).hn j))
  hout : ∀ i, i < k → n ≤ i → X i = mkZ
theorem Msd.fresh {w wr wz : World} {g : Nat} {S X : Nat → Se} {n k c : Nat} (h : Msd w wr g S X n k c) (f : Below wr.heap.size wr wz) : Msd w wz g S X n k c :=
  ⟨h.row.of_block (f.block _ h.row.lt), h.low.trans (f.mono h.low.size), fun i hi hn => (by
    obtain ⟨e, b, h1, h2, h3⟩ := h.hin i hi hn
    exact ⟨e, b, h1, h2, h3.of_block (f.block _ h3.lt)⟩), h.hout⟩
theorem Msd.seats {w wr : World} {g : Nat} {S X : Nat → Se} {n c : Nat} (h : Msd w wr g S X n c c) (hn : n ≤ c) (hc : c ≤ maxLen) (hh : ∀ i, i < n → (S i).hn ≤ 17592186043904) : SeA wr (some ⟨g, 0, none⟩) n c X :=
  ⟨⟨hn, hc, fun _ => ⟨g, 0, rfl, fun j hj => by rw [Nat.zero_add]; exact h.row.cell (Nat.lt_of_lt_of_le hj (Nat.mul_le_mul_right 5 hn))⟩⟩, fun i hi => (by
    obtain ⟨e, b, h1, h2, h3⟩ := h.hin i (by omega) hi
    rw [h1, h2, er_hn e, er_H e]
    exact mkd_rd h3 (hh i hi))⟩
/-- a store into the row leaves the marked blocks alone -/
theorem Msd.held {w wr wz : World} {g : Nat} {S X : Nat → Se} {n k c : Nat} (h : Msd w wr g S X n k c) (hz : ∀ x, x ≠ g → x < wr.heap.size → wz.heap[x]? = wr.heap[x]?) : ∀ i, i < k → i < n → er (X i) = er (S i) ∧ ∃ b, (X i).ho = some ⟨b, 0, none⟩ ∧ (X i).hc = (S i).hn + 64 ∧ wz.rowIs b 3 ((S i).hn + 64) (fun j => .int .i64 (mkd (S i).H (S i).hn j)) := fun i hi hn => by
  obtain ⟨e, b, h1, h2, h3⟩ := h.hin i hi hn
  exact ⟨e, b, h1, h2, h3.of_block (hz b (fun q => (by subst q; exact absurd (type_apart h.row h3) (by decide))) h3.lt)⟩
end Go.Proofs.Ytdceahebkohbjab
