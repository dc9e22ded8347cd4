import Derived.Test.YtppcgfdogacmkaaQC
namespace Go.Proofs.Ytppcgfdogacmkaa
open Go.RowKit
/-! EqNarrow, vector, tells, fill. -/
set_option maxHeartbeats 1000000 in
theorem eqNarrow_same {w : World} {ao bo : Option Addr} {n ca cb : Nat} {f g : Nat → Int} (ha : RdA w ao 1 n ca (fun i => .int .i8 (f i))) (hb : RdA w bo 1 n cb (fun i => .int .i8 (g i))) (hfg : ∀ i, i < n → f i = g i) :
    Calls Try.prog 43 #[.slice ao n ca, .slice bo n cb] w fun e w' => e = .returned (.bool true) ∧ Below w.heap.size w w' := by
  have hn : n ≤ 9223372036854775807 := by have := ha.le; have := ha.top; unfold maxLen at this; omega
  go_enter Try.func43, Try.ntmps43
  go_wp2
  go_loopw [5] (fun i wr => ∃ k : Nat, k ≤ n ∧ i = .int .i64 k ∧ Below w.heap.size w wr) (fun i _ => n - (intOf i).toNat)
  case atStart => exact ⟨0, by omega, rfl, Below.refl _ _⟩
  case round =>
    obtain ⟨k, hk, rfl, hf⟩ := hrel
    by_cases hlt : k < n
    · obtain ⟨b1, o1, rfl, h1⟩ := (ha.fresh hf).one (by omega)
      obtain ⟨b2, o2, rfl, h2⟩ := (hb.fresh hf).one (by omega)
      have c1 := h1 k hlt
      have c2 := h2 k hlt
      have e := hfg k hlt
      rw [← e] at c2
      clear h1 h2 e
      go_wp2
      go_quiet (fail)
      go_wp2
      go_roundw
      case rel => exact ⟨k + 1, by omega, by go_num, below_drewN hf _⟩
      case measure => simp [intOf]; omega
    · go_wp2
      go_ret
      exact ⟨rfl, hf⟩
theorem row_rd {w : World} {b n : Nat} {t : TypeId} {f : Nat → Value} (h : w.rowIs b t n f) (hn : n ≤ 1000000) : RdA w (some ⟨b, 0, none⟩) 1 n n f := rowIs_rd h (by unfold maxLen; omega)
set_option maxHeartbeats 800000 in
theorem vector_any (x : Int) (w : World) :
    Calls Try.prog 37 #[.int .i64 x] w fun e w' => ∃ f : Nat → Int, e = .returned (.slice (some ⟨w.heap.size, 0, none⟩) 3 3) ∧ w'.rowIs w.heap.size 116 3 (fun i => .int .i8 (f i)) ∧ Below w.heap.size w w' := by
  go_enter Try.func37, Try.ntmps37
  go_wp2
  go_ret
  refine ⟨fun i => if i = 0 then IntKind.i8.wrap x else if i = 1 then IntKind.i8.wrap (x / 256) else IntKind.i8.wrap (x / 65536), rfl, (row3_new _ _ _ _ _).congr (fun i hi => ?_), fresh_alloc _ _⟩
  match i, hi with
  | 0, _ => rfl
  | 1, _ => rfl
  | 2, _ => rfl
/-- the four lists of a note, by their blocks, beside the numbers of a slot -/
structure NoteAt (w : World) (b : Nat → Nat) (nv : Nat → Int) : Prop where
  row : ∀ k, k < 4 → w.rowIs (b k) 116 3 (fun j => .int .i8 (nv (3 * k + j)))
theorem NoteAt.fresh {w w' : World} {b : Nat → Nat} {nv : Nat → Int} (h : NoteAt w b nv) (f : Below w.heap.size w w') : NoteAt w' b nv := ⟨fun k hk => (h.row k hk).of_block (f.block _ (h.row k hk).lt)⟩
theorem NoteAt.chg {w w' : World} {b : Nat → Nat} {nv : Nat → Int} (h : NoteAt w b nv) {T : Nat → Prop} (c : Chg w w' T) (hT : ∀ k, k < 4 → ¬ T (b k)) : NoteAt w' b nv := ⟨fun k hk => c.row (h.row k hk) (hT k hk)⟩
def noteV (b : Nat → Nat) : Value := .agg #[.slice (some ⟨b 0, 0, none⟩) 3 3, .slice (some ⟨b 1, 0, none⟩) 3 3, .slice (some ⟨b 2, 0, none⟩) 3 3, .slice (some ⟨b 3, 0, none⟩) 3 3]
def four (a b c d : Value) : Nat → Value := fun i => if i = 0 then a else if i = 1 then b else if i = 2 then c else d
theorem row4_new (w : World) (t : TypeId) (a b c d : Value) : (w.alloc (.cells #[a, b, c, d] t)).rowIs w.heap.size t 4 (four a b c d) :=
  World.rowIs_alloc w #[a, b, c, d] t _ (fun i hi => by
    match i, hi with
    | 0, _ => rfl
    | 1, _ => rfl
    | 2, _ => rfl
    | 3, _ => rfl)
theorem row4 {w : World} {b : Nat} {t : TypeId} {x y z u : Value} (h : w.rowIs b t 4 (four x y z u)) : w.cell? ⟨b, 0, none⟩ = some x ∧ w.cell? ⟨b, 1, none⟩ = some y ∧ w.cell? ⟨b, 2, none⟩ = some z ∧ w.cell? ⟨b, 3, none⟩ = some u :=
  ⟨h.cell (i := 0) (by decide), h.cell (i := 1) (by decide), h.cell (i := 2) (by decide), h.cell (i := 3) (by decide)⟩
theorem slot_in {s B S : Nat} (h : s < B * S) (_hS : 1 ≤ S) : s / S < B ∧ s * 12 + 12 ≤ B * S * 12 := ⟨(Nat.div_lt_iff_lt_mul (by omega)).2 h, by omega⟩
set_option maxRecDepth 20000 in
set_option maxHeartbeats 2000000 in
theorem tells_ok {w : World} {g cb nb B S s : Nat} {cnt : Nat → Nat} {num nv : Nat → Int} {b : Nat → Nat} (h : PoolAt w g cb nb 2 3 B S cnt num) (G : Geo 2 3 B S 12 (S * 12) (B * S * 12)) (hs : s < B * S) (hsc : cnt (s / S) ≠ 0) (hN : NoteAt w b nv) (he : ∀ j, j < 12 → nv j = num (s * 12 + j)) :
    Calls Try.prog 15 #[.pointer (some ⟨g, 0, none⟩), .int .i64 s, noteV b] w fun e w' => e = .returned (.bool true) ∧ Below w.heap.size w w' := by
  have hS := h.hS
  have hB := h.hB
  obtain ⟨k1, k2⟩ := slot_in hs hS.1
  have hsz : s ≤ 9223372036854775807 := by have := Nat.mul_le_mul hB.2 hS.2; omega
  have HG0 : Hid (∀ z, Below w.heap.size w z → Calls Try.prog 42 #[.pointer (some ⟨g, 0, none⟩), .int .i64 0, .int .i64 s] z fun e w' => ∃ a b, e = .returned (.tuple #[.slice (some ⟨a, 0, none⟩) 3 3, .slice (some ⟨b, 0, none⟩) 3 3, .int .i64 0]) ∧ Got z w' a b 3 (fun i => num (s * 12 + 0 + i)) (fun i => num (s * 12 + 0 + 3 + i))) := fun z f => get_ok (l := 0) (h.fresh f) G rfl k2 rfl (by decide) (by decide) hsz k1 hsc
  have HG1 : Hid (∀ z, Below w.heap.size w z → Calls Try.prog 42 #[.pointer (some ⟨g, 0, none⟩), .int .i64 1, .int .i64 s] z fun e w' => ∃ a b, e = .returned (.tuple #[.slice (some ⟨a, 0, none⟩) 3 3, .slice (some ⟨b, 0, none⟩) 3 3, .int .i64 0]) ∧ Got z w' a b 3 (fun i => num (s * 12 + 6 + i)) (fun i => num (s * 12 + 6 + 3 + i))) := fun z f => get_ok (l := 1) (h.fresh f) G rfl k2 rfl (by decide) (by decide) hsz k1 hsc
  have f1 := fresh_alloc w (.cells #[.slice (some ⟨b 0, 0, none⟩) 3 3, .slice (some ⟨b 1, 0, none⟩) 3 3, .slice (some ⟨b 2, 0, none⟩) 3 3, .slice (some ⟨b 3, 0, none⟩) 3 3] 34)
  have r1 := row4_new w 34 (.slice (some ⟨b 0, 0, none⟩) 3 3) (.slice (some ⟨b 1, 0, none⟩) 3 3) (.slice (some ⟨b 2, 0, none⟩) 3 3) (.slice (some ⟨b 3, 0, none⟩) 3 3)
  have R1 := hidd r1
  have HN := hidd hN
  have HE := hidd he
  clear h hN he r1 hsc G
  unfold noteV
  go_enter Try.func15, Try.ntmps15
  go_upto_region 1 with fail
  generalize hw1 : w.alloc (.cells #[.slice (some ⟨b 0, 0, none⟩) 3 3, .slice (some ⟨b 1, 0, none⟩) 3 3, .slice (some ⟨b 2, 0, none⟩) 3 3, .slice (some ⟨b 3, 0, none⟩) 3 3] 34) = w1 at *
  clear hw1
  go_upto_region 2 with (go_at_call 42; with_reducible refine (HG0.out _ f1).mono ?_; rintro e w2 ⟨a0, v0, rfl, got0⟩)
  have f2 := fresh_trans f1 got0.low
  have GOT0 := hidd got0
  clear HG0 got0
  go_upto_region 3 with (go_at_call 42; with_reducible refine (HG1.out _ f2).mono ?_; rintro e w3 ⟨a1, v1, rfl, got1⟩)
  have f3 := fresh_trans f2 got1.low
  have q1 := R1.out.of_block ((fresh_trans GOT0.out.low got1.low).block _ R1.out.lt)
  obtain ⟨d0, d1, d2, d3⟩ := row4 q1
  have RK0 := hidd (row_rd (GOT0.out.ka.of_block (got1.low.block _ GOT0.out.ka.lt)) (by decide))
  have RV0 := hidd (row_rd (GOT0.out.vb.of_block (got1.low.block _ GOT0.out.vb.lt)) (by decide))
  have RK1 := hidd (row_rd got1.ka (by decide))
  have RV1 := hidd (row_rd got1.vb (by decide))
  have HN3 := hidd (HN.out.fresh f3)
  have E0 := hidd (eqNarrow_same RK0.out (row_rd (HN3.out.row 0 (by decide)) (by decide)) (fun i hi => by rw [HE.out _ (by omega)]; congr 1; omega))
  have E1 : Hid (∀ z, Below w3.heap.size w3 z → Calls Try.prog 43 #[.slice (some ⟨v0, 0, none⟩) 3 3, .slice (some ⟨b 1, 0, none⟩) 3 3] z fun e w' => e = .returned (.bool true) ∧ Below z.heap.size z w') := fun z f => eqNarrow_same (RV0.out.fresh f) ((row_rd (HN3.out.row 1 (by decide)) (by decide)).fresh f) (fun i hi => by rw [HE.out _ (by omega)]; congr 1; omega)
  have E2 : Hid (∀ z, Below w3.heap.size w3 z → Calls Try.prog 43 #[.slice (some ⟨a1, 0, none⟩) 3 3, .slice (some ⟨b 2, 0, none⟩) 3 3] z fun e w' => e = .returned (.bool true) ∧ Below z.heap.size z w') := fun z f => eqNarrow_same (RK1.out.fresh f) ((row_rd (HN3.out.row 2 (by decide)) (by decide)).fresh f) (fun i hi => by rw [HE.out _ (by omega)]; congr 1; omega)
  have E3 : Hid (∀ z, Below w3.heap.size w3 z → Calls Try.prog 43 #[.slice (some ⟨v1, 0, none⟩) 3 3, .slice (some ⟨b 3, 0, none⟩) 3 3] z fun e w' => e = .returned (.bool true) ∧ Below z.heap.size z w') := fun z f => eqNarrow_same (RV1.out.fresh f) ((row_rd (HN3.out.row 3 (by decide)) (by decide)).fresh f) (fun i hi => by rw [HE.out _ (by omega)]; congr 1; omega)
  have D1 := hidd (fun (z : World) (f : Below w3.heap.size w3 z) => fresh_cell f d1)
  have D2 := hidd (fun (z : World) (f : Below w3.heap.size w3 z) => fresh_cell f d2)
  have D3 := hidd (fun (z : World) (f : Below w3.heap.size w3 z) => fresh_cell f d3)
  clear q1 got1 d1 d2 d3 HG1
  go_wp2_with (first
    | (go_at_call 43; with_reducible refine E0.out.mono ?_; rintro e w4 ⟨rfl, g4⟩; have d1 := D1.out _ g4; clear E0)
    | (go_at_call 43; with_reducible refine (E1.out _ g4).mono ?_; rintro e w5 ⟨rfl, g5'⟩; have g5 := fresh_trans g4 g5'; have d2 := D2.out _ g5; clear E1)
    | (go_at_call 43; with_reducible refine (E2.out _ g5).mono ?_; rintro e w6 ⟨rfl, g6'⟩; have g6 := fresh_trans g5 g6'; have d3 := D3.out _ g6; clear E2)
    | (go_at_call 43; with_reducible refine (E3.out _ g6).mono ?_; rintro e w7 ⟨rfl, g7'⟩; have g7 := fresh_trans g6 g7'; clear E3))
  go_ret
  exact ⟨rfl, fresh_trans f3 g7⟩
end Go.Proofs.Ytppcgfdogacmkaa
