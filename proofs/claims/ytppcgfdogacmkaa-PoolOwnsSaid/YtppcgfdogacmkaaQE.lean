import Derived.Test.YtppcgfdogacmkaaQD
import Derived.Laws.ResultCell
import Derived.Laws.Rows
namespace Go.Proofs.Ytppcgfdogacmkaa
open Go.RowKit
/-! fill. -/
def setS (num : Nat → Int) (o : Nat) (nv : Nat → Int) : Nat → Int := fun j => if o ≤ j ∧ j < o + 12 then nv (j - o) else num j
def nvOf (f0 f1 f2 f3 : Nat → Int) : Nat → Int := fun j => if j < 3 then f0 j else if j < 6 then f1 (j - 3) else if j < 9 then f2 (j - 6) else f3 (j - 9)
theorem put_put (num : Nat → Int) (o : Nat) (f0 f1 f2 f3 : Nat → Int) : putN (putN num (o + 0) 3 f0 f1) (o + 6) 3 f2 f3 = setS num o (nvOf f0 f1 f2 f3) := by
  funext j
  unfold putN setS nvOf
  by_cases h : o ≤ j ∧ j < o + 12
  · rw [if_pos h]
    obtain ⟨k, rfl⟩ : ∃ k, j = o + k := ⟨j - o, by omega⟩
    simp only [Nat.add_sub_cancel_left]
    by_cases h1 : k < 3
    · rw [if_neg (by omega), if_neg (by omega), if_pos (by omega), if_pos h1]; congr 1; omega
    · by_cases h2 : k < 6
      · rw [if_neg (by omega), if_neg (by omega), if_neg (by omega), if_pos (by omega), if_neg h1, if_pos h2]; congr 1; omega
      · by_cases h3 : k < 9
        · rw [if_pos (by omega), if_neg h1, if_neg h2, if_pos h3]; congr 1; omega
        · rw [if_neg (by omega), if_pos (by omega), if_neg h1, if_neg h2, if_neg h3]; congr 1; omega
  · rw [if_neg h, if_neg (by omega), if_neg (by omega), if_neg (by omega), if_neg (by omega)]
theorem nv_row (f0 f1 f2 f3 : Nat → Int) : (∀ j, j < 3 → nvOf f0 f1 f2 f3 (3 * 0 + j) = f0 j) ∧ (∀ j, j < 3 → nvOf f0 f1 f2 f3 (3 * 1 + j) = f1 j) ∧ (∀ j, j < 3 → nvOf f0 f1 f2 f3 (3 * 2 + j) = f2 j) ∧ (∀ j, j < 3 → nvOf f0 f1 f2 f3 (3 * 3 + j) = f3 j) := by
  refine ⟨fun j hj => ?_, fun j hj => ?_, fun j hj => ?_, fun j hj => ?_⟩ <;> unfold nvOf
  · rw [if_pos (by omega)]; congr 1; omega
  · rw [if_neg (by omega), if_pos (by omega)]; congr 1; omega
  · rw [if_neg (by omega), if_neg (by omega), if_pos (by omega)]; congr 1; omega
  · rw [if_neg (by omega), if_neg (by omega), if_neg (by omega)]; congr 1; omega
def qd (a b c d : Nat) : Nat → Nat := fun i => if i = 0 then a else if i = 1 then b else if i = 2 then c else d
set_option maxRecDepth 20000 in
set_option maxHeartbeats 2000000 in
theorem fill_ok {w : World} {g cb nb B S s : Nat} {cnt : Nat → Nat} {num : Nat → Int} (h : PoolAt w g cb nb 2 3 B S cnt num) (G : Geo 2 3 B S 12 (S * 12) (B * S * 12)) (hs : s < B * S) (hsc : cnt (s / S) ≠ 0) (x : Int) :
    Calls Try.prog 12 #[.pointer (some ⟨g, 0, none⟩), .int .i64 s, .int .i64 x] w fun e w' => ∃ b nv, e = .returned (.tuple #[noteV b, .bool true]) ∧ NoteAt w' b nv ∧ (∀ k, k < 4 → w.heap.size ≤ b k) ∧ PoolAt w' g cb nb 2 3 B S cnt (setS num (s * 12) nv) ∧ Chg w w' (fun b => b = nb) := by
  have hS := h.hS
  have hB := h.hB
  obtain ⟨k1, k2⟩ := slot_in hs hS.1
  have hsz : s ≤ 9223372036854775807 := by have := Nat.mul_le_mul hB.2 hS.2; omega
  have hnl : nb < w.heap.size := h.nums.lt
  have H := hidd h
  have HV1 : Hid (∀ (x : Int) (z : World), Calls Try.prog 37 #[.int .i64 x] z fun e w' => ∃ (a : Nat) (f : Nat → Int), e = .returned (.slice (some ⟨a, 0, none⟩) 3 3) ∧ z.heap.size ≤ a ∧ w'.rowIs a 116 3 (fun i => .int .i8 (f i)) ∧ Below z.heap.size z w') := fun x z => (vector_any x z).mono (fun e w' ⟨f, h1, h2, h3⟩ => ⟨_, f, h1, Nat.le_refl _, h2, h3⟩)
  have HV2 := HV1
  have HV3 := HV1
  have HV4 := HV1
  have hfA := fresh_alloc w (.cells #[.slice none 0 0, .slice none 0 0, .slice none 0 0, .slice none 0 0] 34)
  have rA := row4_new w 34 (.slice none 0 0) (.slice none 0 0) (.slice none 0 0) (.slice none 0 0)
  have hsA : (w.alloc (.cells #[.slice none 0 0, .slice none 0 0, .slice none 0 0, .slice none 0 0] 34)).heap.size = w.heap.size + 1 := by simp
  have HP0 : Hid (∀ (z : World) (num : Nat → Int) (ka va : Nat) (fk fv : Nat → Int), PoolAt z g cb nb 2 3 B S cnt num → z.rowIs ka 116 3 (fun i => .int .i8 (fk i)) → z.rowIs va 116 3 (fun i => .int .i8 (fv i)) → ka ≠ nb → va ≠ nb → Calls Try.prog 38 #[.pointer (some ⟨g, 0, none⟩), .int .i64 0, .int .i64 s, .slice (some ⟨ka, 0, none⟩) 3 3, .slice (some ⟨va, 0, none⟩) 3 3] z fun e w' => e = .returned (.int .i64 0) ∧ PoolAt w' g cb nb 2 3 B S cnt (putN num (s * 12 + 0) 3 fk fv) ∧ Chg z w' (fun b => b = nb)) := fun z num ka va fk fv hp r1 r2 n1 n2 => put_ok (l := 0) hp G rfl k2 rfl (by decide) (by decide) hsz k1 hsc (row_rd r1 (by decide)) (row_rd r2 (by decide)) (fun b off e => by cases e; exact n1) (fun b off e => by cases e; exact n2)
  have HP1 : Hid (∀ (z : World) (num : Nat → Int) (ka va : Nat) (fk fv : Nat → Int), PoolAt z g cb nb 2 3 B S cnt num → z.rowIs ka 116 3 (fun i => .int .i8 (fk i)) → z.rowIs va 116 3 (fun i => .int .i8 (fv i)) → ka ≠ nb → va ≠ nb → Calls Try.prog 38 #[.pointer (some ⟨g, 0, none⟩), .int .i64 1, .int .i64 s, .slice (some ⟨ka, 0, none⟩) 3 3, .slice (some ⟨va, 0, none⟩) 3 3] z fun e w' => e = .returned (.int .i64 0) ∧ PoolAt w' g cb nb 2 3 B S cnt (putN num (s * 12 + 6) 3 fk fv) ∧ Chg z w' (fun b => b = nb)) := fun z num ka va fk fv hp r1 r2 n1 n2 => put_ok (l := 1) hp G rfl k2 rfl (by decide) (by decide) hsz k1 hsc (row_rd r1 (by decide)) (row_rd r2 (by decide)) (fun b off e => by cases e; exact n1) (fun b off e => by cases e; exact n2)
  clear h G hsc
  go_enter Try.func12, Try.ntmps12
  go_upto_region 1 with fail
  generalize w.alloc (.cells #[.slice none 0 0, .slice none 0 0, .slice none 0 0, .slice none 0 0] 34) = wA at *
  have HSA := hidd hsA
  clear hsA
  go_upto_region 2 with (first
    | (go_at_call 37; with_reducible refine (HV1.out _ _).mono ?_; rintro e w2 ⟨b0, f0, rfl, n0, r0, l0⟩; clear HV1)
    | (go_at_call 37; with_reducible refine (HV2.out _ _).mono ?_; rintro e w3 ⟨b1, f1, rfl, n1, r1, l1⟩; clear HV2)
    | (go_at_call 37; with_reducible refine (HV3.out _ _).mono ?_; rintro e w4 ⟨b2, f2, rfl, n2, r2, l2⟩; clear HV3)
    | (go_at_call 37; with_reducible refine (HV4.out _ _).mono ?_; rintro e w5 ⟨b3, f3, rfl, n3, r3, l3⟩; clear HV4))
  have lN := fresh_alloc w5 (.cells #[.slice (some ⟨b0, 0, none⟩) 3 3, .slice (some ⟨b1, 0, none⟩) 3 3, .slice (some ⟨b2, 0, none⟩) 3 3, .slice (some ⟨b3, 0, none⟩) 3 3] 34)
  have rN := row4_new w5 34 (.slice (some ⟨b0, 0, none⟩) 3 3) (.slice (some ⟨b1, 0, none⟩) 3 3) (.slice (some ⟨b2, 0, none⟩) 3 3) (.slice (some ⟨b3, 0, none⟩) 3 3)
  generalize w5.alloc (.cells #[.slice (some ⟨b0, 0, none⟩) 3 3, .slice (some ⟨b1, 0, none⟩) 3 3, .slice (some ⟨b2, 0, none⟩) 3 3, .slice (some ⟨b3, 0, none⟩) 3 3] 34) = w6 at *
  have g3 := fresh_trans l3 lN
  have g2 := fresh_trans l2 g3
  have g1 := fresh_trans l1 g2
  have g0 := fresh_trans l0 g1
  have gw := fresh_trans hfA g0
  have q0 := r0.of_block (g1.block _ r0.lt)
  have q1 := r1.of_block (g2.block _ r1.lt)
  have q2 := r2.of_block (g3.block _ r2.lt)
  have q3 := r3.of_block (lN.block _ r3.lt)
  have qA := rA.of_block (g0.block _ rA.lt)
  have m0 : w.heap.size + 1 ≤ b0 := by have := HSA.out; omega
  have m1 : w.heap.size + 1 ≤ b1 := by have := l0.size; have := HSA.out; omega
  have m2 : w.heap.size + 1 ≤ b2 := by have := l0.size; have := l1.size; have := HSA.out; omega
  have m3 : w.heap.size + 1 ≤ b3 := by have := l0.size; have := l1.size; have := l2.size; have := HSA.out; omega
  generalize hgN : w5.heap.size = gN at *
  have hNA : gN ≠ w.heap.size := by have := l0.size; have := l1.size; have := l2.size; have := l3.size; have := HSA.out; omega
  have hNn : gN ≠ nb := by have := l0.size; have := l1.size; have := l2.size; have := l3.size; have := HSA.out; omega
  have hPP := HP0.out w6 num b0 b1 f0 f1 (H.out.fresh gw) q0 q1 (by omega) (by omega)
  have HPP := hidd hPP
  obtain ⟨d0, d1, _, _⟩ := row4 rN
  have Q := hidd (And.intro q0 (And.intro q1 (And.intro q2 (And.intro q3 (And.intro qA rN)))))
  clear hPP hfA rA n0 n1 n2 n3 r0 r1 r2 r3 l0 l1 l2 l3 lN g0 g1 g2 g3 q0 q1 q2 q3 qA rN hgN HP0
  go_upto_region 3 with (go_at_call 38; with_reducible refine HPP.out.mono ?_; rintro e w7 ⟨rfl, p7, ch7⟩)
  obtain ⟨q0, q1, q2, q3, qA, rN⟩ := Q.out
  have rN7 := ch7.row rN hNn
  have hPP1 := HP1.out w7 _ b2 b3 f2 f3 p7 (ch7.row q2 (by omega)) (ch7.row q3 (by omega)) (by omega) (by omega)
  have HPP1 := hidd hPP1
  obtain ⟨_, _, d2, d3⟩ := row4 rN7
  have Q7 := hidd (And.intro (ch7.row q0 (by omega)) (And.intro (ch7.row q1 (by omega)) (And.intro (ch7.row q2 (by omega)) (And.intro (ch7.row q3 (by omega)) (And.intro (ch7.row qA (by omega)) (And.intro rN7 ch7))))))
  clear HPP hPP1 rN7 p7 ch7 q0 q1 q2 q3 qA rN Q d0 d1 HP1
  go_upto_region 4 with (go_at_call 38; with_reducible refine HPP1.out.mono ?_; rintro e w8 ⟨rfl, p8, ch8⟩)
  obtain ⟨q0, q1, q2, q3, qA, rN, ch7⟩ := Q7.out
  have rN8 := ch8.row rN hNn
  have rA8 := ch8.row qA (by omega)
  obtain ⟨e0, e1, e2, e3⟩ := row4 rN8
  obtain ⟨a0, a1, a2, a3⟩ := row4 rA8
  have fz := rA8.frozen
  have hch : Chg w w8 (fun b => b = nb) := (Chg.pre gw ch7).trans ch8 (fun _ _ e => e)
  have HCH := hidd hch
  have P8 := hidd p8
  have Q8 := hidd (And.intro (ch8.row q0 (by omega)) (And.intro (ch8.row q1 (by omega)) (And.intro (ch8.row q2 (by omega)) (ch8.row q3 (by omega)))))
  clear HPP1 rN8 rA8 p8 ch8 ch7 q0 q1 q2 q3 qA rN Q7 d2 d3 hch
  go_wp2
  refine bodyPost_ret (v := .tuple #[noteV (qd b0 b1 b2 b3), .bool true]) ?_ rfl ?_
  · rw [results_cell_tmp rfl]
    unfold noteV qd
    go_simp
  · have cs : Chg w8 ((((w8.setCell ⟨w.heap.size, 0, none⟩ (.slice (some ⟨b0, 0, none⟩) 3 3)).setCell ⟨w.heap.size, 1, none⟩ (.slice (some ⟨b1, 0, none⟩) 3 3)).setCell ⟨w.heap.size, 2, none⟩ (.slice (some ⟨b2, 0, none⟩) 3 3)).setCell ⟨w.heap.size, 3, none⟩ (.slice (some ⟨b3, 0, none⟩) 3 3)) (fun b => b = w.heap.size) := (((Chg.of_set _ _ _ _).trans (Chg.of_set _ _ _ _) (fun _ _ e => e)).trans (Chg.of_set _ _ _ _) (fun _ _ e => e)).trans (Chg.of_set _ _ _ _) (fun _ _ e => e)
    have h1 := H.out.row.lt
    have h2 := H.out.cnts.lt
    obtain ⟨q0, q1, q2, q3⟩ := Q8.out
    obtain ⟨v0, v1, v2, v3⟩ := nv_row f0 f1 f2 f3
    refine ⟨qd b0 b1 b2 b3, nvOf f0 f1 f2 f3, rfl, ⟨fun k hk => ?_⟩, fun k hk => ?_, ?_, HCH.out.trans cs (fun x hx e => by omega)⟩
    · match k, hk with
      | 0, _ => exact (cs.row q0 (by omega)).congr (fun j hj => by rw [v0 j hj])
      | 1, _ => exact (cs.row q1 (by omega)).congr (fun j hj => by rw [v1 j hj])
      | 2, _ => exact (cs.row q2 (by omega)).congr (fun j hj => by rw [v2 j hj])
      | 3, _ => exact (cs.row q3 (by omega)).congr (fun j hj => by rw [v3 j hj])
    · match k, hk with
      | 0, _ => show w.heap.size ≤ b0; omega
      | 1, _ => show w.heap.size ≤ b1; omega
      | 2, _ => show w.heap.size ≤ b2; omega
      | 3, _ => show w.heap.size ≤ b3; omega
    · rw [← put_put]
      exact P8.out.chg cs (by omega) (by omega) (by omega)
end Go.Proofs.Ytppcgfdogacmkaa
