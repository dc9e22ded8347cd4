import Derived.Test.YtakekdbclmgeoaaRows
import Derived.Test.YtakekdbclmgeoaaClSrA
import Derived.Deep.RegionHeld3
namespace Go.Proofs.Ytakekdbclmgeoaa.Cl
open Go.RowKit
/-! The row that is sorted; swapRange. -/
/-- but for the row g all is as it was, and the row holds d -/
structure Rw (w : World) (g n : Nat) (d : Nat → Nat) (wr : World) : Prop where
  row : wr.rowIs g 3 n (fun i => .int .i64 ((d i : Nat) : Int))
  blk : ∀ k, k ≠ g → wr.heap[k]? = w.heap[k]?
  size : wr.heap.size = w.heap.size
  os : wr.os = w.os
  tape : wr.tape = w.tape
  output : wr.output = w.output
theorem Rw.start {w : World} {g n : Nat} {d : Nat → Nat} (h : w.rowIs g 3 n (fun i => .int .i64 ((d i : Nat) : Int))) : Rw w g n d w := ⟨h, fun _ _ => rfl, rfl, rfl, rfl, rfl⟩
theorem Rw.trans {w x y : World} {g n : Nat} {d e : Nat → Nat} (h : Rw w g n d x) (k : Rw x g n e y) : Rw w g n e y := ⟨k.row, fun i hi => (k.blk i hi).trans (h.blk i hi), k.size.trans h.size, k.os.trans h.os, k.tape.trans h.tape, k.output.trans h.output⟩
theorem Rw.congr {w x : World} {g n : Nat} {d e : Nat → Nat} (h : Rw w g n d x) (he : ∀ i, i < n → d i = e i) : Rw w g n e x := ⟨h.row.congr (fun i hi => by rw [he i hi]), h.blk, h.size, h.os, h.tape, h.output⟩
theorem Rw.drewN {w x : World} {g n : Nat} {d : Nat → Nat} (h : Rw w g n d x) (q : Nat) : Rw w g n d (x.drewN q) := by
  have f := fresh_drewN x q
  refine ⟨h.row.of_block (f.block _ h.row.lt), fun k hk => ?_, ?_, f.os.trans h.os, f.tape.trans h.tape, f.output.trans h.output⟩
  · rw [← h.blk k hk]; rfl
  · rw [← h.size]; rfl
theorem Rw.set {w x : World} {g n : Nat} {d : Nat → Nat} (h : Rw w g n d x) (i v : Nat) : Rw w g n (fun j => if j = i then v else d j) (x.setCell ⟨g, i, none⟩ (.int .i64 (v : Int))) := by
  refine ⟨(h.row.set i (.int .i64 (v : Int))).congr (fun j _ => by split <;> rfl), fun k hk => (Below.heap_setCell _ _ _ _ (by show ¬ (_ = g); exact hk)).trans (h.blk k hk), ?_, h.os, h.tape, h.output⟩
  rw [← h.size]; simp
theorem Rw.drew {w x : World} {g n : Nat} {d : Nat → Nat} (h : Rw w g n d x) : Rw w g n d x.drew := h.drewN 1
theorem Rw.swap {w x : World} {g n : Nat} {d e : Nat → Nat} (h : Rw w g n d x) {i j u v : Nat} (hu : d i = u) (hv : d j = v) (he : ∀ t, (if t = j then d i else if t = i then d j else d t) = e t) : Rw w g n e ((x.setCell ⟨g, i, none⟩ (.int .i64 (v : Int))).setCell ⟨g, j, none⟩ (.int .i64 (u : Int))).drew := by
  subst hu hv
  exact (((h.set i (d j)).set j (d i)).congr (fun t _ => he t)).drew
theorem Rw.low {w x : World} {g n : Nat} {d : Nat → Nat} (h : Rw w g n d x) {B : Nat} (hB : B ≤ g) : Below B w x := ⟨h.os, h.tape, h.output, Nat.le_of_eq h.size.symm, fun k hk => h.blk k (by omega)⟩
set_option maxRecDepth 20000 in
set_option maxHeartbeats 4000000 in
theorem swapR_any {w : World} {g N c : Nat} {d : Nat → Nat} {a b n : Nat} (h : w.rowIs g 3 N (fun i => .int .i64 ((d i : Nat) : Int))) (hN : N ≤ 1048576) (h1 : a + n ≤ b) (h2 : b + n ≤ N) (cv : Value) :
    Calls Try.prog 55 #[.slice (some ⟨g, 0, none⟩) N c, .int .i64 (a : Int), .int .i64 (b : Int), .int .i64 (n : Int), cv] w fun e w' => e = .returned (.tuple #[]) ∧ Rw w g N (swp d a b n) w' := by
  have H0 := hidd (Rw.start h)
  clear h
  go_enter Try.func55, Try.ntmps55
  go_wp2
  go_loopw [10] (fun vi wr => ∃ k : Nat, k ≤ n ∧ vi = .int .i64 (k : Int) ∧ Hid (Rw w g N (swp d a b k) wr)) (fun vi _ => n - (intOf vi).toNat)
  case atStart => exact ⟨0, Nat.zero_le _, by simp, by rw [swp_zero]; exact H0⟩
  case round =>
    obtain ⟨k, hk, rfl, HR⟩ := hrel
    by_cases hlt : k < n
    · have i1 : (k : Int) < (n : Int) := by omega
      have c1 := HR.out.row.cell (i := a + k) (by omega)
      have c2 := HR.out.row.cell (i := b + k) (by omega)
      have fr := HR.out.row.frozen
      have e1 : IntKind.i64.wrap ((a : Int) + (k : Int)) = ((a + k : Nat) : Int) := by rw [IntKind.wrap_i64]; omega
      have e2 : IntKind.i64.wrap ((b : Int) + (k : Int)) = ((b + k : Nat) : Int) := by rw [IntKind.wrap_i64]; omega
      obtain ⟨p, HP⟩ : ∃ p, Hid (p = a + k) := ⟨_, rfl⟩
      obtain ⟨q, HQ⟩ : ∃ q, Hid (q = b + k) := ⟨_, rfl⟩
      rw [← HP.out] at c1 e1
      rw [← HQ.out] at c2 e2
      have g1 : (0 : Int) ≤ (p : Int) := by omega
      have g2 : (p : Int) < (N : Int) := by have := HP.out; omega
      have g3 : (0 : Int) ≤ (q : Int) := by omega
      have g4 : (q : Int) < (N : Int) := by have := HQ.out; omega
      have hpq : p ≠ q := by have := HP.out; have := HQ.out; omega
      generalize hx : swp d a b k p = x at c1
      generalize hy : swp d a b k q = y at c2
      have HX := hidd hx
      have HY := hidd hy
      clear hx hy
      go_wp2
      go_region
      all_goals
        go_wp2
        go_roundw
        case rel => exact ⟨k + 1, by omega, by go_num, HR.out.swap HX.out HY.out (fun t => by rw [HP.out, HQ.out]; exact swp_step d (by omega) t)⟩
        case measure => simp [intOf]; omega
    · obtain rfl : k = n := by omega
      have hnl : ¬ ((k : Int) < (k : Int)) := by omega
      go_wp2
      go_end0
      exact ⟨rfl, HR.out⟩
set_option maxRecDepth 20000 in
set_option maxHeartbeats 4000000 in
theorem rotate_any {w : World} {g N c : Nat} {d : Nat → Nat} {a m b : Nat} (h : w.rowIs g 3 N (fun i => .int .i64 ((d i : Nat) : Int))) (hN : N ≤ 1048576) (h1 : a < m) (h2 : m < b) (h3 : b ≤ N) (cv : Value) :
    Calls Try.prog 54 #[.slice (some ⟨g, 0, none⟩) N c, .int .i64 (a : Int), .int .i64 (m : Int), .int .i64 (b : Int), cv] w fun e w' => e = .returned (.tuple #[]) ∧ Rw w g N (rot d a m b) w' := by
  have H0 := hidd (Rw.start h)
  obtain ⟨i0, HI0⟩ : ∃ i0, Hid (i0 = m - a) := ⟨_, rfl⟩
  obtain ⟨j0, HJ0⟩ : ∃ j0, Hid (j0 = b - m) := ⟨_, rfl⟩
  have e1 : IntKind.i64.wrap ((m : Int) - (a : Int)) = (i0 : Int) := by rw [IntKind.wrap_i64]; have := HI0.out; omega
  have e2 : IntKind.i64.wrap ((b : Int) - (m : Int)) = (j0 : Int) := by rw [IntKind.wrap_i64]; have := HJ0.out; omega
  have HE : Hid (rot d (m - i0) m (m + j0) = rot d a m b) := by show _ = _; rw [HI0.out, HJ0.out]; congr 1 <;> omega
  clear h
  go_enter Try.func54, Try.ntmps54
  go_wp2
  go_loopw [10, 11] (fun vi vj wr => ∃ (i j : Nat) (f : Nat → Nat), vi = .int .i64 (i : Int) ∧ vj = .int .i64 (j : Int) ∧ 0 < i ∧ 0 < j ∧ i ≤ m ∧ m + j ≤ N ∧ Hid (rot f (m - i) m (m + j) = rot d a m b) ∧ Hid (Rw w g N f wr)) (fun vi vj _ => (intOf vi).toNat + (intOf vj).toNat)
  case atStart => exact ⟨i0, j0, d, rfl, rfl, by have := HI0.out; omega, by have := HJ0.out; omega, by have := HI0.out; omega, by have := HJ0.out; omega, HE, H0⟩
  case round =>
    obtain ⟨i, j, f, rfl, rfl, hi, hj, him, hjn, HF, HR⟩ := hrel
    have s1 : IntKind.i64.wrap ((m : Int) - (i : Int)) = ((m - i : Nat) : Int) := by rw [IntKind.wrap_i64]; omega
    obtain ⟨p, HP⟩ : ∃ p, Hid (p = m - i) := ⟨_, rfl⟩
    rw [← HP.out] at s1
    by_cases hij : i = j
    · have HIJ := hidd hij
      subst hij
      have HSW := hidd (swapR_any (c := c) (a := p) (b := m) (n := i) HR.out.row hN (by have := HP.out; omega) (by omega) cv)
      have HEND : Hid (swp f p m i = rot d a m b) := by show _ = _; rw [← HF.out, HP.out]; exact rot_same f him
      clear HF
      go_wp2_with fail
      refine HSW.out.mono ?_
      rintro e w2 ⟨rfl, h2'⟩
      have HR2 := hidd (HR.out.trans h2')
      rw [HEND.out] at HR2
      clear h2' HSW
      go_wp2
      go_end0
      exact ⟨rfl, HR2.out⟩
    · have x1 : decide ((i : Int) = (j : Int)) = false := decide_eq_false (by omega)
      have x2 : ¬ ((i : Int) = (j : Int)) := by omega
      by_cases hgt : j < i
      · have d1 : decide ((j : Int) < (i : Int)) = true := decide_eq_true (by omega)
        have d2 : decide (j < i) = true := decide_eq_true hgt
        have HSW := hidd (swapR_any (c := c) (a := p) (b := m) (n := j) HR.out.row hN (by have := HP.out; omega) hjn cv)
        have s2 : IntKind.i64.wrap ((i : Int) - (j : Int)) = ((i - j : Nat) : Int) := by rw [IntKind.wrap_i64]; omega
        obtain ⟨i', HI⟩ : ∃ i', Hid (i' = i - j) := ⟨_, rfl⟩
        rw [← HI.out] at s2
        have HF2 : Hid (rot (swp f p m j) (m - i') m (m + j) = rot d a m b) := by show _ = _; rw [← HF.out, HP.out, HI.out]; exact rot_more f him hgt
        go_wp2_with fail
        refine HSW.out.mono ?_
        rintro e w2 ⟨rfl, h2'⟩
        have HR2 := hidd (HR.out.trans h2')
        clear h2' HSW HR
        go_wp2
        go_roundw
        case rel => exact ⟨i', j, _, rfl, rfl, by have := HI.out; omega, hj, by have := HI.out; omega, hjn, HF2, HR2⟩
        case measure => simp [intOf]; have := HI.out; omega
      · have d1 : decide ((j : Int) < (i : Int)) = false := decide_eq_false (by omega)
        have d2 : decide (j < i) = false := decide_eq_false hgt
        have s3 : IntKind.i64.wrap ((m : Int) + (j : Int)) = ((m + j : Nat) : Int) := by rw [IntKind.wrap_i64]; omega
        obtain ⟨mj, HMJ⟩ : ∃ mj, Hid (mj = m + j) := ⟨_, rfl⟩
        rw [← HMJ.out] at s3
        obtain ⟨q, HQ⟩ : ∃ q, Hid (q = m + j - i) := ⟨_, rfl⟩
        have s4 : IntKind.i64.wrap ((mj : Int) - (i : Int)) = (q : Int) := by rw [IntKind.wrap_i64]; have := HMJ.out; have := HQ.out; omega
        have s2 : IntKind.i64.wrap ((j : Int) - (i : Int)) = ((j - i : Nat) : Int) := by rw [IntKind.wrap_i64]; omega
        obtain ⟨j', HJ⟩ : ∃ j', Hid (j' = j - i) := ⟨_, rfl⟩
        rw [← HJ.out] at s2
        have HSW := hidd (swapR_any (c := c) (a := p) (b := q) (n := i) HR.out.row hN (by have := HP.out; have := HQ.out; omega) (by have := HQ.out; omega) cv)
        have HF2 : Hid (rot (swp f p q i) (m - i) m (m + j') = rot d a m b) := by show _ = _; rw [← HF.out, HP.out, HQ.out, HJ.out]; exact rot_less f him (by omega)
        go_wp2_with fail
        refine HSW.out.mono ?_
        rintro e w2 ⟨rfl, h2'⟩
        have HR2 := hidd (HR.out.trans h2')
        clear h2' HSW HR
        go_wp2
        go_roundw
        case rel => exact ⟨i, j', _, rfl, rfl, hi, by have := HJ.out; omega, him, by have := HJ.out; omega, HF2, HR2⟩
        case measure => simp [intOf]; have := HJ.out; omega
end Go.Proofs.Ytakekdbclmgeoaa.Cl
