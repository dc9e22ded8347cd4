import Derived.Test.YteiocgciblogdabVEq
import Derived.Test.YteiocgciblogdabHeld
import Derived.Deep.RegionLaw
namespace Go.Proofs.Yteiocgciblogdab
open Go.RowKit
attribute [local go_sem ↓] Go.wp_at_zero Go.wp_at_succ
/-! CopyVocab. -/
theorem App.row {w w' : World} {v v' : Value} {base : Nat} {e : TypeId} {sz n : Nat} {cs : Nat → Value} (h : App w w' v v') (ho : Own w base e sz v n cs) {b m : Nat} {t : TypeId} {F : Nat → Value} (hr : w.rowIs b t m F) (hb : b < base) : w'.rowIs b t m F :=
  hr.of_block (h.grown.block b hr.lt (fun e => by have := (ho.lt b e.symm).1; omega))
def two (a b : Value) : Nat → Value := fun i => if i = 0 then a else b
theorem row2 {w : World} {b : Nat} {t : TypeId} {x y : Value} (h : w.rowIs b t 2 (two x y)) : w.cell? ⟨b, 0, none⟩ = some x ∧ w.cell? ⟨b, 1, none⟩ = some y :=
  ⟨h.cell (i := 0) (by decide), h.cell (i := 1) (by decide)⟩
theorem two_set1 {a b c : Value} : ∀ i, i < 2 → (if i = 1 then c else two a b i) = two a c i := by
  intro i hi
  obtain rfl | rfl : i = 0 ∨ i = 1 := by omega
  all_goals rfl
theorem two_set0 {a b c : Value} : ∀ i, i < 2 → (if i = 0 then c else two a b i) = two c b i := by
  intro i hi
  obtain rfl | rfl : i = 0 ∨ i = 1 := by omega
  all_goals rfl
theorem row2_new (w : World) (t : TypeId) (x y : Value) : (w.alloc (.cells #[x, y] t)).rowIs w.heap.size t 2 (two x y) :=
  World.rowIs_alloc w #[x, y] t (two x y) (fun i hi => by
    have hi : i < 2 := hi
    obtain rfl | rfl : i = 0 ∨ i = 1 := by omega
    all_goals rfl)
theorem alloc_at0 (w : World) (x y : Value) (t : TypeId) : (w.alloc (.cells #[x, y] t)).cell? ⟨w.heap.size, 0, none⟩ = some x := by simp
theorem alloc_at1 (w : World) (x y : Value) (t : TypeId) : (w.alloc (.cells #[x, y] t)).cell? ⟨w.heap.size, 1, none⟩ = some y := by simp
theorem tcs_one (C S : Nat → Int) (j : Nat) : (tcs C S j).oneCell' = true := by unfold tcs; split <;> rfl
set_option maxRecDepth 20000 in
set_option maxHeartbeats 4000000 in
theorem copyV_any {w : World} {d : VD} {bo po : Option Addr} {cb cp : Nat} (hb : RdA w bo 1 d.nb cb (fun i => .int .u8 (d.B i))) (hp : RdA w po 2 d.np cp (tcs d.P d.Q)) (n1 : d.nb ≤ 140737488351232) (n2 : d.np ≤ 8796093021952) :
    Calls Try.prog 13 #[.agg #[.slice bo d.nb cb, .slice po d.np cp]] w fun e w' => ∃ v u, e = .returned (.agg #[v, u]) ∧ Own w' w.heap.size 5 1 v d.nb (fun i => .int .u8 (d.B i)) ∧ Own w' w.heap.size 48 2 u d.np (tcs d.P d.Q) ∧ Off u v ∧ Below w.heap.size w w' := by
  have hf0 := fresh_alloc w (.cells #[.slice bo d.nb cb, .slice po d.np cp] 25)
  have hf1 := fresh_trans hf0 (fresh_alloc _ (.cells #[.slice none 0 0, .slice none 0 0] 25))
  have hf2 := fresh_trans hf1 (fresh_alloc _ (.cells #[.slice none 0 0, .slice none 0 0] 25))
  have r2 := row2_new ((w.alloc (.cells #[.slice bo d.nb cb, .slice po d.np cp] 25)).alloc (.cells #[.slice none 0 0, .slice none 0 0] 25)) 25 (.slice none 0 0) (.slice none 0 0)
  have r1 := (row2_new (w.alloc (.cells #[.slice bo d.nb cb, .slice po d.np cp] 25)) 25 (.slice none 0 0) (.slice none 0 0)).alloc (.cells #[.slice none 0 0, .slice none 0 0] 25)
  have r0 := ((row2_new w 25 (.slice bo d.nb cb) (.slice po d.np cp)).alloc (.cells #[.slice none 0 0, .slice none 0 0] 25)).alloc (.cells #[.slice none 0 0, .slice none 0 0] 25)
  simp only [World.size_alloc] at r1 r2
  have hS3 : (((w.alloc (.cells #[.slice bo d.nb cb, .slice po d.np cp] 25)).alloc (.cells #[.slice none 0 0, .slice none 0 0] 25)).alloc (.cells #[.slice none 0 0, .slice none 0 0] 25)).heap.size = w.heap.size + 3 := by simp
  go_enter Try.func13, Try.ntmps13
  go_wp2_with fail
  generalize ((w.alloc (.cells #[.slice bo d.nb cb, .slice po d.np cp] 25)).alloc (.cells #[.slice none 0 0, .slice none 0 0] 25)).alloc (.cells #[.slice none 0 0, .slice none 0 0] 25) = w3 at *
  refine (copyB_any (hb.fresh hf2) n1).mono ?_
  rintro e w4 ⟨vB, rfl, hownB, hf4⟩
  rw [hS3] at hownB
  have q0 := r0.of_block (hf4.block _ r0.lt)
  have q1 := r1.of_block (hf4.block _ r1.lt)
  have q2 := r2.of_block (hf4.block _ r2.lt)
  have hF4 := fresh_trans hf2 hf4
  have hz4 : w.heap.size + 3 ≤ w4.heap.size := by rw [← hS3]; exact hf4.size
  clear r0 r1 r2 hf0 hf1 hf2 hf4 hS3
  obtain ⟨aB, kB, rfl, _⟩ := hownB.rd
  have c2 := row2 q2
  have c0 := row2 q0
  have f2 := q2.frozen
  go_wp2
  have s2 := (q2.set 0 (.slice aB d.nb kB)).congr two_set0
  have s1 := q1.setOther (a := ⟨w.heap.size + 1 + 1, 0, none⟩) (by simp) (.slice aB d.nb kB)
  have s0 := q0.setOther (a := ⟨w.heap.size + 1 + 1, 0, none⟩) (by dsimp only; omega) (.slice aB d.nb kB)
  have hB5 : Own _ (w.heap.size + 3) 5 1 _ d.nb (fun i => .int .u8 (d.B i)) := ownsRow_setCell_below hownB (a := ⟨w.heap.size + 1 + 1, 0, none⟩) (by simp) (.slice aB d.nb kB)
  have hF5 := hF4.setCell (p := ⟨w.heap.size + 1 + 1, 0, none⟩) (by simp; omega) (.slice aB d.nb kB)
  have hz5 : w.heap.size + 3 ≤ (w4.setCell ⟨w.heap.size + 1 + 1, 0, none⟩ (.slice aB d.nb kB)).heap.size := by simpa using hz4
  generalize w4.setCell ⟨w.heap.size + 1 + 1, 0, none⟩ (.slice aB d.nb kB) = w5 at *
  clear q0 q1 q2 c2 c0 f2 hownB hF4 hz4
  go_loopw [4] (fun i wr => ∃ (k : Nat) (v : Value), k ≤ d.np ∧ i = .int .i64 k ∧ Own wr (w.heap.size + 3) 48 2 v k (tcs d.P d.Q) ∧ Own wr (w.heap.size + 3) 5 1 (.slice aB d.nb kB) d.nb (fun i => .int .u8 (d.B i)) ∧ Off v (.slice aB d.nb kB)
      ∧ wr.rowIs w.heap.size 25 2 (two (.slice bo d.nb cb) (.slice po d.np cp)) ∧ wr.rowIs (w.heap.size + 1) 25 2 (two (.slice none 0 0) (.slice none 0 0)) ∧ wr.rowIs (w.heap.size + 1 + 1) 25 2 (two (.slice aB d.nb kB) v) ∧ w.heap.size + 3 ≤ wr.heap.size ∧ Below w.heap.size w wr) (fun i _ => d.np - (intOf i).toNat)
  case atStart => exact ⟨0, _, by omega, rfl, own_nil _ _ _ _ _, hB5, off_nil _, s0, s1, s2, hz5, hF5⟩
  case round =>
    clear hB5 s0 s1 s2 hz5 hF5
    obtain ⟨k, v, hk, rfl, hown, hownB, hoff, s0, s1, s2, hz, hf⟩ := hrel
    obtain ⟨e0, e1⟩ := row2 s0
    obtain ⟨g0, g1⟩ := row2 s2
    have fa := s2.frozen
    by_cases hlt : k < d.np
    · obtain ⟨b1, o1, rfl, h1⟩ := (hp.fresh hf).two (by omega)
      obtain ⟨c1, c2⟩ := h1 k hlt
      clear h1
      have i1 : (0 : Int) ≤ (k : Int) := Int.natCast_nonneg _
      have i2 : (k : Int) < (d.np : Int) := by omega
      obtain ⟨na1, nc1, rfl, _⟩ := hown.rd
      have a1 := fresh_cell (fresh_alloc wr (.cells #[.int .i64 (d.P k), .int .i64 (d.Q k)] 48)) g1
      have hrw := hidd (s2.alloc (.cells #[.int .i64 (d.P k), .int .i64 (d.Q k)] 48))
      have HO := hidd ((hown.kept (fresh_alloc wr (.cells #[.int .i64 (d.P k), .int .i64 (d.Q k)] 48))).kept (Below.refl _ _).drew)
      have N0 : Hid ((wr.alloc (.cells #[.int .i64 (d.P k), .int .i64 (d.Q k)] 48)).cell? ⟨wr.heap.size, 0, none⟩ = some (tcs d.P d.Q (k * 2))) := by rw [tcs0]; exact alloc_at0 _ _ _ _
      have N1 : Hid ((wr.alloc (.cells #[.int .i64 (d.P k), .int .i64 (d.Q k)] 48)).cell? ⟨wr.heap.size, 1, none⟩ = some (tcs d.P d.Q (k * 2 + 1))) := by rw [tcs1]; exact alloc_at1 _ _ _ _
      go_wp2
      go_region_law ((refine step_app2 _ (by rfl) _ _ _ (by rfl) (w.heap.size + 3) 48 (.agg #[.int .i64 0, .int .i64 0]) 16 Try.underlying23 infoP rfl _ k (tcs d.P d.Q) (by rfl) HO.out wr.heap.size 1 (by rfl) N0.out N1.out (tcs_one _ _ _) (tcs_one _ _ _) (by omega) (by omega) (by simp; omega) ?_; intro g' cap' w9 hown' happ; have y := happ.row HO.out hrw.out.drew (by omega); have y2 := (row2 y).2; have yf := y.frozen))
      all_goals
        have y0 := hidd (happ.row HO.out (s0.alloc _).drew (by omega))
        have y1 := hidd (happ.row HO.out (s1.alloc _).drew (by omega))
        have Y := hidd y
        have HB := hidd (happ.own ((hownB.kept (fresh_alloc _ _)).kept (Below.refl _ _).drew) hoff)
        have HF := hidd (happ.off ((hownB.kept (fresh_alloc _ _)).kept (Below.refl _ _).drew) hoff)
        have hf10 := happ.below ((hf.alloc hf.size _).drew) HO.out (by omega) (by have := hf.size; simp; omega)
        have hz10 : w.heap.size + 3 ≤ w9.heap.size := Nat.le_trans (by simp; omega) happ.grown.size
        have HO' := hidd hown'
        clear happ a1 hrw HO N0 N1 e0 e1 g0 g1 fa c1 c2 y2 yf y hown hownB s0 s1 s2 hown' hoff
        go_wp2
        go_roundw
        case rel => exact ⟨k + 1, _, hlt, by go_num, ownsRow_setCell_below HO'.out (by dsimp only; omega) _, ownsRow_setCell_below HB.out (by dsimp only; omega) _, HF.out, y0.out.setOther (by dsimp only; omega) _, y1.out.setOther (by dsimp only; omega) _, (Y.out.set 1 _).congr two_set1, by simpa using hz10, hf10.setCell (by dsimp only; omega) _⟩
        case measure => simp [intOf]; omega
    · obtain rfl : k = d.np := by omega
      obtain ⟨na1, nc1, rfl, _⟩ := hown.rd
      obtain ⟨z0, z1⟩ := row2 s1
      have fz := s1.frozen
      have HO := hidd hown
      have HB := hidd hownB
      have HF := hidd hoff
      clear hown hownB hoff
      go_wp2
      have r' := hidd ((s1.set 0 (.slice aB d.nb kB)).set 1 (.slice na1 d.np nc1))
      have hff : Below w.heap.size w ((wr.setCell ⟨w.heap.size + 1, 0, none⟩ (.slice aB d.nb kB)).setCell ⟨w.heap.size + 1, 1, none⟩ (.slice na1 d.np nc1)) := (hf.setCell (by dsimp only; omega) _).setCell (by dsimp only; omega) _
      have nB := hidd (ownsRow_setCell_below (ownsRow_setCell_below HB.out (a := ⟨w.heap.size + 1, 0, none⟩) (by dsimp only; omega) (.slice aB d.nb kB)) (a := ⟨w.heap.size + 1, 1, none⟩) (by dsimp only; omega) (.slice na1 d.np nc1))
      have nP := hidd (ownsRow_setCell_below (ownsRow_setCell_below HO.out (a := ⟨w.heap.size + 1, 0, none⟩) (by dsimp only; omega) (.slice aB d.nb kB)) (a := ⟨w.heap.size + 1, 1, none⟩) (by dsimp only; omega) (.slice na1 d.np nc1))
      clear z0 z1 fz s0 s1 s2 HB HO e0 e1 g0 g1 fa
      generalize ((wr.setCell ⟨w.heap.size + 1, 0, none⟩ (.slice aB d.nb kB)).setCell ⟨w.heap.size + 1, 1, none⟩ (.slice na1 d.np nc1)) = w9 at *
      have y0 : w9.cell? ⟨w.heap.size + 1, 0, none⟩ = some (.slice aB d.nb kB) := r'.out.cell (i := 0) (by decide)
      have y1 : w9.cell? ⟨w.heap.size + 1, 1, none⟩ = some (.slice na1 d.np nc1) := r'.out.cell (i := 1) (by decide)
      refine bodyPost_ret (v := .agg #[.slice aB d.nb kB, .slice na1 d.np nc1]) (by simp [results, Try.results13, go_sem, y0, y1]) rfl ?_
      exact ⟨_, _, rfl, Own.weaken nB.out (by omega), Own.weaken nP.out (by omega), HF.out, hff⟩
end Go.Proofs.Yteiocgciblogdab
