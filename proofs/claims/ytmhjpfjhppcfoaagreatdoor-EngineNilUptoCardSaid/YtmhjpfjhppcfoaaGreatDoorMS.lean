import Derived.Test.YtmhjpfjhppcfoaaGreatDoorMJ
import Derived.Test.YtmhjpfjhppcfoaaGreatDoorMP
import Derived.Deep.RegionLaw
namespace Go.Proofs.YtmhjpfjhppcfoaaGreatDoor
open Go.RowKit
/-! Comparing two lists that are alike. -/
set_option maxHeartbeats 1000000 in
theorem eqBytes_same {w : World} {ao bo : Option Addr} {n ca cb : Nat} {f g : Nat → Int} (ha : RdA w ao 1 n ca (fun i => .int .u8 (f i))) (hb : RdA w bo 1 n cb (fun i => .int .u8 (g i))) (hfg : ∀ i, i < n → f i = g i) :
    Calls Tryz.prog 63 #[.slice ao n ca, .slice bo n cb] w fun e w' => e = .returned (.bool true) ∧ Below w.heap.size w w' := by
  have hn : n ≤ 9223372036854775807 := by have := ha.le; have := ha.top; unfold maxLen at this; omega
  go_enter Tryz.func63, Tryz.ntmps63
  go_wp2
  go_loopw [5] (fun i wr => ∃ k : Nat, k ≤ n ∧ i = .int .i64 k ∧ Below w.heap.size w wr) (fun i _ => n - (intOf i).toNat)
  case atStart => exact ⟨0, by omega, rfl, Below.refl _ _⟩
  case round =>
    obtain ⟨k, hk, rfl, hf⟩ := hrel
    by_cases hlt : k < n
    · obtain ⟨b1, o1, rfl, h1⟩ := (ha.fresh hf).one (by omega)
      obtain ⟨b2, o2, rfl, h2⟩ := (hb.fresh hf).one (by omega)
      have c1 := h1 k hlt
      have c2 := h2 k hlt
      have e := hfg k hlt
      rw [← e] at c2
      clear h1 h2 e
      go_wp2
      go_quiet (fail)
      go_wp2
      go_roundw
      case rel => exact ⟨k + 1, by omega, by go_num, below_drewN hf _⟩
      case measure => simp [intOf]; omega
    · go_wp2
      go_ret
      exact ⟨rfl, hf⟩
set_option maxHeartbeats 1000000 in
theorem eqVocab_same {w : World} {d : VD} {bo po bo' po' : Option Addr} {cb cp cb' cp' : Nat} (hb : RdA w bo 1 d.nb cb (fun i => .int .u8 (d.B i))) (hp : RdA w po 2 d.np cp (tcs d.P d.Q))
    (hb' : RdA w bo' 1 d.nb cb' (fun i => .int .u8 (d.B i))) (hp' : RdA w po' 2 d.np cp' (tcs d.P d.Q)) :
    Calls Tryz.prog 21 #[.agg #[.slice bo d.nb cb, .slice po d.np cp], .agg #[.slice bo' d.nb cb', .slice po' d.np cp']] w fun e w' => e = .returned (.bool true) ∧ Below w.heap.size w w' := by
  have hn : d.np ≤ 9223372036854775807 := by have := hp.le; have := hp.top; unfold maxLen at this; omega
  have hf0 := fresh_trans (fresh_alloc w (.cells #[.slice bo d.nb cb, .slice po d.np cp] 35)) (fresh_alloc _ (.cells #[.slice bo' d.nb cb', .slice po' d.np cp'] 35))
  go_enter Tryz.func21, Tryz.ntmps21
  go_wp2_with fail
  have K1 := hidd (show ((w.alloc (.cells #[.slice bo d.nb cb, .slice po d.np cp] 35)).alloc (.cells #[.slice bo' d.nb cb', .slice po' d.np cp'] 35)).cell? ⟨w.heap.size, 1, none⟩ = some (.slice po d.np cp) by simp)
  have K2 := hidd (show ((w.alloc (.cells #[.slice bo d.nb cb, .slice po d.np cp] 35)).alloc (.cells #[.slice bo' d.nb cb', .slice po' d.np cp'] 35)).cell? ⟨w.heap.size + 1, 1, none⟩ = some (.slice po' d.np cp') by simp)
  generalize (w.alloc (.cells #[.slice bo d.nb cb, .slice po d.np cp] 35)).alloc (.cells #[.slice bo' d.nb cb', .slice po' d.np cp'] 35) = w1 at *
  refine (eqBytes_same (hb.fresh hf0) (hb'.fresh hf0) (fun _ _ => rfl)).mono ?_
  rintro e w2 ⟨rfl, hf2⟩
  have k1 := fresh_cell hf2 K1.out
  have k2 := fresh_cell hf2 K2.out
  go_wp2
  clear k1 k2
  go_loopw [5] (fun i wr => ∃ k : Nat, k ≤ d.np ∧ i = .int .i64 k ∧ Below w1.heap.size w1 wr) (fun i _ => d.np - (intOf i).toNat)
  case atStart => exact ⟨0, by omega, rfl, hf2⟩
  case round =>
    clear hf2
    obtain ⟨k, hk, rfl, hfb⟩ := hrel
    have hf := fresh_trans hf0 hfb
    have k1 := fresh_cell hfb K1.out
    have k2 := fresh_cell hfb K2.out
    by_cases hlt : k < d.np
    · obtain ⟨b1, o1, rfl, h1⟩ := (hp.fresh hf).two (by omega)
      obtain ⟨b2, o2, rfl, h2⟩ := (hp'.fresh hf).two (by omega)
      obtain ⟨c1, s1⟩ := h1 k hlt
      obtain ⟨c2, s2⟩ := h2 k hlt
      clear h1 h2
      have hq := neP_true (d.P k) (d.Q k)
      go_wp2
      go_quiet (fail)
      go_wp2
      go_roundw
      case rel => exact ⟨k + 1, by omega, by go_num, below_drewN hfb _⟩
      case measure => simp [intOf]; omega
    · go_wp2
      go_ret
      exact ⟨rfl, hf⟩
set_option maxHeartbeats 1000000 in
theorem copyB_any {w : World} {ao : Option Addr} {n ca : Nat} {f : Nat → Int} (ha : RdA w ao 1 n ca (fun i => .int .u8 (f i))) (hn : n ≤ 140737488351232) :
    Calls Tryz.prog 53 #[.slice ao n ca] w fun e w' => ∃ v, e = .returned v ∧ Own w' w.heap.size 5 1 v n (fun j => .int .u8 (f j)) ∧ Below w.heap.size w w' := by
  go_enter Tryz.func53, Tryz.ntmps53
  go_wp2
  go_loopw [3, 4] (fun v i wr => ∃ k : Nat, k ≤ n ∧ i = .int .i64 k ∧ Own wr w.heap.size 5 1 v k (fun j => .int .u8 (f j)) ∧ Below w.heap.size w wr) (fun _ i _ => n - (intOf i).toNat)
  case atStart => exact ⟨0, by omega, rfl, own_nil _ _ _ _ _, Below.refl _ _⟩
  case round =>
    obtain ⟨k, hk, rfl, hown, hf1⟩ := hrel
    have hsz := hf1.size
    by_cases hlt : k < n
    · obtain ⟨b1, o1, rfl, h1⟩ := (ha.fresh hf1).one (by omega)
      have c1 := h1 k hlt
      clear h1
      go_wp2_with (at_builtin; refine wpList_app1 _ rfl _ _ 32 rfl _ 5 (.int .u8 0) 1 Tryz.underlying32 infoB rfl _ k _ rfl (hown.kept (fresh_alloc _ _)) _ 1 rfl (new_cell _ _ _) rfl (by omega) (by omega) (by simp; omega) ?_)
      intro v' w6 hown' happ
      have hf6 := happ.below (hf1.alloc hsz _) (hown.kept (fresh_alloc _ _)) (Nat.le_refl _) (by simp; omega)
      clear happ hown hf1 c1
      go_wp2
      go_roundw
      case rel => exact ⟨k + 1, by omega, by go_num, hown', hf6⟩
      case measure => simp [intOf]; omega
    · obtain rfl : k = n := by omega
      go_wp2
      go_ret
      exact ⟨_, rfl, hown, hf1⟩
end Go.Proofs.YtmhjpfjhppcfoaaGreatDoor
namespace Go.Proofs.YtmhjpfjhppcfoaaGreatDoor
open Go.RowKit
attribute [local go_sem ↓] Go.wp_at_zero Go.wp_at_succ
/-! CopyVocab. -/
theorem App.row {w w' : World} {v v' : Value} {base : Nat} {e : TypeId} {sz n : Nat} {cs : Nat → Value} (h : App w w' v v') (ho : Own w base e sz v n cs) {b m : Nat} {t : TypeId} {F : Nat → Value} (hr : w.rowIs b t m F) (hb : b < base) : w'.rowIs b t m F :=
  hr.of_block (h.grown.block b hr.lt (fun e => by have := (ho.lt b e.symm).1; omega))
def two (a b : Value) : Nat → Value := fun i => if i = 0 then a else b
theorem row2 {w : World} {b : Nat} {t : TypeId} {x y : Value} (h : w.rowIs b t 2 (two x y)) : w.cell? ⟨b, 0, none⟩ = some x ∧ w.cell? ⟨b, 1, none⟩ = some y :=
  ⟨h.cell (i := 0) (by decide), h.cell (i := 1) (by decide)⟩
theorem two_set1 {a b c : Value} : ∀ i, i < 2 → (if i = 1 then c else two a b i) = two a c i := by
  intro i hi
  obtain rfl | rfl : i = 0 ∨ i = 1 := by omega
  all_goals rfl
theorem two_set0 {a b c : Value} : ∀ i, i < 2 → (if i = 0 then c else two a b i) = two c b i := by
  intro i hi
  obtain rfl | rfl : i = 0 ∨ i = 1 := by omega
  all_goals rfl
theorem row2_new (w : World) (t : TypeId) (x y : Value) : (w.alloc (.cells #[x, y] t)).rowIs w.heap.size t 2 (two x y) :=
  World.rowIs_alloc w #[x, y] t (two x y) (fun i hi => by
    have hi : i < 2 := hi
    obtain rfl | rfl : i = 0 ∨ i = 1 := by omega
    all_goals rfl)
theorem alloc_at0 (w : World) (x y : Value) (t : TypeId) : (w.alloc (.cells #[x, y] t)).cell? ⟨w.heap.size, 0, none⟩ = some x := by simp
theorem alloc_at1 (w : World) (x y : Value) (t : TypeId) : (w.alloc (.cells #[x, y] t)).cell? ⟨w.heap.size, 1, none⟩ = some y := by simp
theorem tcs_oneV (C S : Nat → Int) (j : Nat) : (tcs C S j).oneCell' = true := by unfold tcs; split <;> rfl
set_option maxRecDepth 20000 in
set_option maxHeartbeats 4000000 in
theorem copyV_any {w : World} {d : VD} {bo po : Option Addr} {cb cp : Nat} (hb : RdA w bo 1 d.nb cb (fun i => .int .u8 (d.B i))) (hp : RdA w po 2 d.np cp (tcs d.P d.Q)) (n1 : d.nb ≤ 140737488351232) (n2 : d.np ≤ 8796093021952) :
    Calls Tryz.prog 18 #[.agg #[.slice bo d.nb cb, .slice po d.np cp]] w fun e w' => ∃ v u, e = .returned (.agg #[v, u]) ∧ Own w' w.heap.size 5 1 v d.nb (fun i => .int .u8 (d.B i)) ∧ Own w' w.heap.size 88 2 u d.np (tcs d.P d.Q) ∧ Off u v ∧ Below w.heap.size w w' := by
  have hf0 := fresh_alloc w (.cells #[.slice bo d.nb cb, .slice po d.np cp] 35)
  have hf1 := fresh_trans hf0 (fresh_alloc _ (.cells #[.slice none 0 0, .slice none 0 0] 35))
  have hf2 := fresh_trans hf1 (fresh_alloc _ (.cells #[.slice none 0 0, .slice none 0 0] 35))
  have r2 := row2_new ((w.alloc (.cells #[.slice bo d.nb cb, .slice po d.np cp] 35)).alloc (.cells #[.slice none 0 0, .slice none 0 0] 35)) 35 (.slice none 0 0) (.slice none 0 0)
  have r1 := (row2_new (w.alloc (.cells #[.slice bo d.nb cb, .slice po d.np cp] 35)) 35 (.slice none 0 0) (.slice none 0 0)).alloc (.cells #[.slice none 0 0, .slice none 0 0] 35)
  have r0 := ((row2_new w 35 (.slice bo d.nb cb) (.slice po d.np cp)).alloc (.cells #[.slice none 0 0, .slice none 0 0] 35)).alloc (.cells #[.slice none 0 0, .slice none 0 0] 35)
  simp only [World.size_alloc] at r1 r2
  have hS3 : (((w.alloc (.cells #[.slice bo d.nb cb, .slice po d.np cp] 35)).alloc (.cells #[.slice none 0 0, .slice none 0 0] 35)).alloc (.cells #[.slice none 0 0, .slice none 0 0] 35)).heap.size = w.heap.size + 3 := by simp
  go_enter Tryz.func18, Tryz.ntmps18
  go_wp2_with fail
  generalize ((w.alloc (.cells #[.slice bo d.nb cb, .slice po d.np cp] 35)).alloc (.cells #[.slice none 0 0, .slice none 0 0] 35)).alloc (.cells #[.slice none 0 0, .slice none 0 0] 35) = w3 at *
  refine (copyB_any (hb.fresh hf2) n1).mono ?_
  rintro e w4 ⟨vB, rfl, hownB, hf4⟩
  rw [hS3] at hownB
  have q0 := r0.of_block (hf4.block _ r0.lt)
  have q1 := r1.of_block (hf4.block _ r1.lt)
  have q2 := r2.of_block (hf4.block _ r2.lt)
  have hF4 := fresh_trans hf2 hf4
  have hz4 : w.heap.size + 3 ≤ w4.heap.size := by rw [← hS3]; exact hf4.size
  clear r0 r1 r2 hf0 hf1 hf2 hf4 hS3
  obtain ⟨aB, kB, rfl, _⟩ := hownB.rd
  have c2 := row2 q2
  have c0 := row2 q0
  have f2 := q2.frozen
  go_wp2
  have s2 := (q2.set 0 (.slice aB d.nb kB)).congr two_set0
  have s1 := q1.setOther (a := ⟨w.heap.size + 1 + 1, 0, none⟩) (by simp) (.slice aB d.nb kB)
  have s0 := q0.setOther (a := ⟨w.heap.size + 1 + 1, 0, none⟩) (by dsimp only; omega) (.slice aB d.nb kB)
  have hB5 : Own _ (w.heap.size + 3) 5 1 _ d.nb (fun i => .int .u8 (d.B i)) := ownsRow_setCell_below hownB (a := ⟨w.heap.size + 1 + 1, 0, none⟩) (by simp) (.slice aB d.nb kB)
  have hF5 := hF4.setCell (p := ⟨w.heap.size + 1 + 1, 0, none⟩) (by simp; omega) (.slice aB d.nb kB)
  have hz5 : w.heap.size + 3 ≤ (w4.setCell ⟨w.heap.size + 1 + 1, 0, none⟩ (.slice aB d.nb kB)).heap.size := by simpa using hz4
  generalize w4.setCell ⟨w.heap.size + 1 + 1, 0, none⟩ (.slice aB d.nb kB) = w5 at *
  clear q0 q1 q2 c2 c0 f2 hownB hF4 hz4
  go_loopw [4] (fun i wr => ∃ (k : Nat) (v : Value), k ≤ d.np ∧ i = .int .i64 k ∧ Own wr (w.heap.size + 3) 88 2 v k (tcs d.P d.Q) ∧ Own wr (w.heap.size + 3) 5 1 (.slice aB d.nb kB) d.nb (fun i => .int .u8 (d.B i)) ∧ Off v (.slice aB d.nb kB)
      ∧ wr.rowIs w.heap.size 35 2 (two (.slice bo d.nb cb) (.slice po d.np cp)) ∧ wr.rowIs (w.heap.size + 1) 35 2 (two (.slice none 0 0) (.slice none 0 0)) ∧ wr.rowIs (w.heap.size + 1 + 1) 35 2 (two (.slice aB d.nb kB) v) ∧ w.heap.size + 3 ≤ wr.heap.size ∧ Below w.heap.size w wr) (fun i _ => d.np - (intOf i).toNat)
  case atStart => exact ⟨0, _, by omega, rfl, own_nil _ _ _ _ _, hB5, off_nil _, s0, s1, s2, hz5, hF5⟩
  case round =>
    clear hB5 s0 s1 s2 hz5 hF5
    obtain ⟨k, v, hk, rfl, hown, hownB, hoff, s0, s1, s2, hz, hf⟩ := hrel
    obtain ⟨e0, e1⟩ := row2 s0
    obtain ⟨g0, g1⟩ := row2 s2
    have fa := s2.frozen
    by_cases hlt : k < d.np
    · obtain ⟨b1, o1, rfl, h1⟩ := (hp.fresh hf).two (by omega)
      obtain ⟨c1, c2⟩ := h1 k hlt
      clear h1
      have i1 : (0 : Int) ≤ (k : Int) := Int.natCast_nonneg _
      have i2 : (k : Int) < (d.np : Int) := by omega
      obtain ⟨na1, nc1, rfl, _⟩ := hown.rd
      have a1 := fresh_cell (fresh_alloc wr (.cells #[.int .i64 (d.P k), .int .i64 (d.Q k)] 88)) g1
      have hrw := hidd (s2.alloc (.cells #[.int .i64 (d.P k), .int .i64 (d.Q k)] 88))
      have HO := hidd ((hown.kept (fresh_alloc wr (.cells #[.int .i64 (d.P k), .int .i64 (d.Q k)] 88))).kept (Below.refl _ _).drew)
      have N0 : Hid ((wr.alloc (.cells #[.int .i64 (d.P k), .int .i64 (d.Q k)] 88)).cell? ⟨wr.heap.size, 0, none⟩ = some (tcs d.P d.Q (k * 2))) := by rw [tcs0]; exact alloc_at0 _ _ _ _
      have N1 : Hid ((wr.alloc (.cells #[.int .i64 (d.P k), .int .i64 (d.Q k)] 88)).cell? ⟨wr.heap.size, 1, none⟩ = some (tcs d.P d.Q (k * 2 + 1))) := by rw [tcs1]; exact alloc_at1 _ _ _ _
      go_wp2
      go_region_law ((refine step_app2 _ (by rfl) _ _ _ (by rfl) (w.heap.size + 3) 88 (.agg #[.int .i64 0, .int .i64 0]) 16 Tryz.underlying33 infoP rfl _ k (tcs d.P d.Q) (by rfl) HO.out wr.heap.size 1 (by rfl) N0.out N1.out (tcs_oneV _ _ _) (tcs_oneV _ _ _) (by omega) (by omega) (by simp; omega) ?_; intro g' cap' w9 hown' happ; have y := happ.row HO.out hrw.out.drew (by omega); have y2 := (row2 y).2; have yf := y.frozen))
      all_goals
        have y0 := hidd (happ.row HO.out (s0.alloc _).drew (by omega))
        have y1 := hidd (happ.row HO.out (s1.alloc _).drew (by omega))
        have Y := hidd y
        have HB := hidd (happ.own ((hownB.kept (fresh_alloc _ _)).kept (Below.refl _ _).drew) hoff)
        have HF := hidd (happ.off ((hownB.kept (fresh_alloc _ _)).kept (Below.refl _ _).drew) hoff)
        have hf10 := happ.below ((hf.alloc hf.size _).drew) HO.out (by omega) (by have := hf.size; simp; omega)
        have hz10 : w.heap.size + 3 ≤ w9.heap.size := Nat.le_trans (by simp; omega) happ.grown.size
        have HO' := hidd hown'
        clear happ a1 hrw HO N0 N1 e0 e1 g0 g1 fa c1 c2 y2 yf y hown hownB s0 s1 s2 hown' hoff
        go_wp2
        go_roundw
        case rel => exact ⟨k + 1, _, hlt, by go_num, ownsRow_setCell_below HO'.out (by dsimp only; omega) _, ownsRow_setCell_below HB.out (by dsimp only; omega) _, HF.out, y0.out.setOther (by dsimp only; omega) _, y1.out.setOther (by dsimp only; omega) _, (Y.out.set 1 _).congr two_set1, by simpa using hz10, hf10.setCell (by dsimp only; omega) _⟩
        case measure => simp [intOf]; omega
    · obtain rfl : k = d.np := by omega
      obtain ⟨na1, nc1, rfl, _⟩ := hown.rd
      obtain ⟨z0, z1⟩ := row2 s1
      have fz := s1.frozen
      have HO := hidd hown
      have HB := hidd hownB
      have HF := hidd hoff
      clear hown hownB hoff
      go_wp2
      have r' := hidd ((s1.set 0 (.slice aB d.nb kB)).set 1 (.slice na1 d.np nc1))
      have hff : Below w.heap.size w ((wr.setCell ⟨w.heap.size + 1, 0, none⟩ (.slice aB d.nb kB)).setCell ⟨w.heap.size + 1, 1, none⟩ (.slice na1 d.np nc1)) := (hf.setCell (by dsimp only; omega) _).setCell (by dsimp only; omega) _
      have nB := hidd (ownsRow_setCell_below (ownsRow_setCell_below HB.out (a := ⟨w.heap.size + 1, 0, none⟩) (by dsimp only; omega) (.slice aB d.nb kB)) (a := ⟨w.heap.size + 1, 1, none⟩) (by dsimp only; omega) (.slice na1 d.np nc1))
      have nP := hidd (ownsRow_setCell_below (ownsRow_setCell_below HO.out (a := ⟨w.heap.size + 1, 0, none⟩) (by dsimp only; omega) (.slice aB d.nb kB)) (a := ⟨w.heap.size + 1, 1, none⟩) (by dsimp only; omega) (.slice na1 d.np nc1))
      clear z0 z1 fz s0 s1 s2 HB HO e0 e1 g0 g1 fa
      generalize ((wr.setCell ⟨w.heap.size + 1, 0, none⟩ (.slice aB d.nb kB)).setCell ⟨w.heap.size + 1, 1, none⟩ (.slice na1 d.np nc1)) = w9 at *
      have y0 : w9.cell? ⟨w.heap.size + 1, 0, none⟩ = some (.slice aB d.nb kB) := r'.out.cell (i := 0) (by decide)
      have y1 : w9.cell? ⟨w.heap.size + 1, 1, none⟩ = some (.slice na1 d.np nc1) := r'.out.cell (i := 1) (by decide)
      refine bodyPost_ret (v := .agg #[.slice aB d.nb kB, .slice na1 d.np nc1]) (by simp [results, Tryz.results18, go_sem, y0, y1]) rfl ?_
      exact ⟨_, _, rfl, Own.weaken nB.out (by omega), Own.weaken nP.out (by omega), HF.out, hff⟩
end Go.Proofs.YtmhjpfjhppcfoaaGreatDoor
