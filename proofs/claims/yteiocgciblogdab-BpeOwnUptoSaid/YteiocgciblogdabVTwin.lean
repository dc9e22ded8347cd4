import Derived.Test.YteiocgciblogdabVCpv
import Derived.Test.YteiocgciblogdabVUnl
import Derived.Deep.DeepCutAuto
namespace Go.Proofs.Yteiocgciblogdab
open Go.RowKit
/-! twin. -/
def mkB (n : Nat) (f : Nat → Int) (j : Nat) : Int := if j < n then f j else if j = n then 225 else 226
def mk1 (n : Nat) (f : Nat → Int) (x : Int) (j : Nat) : Int := if j < n then f j else x
theorem mkB_lo {n : Nat} {f : Nat → Int} {j : Nat} (h : j < n) : mkB n f j = f j := if_pos h
theorem mk1_lo {n : Nat} {f : Nat → Int} {x : Int} {j : Nat} (h : j < n) : mk1 n f x j = f j := if_pos h
theorem mkB_0 (n : Nat) (f : Nat → Int) : mkB n f n = 225 := by unfold mkB; rw [if_neg (by omega), if_pos rfl]
theorem mkB_1 (n : Nat) (f : Nat → Int) : mkB n f (n + 1) = 226 := by unfold mkB; rw [if_neg (by omega), if_neg (by omega)]
theorem mk1_hi (n : Nat) (f : Nat → Int) (x : Int) : mk1 n f x n = x := by unfold mk1; rw [if_neg (by omega)]
theorem tcs_mk1 {n : Nat} {C S : Nat → Int} {x y : Int} {j : Nat} (h : j < n * 2) : tcs C S j = tcs (mk1 n C x) (mk1 n S y) j := by
  unfold tcs; rw [mk1_lo (by omega), mk1_lo (by omega)]
theorem own_some {w : World} {base : Nat} {e : TypeId} {sz : Nat} {v : Value} {n : Nat} {cs : Nat → Value} (h : Own w base e sz v n cs) (hn : 0 < n) : ∃ g cap, v = .slice (some ⟨g, 0, none⟩) n cap ∧ base ≤ g ∧ g < w.heap.size ∧ n ≤ cap ∧ cap ≤ maxLen := by
  rcases h.2 with ⟨rfl, rfl⟩ | ⟨g, cap, cur, rfl, hb, hg, hnc, hcm, hcs, htake⟩
  · omega
  · exact ⟨g, cap, rfl, hb, (Array.getElem?_eq_some_iff.1 hg).1, hnc, hcm⟩
theorem Own.rda {w : World} {base : Nat} {e : TypeId} {sz : Nat} {ao : Option Addr} {m cap n : Nat} {cs : Nat → Value} (h : Own w base e sz (.slice ao m cap) n cs) : RdA w ao sz n cap cs := by
  obtain ⟨ao', cap', e, hr⟩ := h.rd
  cases e; exact hr
/-- What twin leaves. -/
structure TwinR (w w' : World) (d : VD) (gb kb gp kp : Nat) : Prop where
  b : Own w' w.heap.size 5 1 (.slice (some ⟨gb, 0, none⟩) (d.nb + 2) kb) (d.nb + 2) (fun i => .int .u8 (mkB d.nb d.B i))
  p : Own w' w.heap.size 48 2 (.slice (some ⟨gp, 0, none⟩) (d.np + 1) kp) (d.np + 1) (tcs (mk1 d.np d.P (-7)) (mk1 d.np d.Q (-8)))
  off : gb ≠ gp
  low : Below w.heap.size w w'
theorem two_bytes (w : World) (t : TypeId) (n : Nat) (f : Nat → Int) : ∀ j, j < 2 * 1 → (w.alloc (.cells #[.int .u8 225, .int .u8 226] t)).cell? ⟨w.heap.size, j, none⟩ = some ((fun i => Value.int .u8 (mkB n f i)) (n * 1 + j)) := fun j hj => by
  obtain rfl | rfl : j = 0 ∨ j = 1 := by omega
  · simp [mkB_0]
  · simp [mkB_1]
theorem two_ints (w : World) (t : TypeId) (n : Nat) (C S : Nat → Int) (x y : Int) : ∀ j, j < 1 * 2 → (w.alloc (.cells #[.int .i64 x, .int .i64 y] t)).cell? ⟨w.heap.size, j, none⟩ = some (tcs (mk1 n C x) (mk1 n S y) (n * 2 + j)) := fun j hj => by
  obtain rfl | rfl : j = 0 ∨ j = 1 := by omega
  · simp [tcs0, mk1_hi]
  · simp [tcs1, mk1_hi]
set_option maxRecDepth 20000 in
set_option maxHeartbeats 4000000 in
theorem twin_any {w : World} {d : VD} {bo po : Option Addr} {cb cp : Nat} (hb : RdA w bo 1 d.nb cb (fun i => .int .u8 (d.B i))) (hp : RdA w po 2 d.np cp (tcs d.P d.Q)) (n1 : d.nb ≤ 140737488351232) (n2 : d.np ≤ 8796093021952) :
    Calls Try.prog 5 #[.agg #[.slice bo d.nb cb, .slice po d.np cp]] w fun e w' => ∃ gb kb gp kp, e = .returned (.agg #[.slice (some ⟨gb, 0, none⟩) d.nb kb, .slice (some ⟨gp, 0, none⟩) d.np kp]) ∧ TwinR w w' d gb kb gp kp := by
  have hf0 := fresh_alloc w (.cells #[.slice bo d.nb cb, .slice po d.np cp] 25)
  have hf1 := fresh_trans hf0 (fresh_alloc _ (.cells #[.slice none 0 0, .slice none 0 0] 25))
  have r1 := row2_new (w.alloc (.cells #[.slice bo d.nb cb, .slice po d.np cp] 25)) 25 (.slice none 0 0) (.slice none 0 0)
  have r0 := (row2_new w 25 (.slice bo d.nb cb) (.slice po d.np cp)).alloc (.cells #[.slice none 0 0, .slice none 0 0] 25)
  simp only [World.size_alloc] at r1
  have hS2 : ((w.alloc (.cells #[.slice bo d.nb cb, .slice po d.np cp] 25)).alloc (.cells #[.slice none 0 0, .slice none 0 0] 25)).heap.size = w.heap.size + 2 := by simp
  go_enter Try.func5, Try.ntmps5
  go_wp2_with fail
  generalize (w.alloc (.cells #[.slice bo d.nb cb, .slice po d.np cp] 25)).alloc (.cells #[.slice none 0 0, .slice none 0 0] 25) = w2 at *
  refine (copyV_any (hb.fresh hf1) (hp.fresh hf1) n1 n2).mono ?_
  rintro e w4 ⟨vB, vP, rfl, hownB, hownP, hoff, hf4⟩
  rw [hS2] at hownB hownP
  have q0 := r0.of_block (hf4.block _ r0.lt)
  have q1 := r1.of_block (hf4.block _ r1.lt)
  have hF4 := fresh_trans hf1 hf4
  have hz4 : w.heap.size + 2 ≤ w4.heap.size := by rw [← hS2]; exact hf4.size
  clear r0 r1 hf0 hf1 hf4 hS2
  have hB1 : Own w4 (w.heap.size + 2) 5 1 vB d.nb (fun i => .int .u8 (mkB d.nb d.B i)) := hownB.congr (fun j hj => by rw [mkB_lo (by omega)])
  have hP1 : Own w4 (w.heap.size + 2) 48 2 vP d.np (tcs (mk1 d.np d.P (-7)) (mk1 d.np d.Q (-8))) := hownP.congr (fun j hj => tcs_mk1 hj)
  clear hownB hownP
  obtain ⟨aB, kB, rfl, _⟩ := hB1.rd
  obtain ⟨aP, kP, rfl, _⟩ := hP1.rd
  have k0 := (q0.alloc (.cells #[.slice aB d.nb kB, .slice aP d.np kP] 25))
  have k1 := (q1.alloc (.cells #[.slice aB d.nb kB, .slice aP d.np kP] 25))
  have k2 := row2_new w4 25 (.slice aB d.nb kB) (.slice aP d.np kP)
  have fA := fresh_alloc w4 (.cells #[.slice aB d.nb kB, .slice aP d.np kP] 25)
  have hB2 := hB1.kept fA
  have hP2 := hP1.kept fA
  have hF5 := hF4.alloc (Nat.le_trans (by omega) hz4) (.cells #[.slice aB d.nb kB, .slice aP d.np kP] 25)
  have hz5 : w.heap.size + 2 ≤ (w4.alloc (.cells #[.slice aB d.nb kB, .slice aP d.np kP] 25)).heap.size := by simp; omega
  have hC5 : w4.heap.size < (w4.alloc (.cells #[.slice aB d.nb kB, .slice aP d.np kP] 25)).heap.size := by simp
  have hnB : Value.ownBlock (.slice aB d.nb kB) ≠ some w4.heap.size := fun e => by have := (hB1.lt _ e).2; omega
  have hnP : Value.ownBlock (.slice aP d.np kP) ≠ some w4.heap.size := fun e => by have := (hP1.lt _ e).2; omega
  clear q0 q1 hB1 hP1 fA
  go_upto_region 2 with fail
  generalize w4.alloc (.cells #[.slice aB d.nb kB, .slice aP d.np kP] 25) = w5 at *
  generalize w4.heap.size = C at *
  obtain ⟨c0, c1⟩ := row2 k2
  have HB2 := hidd (hB2.kept (fresh_alloc w5 (.cells #[.int .u8 225, .int .u8 226] 5)))
  have NB := hidd (two_bytes w5 5 d.nb d.B)
  clear hF4 hz4
  go_wp2_with (at_builtin; refine wpList_app _ rfl _ _ 22 rfl (w.heap.size + 2) 5 (.int .u8 0) 1 1 Try.underlying22 infoB rfl (by decide) _ d.nb (fun i => .int .u8 (mkB d.nb d.B i)) rfl HB2.out _ 2 2 rfl NB.out (fun _ _ => rfl) (by decide) (by unfold maxLen; omega) (by omega) (by simp; omega) ?_)
  intro v6 w6 hown6 happ6
  have fA := fresh_alloc w5 (.cells #[.int .u8 225, .int .u8 226] 5)
  have hP6 := happ6.own (hP2.kept fA) hoff.symm
  have hoff6 := happ6.off (hP2.kept fA) hoff.symm
  have j0 := happ6.row HB2.out (k0.alloc _) (by omega)
  have j1 := happ6.row HB2.out (k1.alloc _) (by omega)
  have j2 := k2.alloc (.cells #[.int .u8 225, .int .u8 226] 5)
  have j2 := j2.of_block (happ6.grown.block _ j2.lt (fun e => hnB e.symm))
  have hF6 := happ6.below (hF5.alloc (Nat.le_trans (by omega) hz5) _) HB2.out (by omega) (by simp; omega)
  have hz6 : w.heap.size + 2 ≤ w6.heap.size := Nat.le_trans (by simp; omega) happ6.grown.size
  obtain ⟨gb, kb, rfl, hgb, hgbl, hkb1, hkb2⟩ := own_some hown6 (by omega)
  clear HB2 NB happ6 k0 k1 k2 c0 c1 hF5 hz5 hP2 hB2 hoff hC5
  have HO6 := hidd hown6
  clear hown6
  obtain ⟨c0, c1⟩ := row2 j2
  have HP2 := hidd (hP6.kept (fresh_alloc w6 (.cells #[.int .i64 (-7), .int .i64 (-8)] 48)))
  have NP := hidd (two_ints w6 48 d.np d.P d.Q (-7) (-8))
  go_wp2_with (at_builtin; refine wpList_app _ rfl _ _ 23 rfl (w.heap.size + 2) 48 (.agg #[.int .i64 0, .int .i64 0]) 2 16 Try.underlying23 infoP rfl (by decide) _ d.np (tcs (mk1 d.np d.P (-7)) (mk1 d.np d.Q (-8))) rfl HP2.out _ 1 1 rfl NP.out (fun _ _ => tcs_one _ _ _) (by decide) (by unfold maxLen; omega) (by omega) (by simp; omega) ?_)
  intro v7 w7 hown7 happ7
  have fA := fresh_alloc w6 (.cells #[.int .i64 (-7), .int .i64 (-8)] 48)
  have hB7 := hidd (happ7.own (HO6.out.kept fA) hoff6.symm)
  have hoff7 := hidd (happ7.off (HO6.out.kept fA) hoff6.symm)
  have m0 := happ7.row HP2.out (j0.alloc _) (by omega)
  have m1 := happ7.row HP2.out (j1.alloc _) (by omega)
  have hF7 := happ7.below (hF6.alloc (Nat.le_trans (by omega) hz6) _) HP2.out (by omega) (by simp; omega)
  have hz7 : w.heap.size + 2 ≤ w7.heap.size := Nat.le_trans (by simp; omega) happ7.grown.size
  obtain ⟨gp, kp, rfl, hgp, hgpl, hkp1, hkp2⟩ := own_some hown7 (by omega)
  have HP7 := hidd hown7
  clear HP2 NP happ7 j0 j1 j2 c0 c1 hF6 hz6 hP6 HO6 hoff6 hown7 fA
  obtain ⟨x0, x1⟩ := row2 m0
  obtain ⟨z0, z1⟩ := row2 m1
  have fz := m1.frozen
  unfold maxLen at hkb2 hkp2
  have i1 : (0 : Int) ≤ (d.nb : Int) := Int.natCast_nonneg _
  have i2 : (d.nb : Int) ≤ (kb : Int) := by omega
  have i3 : (0 : Int) ≤ (d.np : Int) := Int.natCast_nonneg _
  have i4 : (d.np : Int) ≤ (kp : Int) := by omega
  go_wp2
  go_region
  have r' := hidd (((m1.set 0 (.slice (some ⟨gb, 0, none⟩) d.nb kb)).set 1 (.slice (some ⟨gp, 0, none⟩) d.np kp)).drew)
  have hff : Below w.heap.size w ((w7.setCell ⟨w.heap.size + 1, 0, none⟩ (.slice (some ⟨gb, 0, none⟩) d.nb kb)).setCell ⟨w.heap.size + 1, 1, none⟩ (.slice (some ⟨gp, 0, none⟩) d.np kp)).drew := ((hF7.setCell (by dsimp only; omega) _).setCell (by dsimp only; omega) _).drew
  have nB := hidd (Own.kept (ownsRow_setCell_below (ownsRow_setCell_below hB7.out (a := ⟨w.heap.size + 1, 0, none⟩) (by dsimp only; omega) (.slice (some ⟨gb, 0, none⟩) d.nb kb)) (a := ⟨w.heap.size + 1, 1, none⟩) (by dsimp only; omega) (.slice (some ⟨gp, 0, none⟩) d.np kp)) (Below.refl _ _).drew)
  have nP := hidd (Own.kept (ownsRow_setCell_below (ownsRow_setCell_below HP7.out (a := ⟨w.heap.size + 1, 0, none⟩) (by dsimp only; omega) (.slice (some ⟨gb, 0, none⟩) d.nb kb)) (a := ⟨w.heap.size + 1, 1, none⟩) (by dsimp only; omega) (.slice (some ⟨gp, 0, none⟩) d.np kp)) (Below.refl _ _).drew)
  clear z0 z1 fz m0 m1 x0 x1 hB7 HP7 hF7 hz7
  generalize ((w7.setCell ⟨w.heap.size + 1, 0, none⟩ (.slice (some ⟨gb, 0, none⟩) d.nb kb)).setCell ⟨w.heap.size + 1, 1, none⟩ (.slice (some ⟨gp, 0, none⟩) d.np kp)).drew = w9 at *
  go_wp2
  have y0 : w9.cell? ⟨w.heap.size + 1, 0, none⟩ = some (.slice (some ⟨gb, 0, none⟩) d.nb kb) := r'.out.cell (i := 0) (by decide)
  have y1 : w9.cell? ⟨w.heap.size + 1, 1, none⟩ = some (.slice (some ⟨gp, 0, none⟩) d.np kp) := r'.out.cell (i := 1) (by decide)
  refine bodyPost_ret (v := .agg #[.slice (some ⟨gb, 0, none⟩) d.nb kb, .slice (some ⟨gp, 0, none⟩) d.np kp]) (by simp [results, Try.results5, go_sem, y0, y1]) rfl ?_
  exact ⟨gb, kb, gp, kp, rfl, Own.weaken nB.out (by omega), Own.weaken nP.out (by omega), fun e => hoff7.out gp rfl (by simp [Value.ownBlock, e]), hff⟩
end Go.Proofs.Yteiocgciblogdab
