import Derived.Test.YtknfddakpfkcfabDoorJdL
namespace Go.Proofs.YtknfddakpfkcfabDoor
open Go.RowKit Go.Shelf Go.Sort
/-! works. -/
def two (a b : Int) : Nat → Int := fun i => if i = 0 then a else b
theorem two_0 (a b : Int) : two a b 0 = a := rfl
theorem two_1 (a b : Int) : two a b 1 = b := rfl
theorem rd_two (w : World) (a b : Int) (t : TypeId) : RdA (w.alloc (.cells #[.int .i64 a, .int .i64 b] t)) (some ⟨w.heap.size, 0, none⟩) 1 2 2 (fun i => .int .i64 (two a b i)) :=
  ⟨Nat.le_refl _, by unfold maxLen; omega, fun _ => ⟨w.heap.size, 0, rfl, fun j hj => by
    unfold World.cell?
    rw [World.alloc_heap_new]
    match j, hj with
    | 0, _ => rfl
    | 1, _ => rfl⟩⟩
theorem rd_twoN (w : World) (a b c d e f : Int) (t : TypeId) : RdA (w.alloc (.cells #[.int .i64 a, .int .i64 b, .int .i64 c, .int .i64 d, .int .i64 e, .int .i64 f] t)) (some ⟨w.heap.size, 0, none⟩) 3 2 2 (nds (two a d) (two b e) (two c f)) :=
  ⟨Nat.le_refl _, by unfold maxLen; omega, fun _ => ⟨w.heap.size, 0, rfl, fun j hj => by
    unfold World.cell?
    rw [World.alloc_heap_new]
    match j, hj with
    | 0, _ => rfl
    | 1, _ => rfl
    | 2, _ => rfl
    | 3, _ => rfl
    | 4, _ => rfl
    | 5, _ => rfl⟩⟩
def wP := two (-1) 0
def wT := two 7 3
def wD := two 0 1
theorem ok_works : okT 2 wP wT wD := by
  refine ⟨by omega, by omega, rfl, rfl, fun i h1 h2 => ?_⟩
  obtain rfl : i = 1 := by omega
  refine ⟨by decide, by decide, by decide, by decide, by decide, fun k k1 k2 => absurd k2 (by omega)⟩
theorem wy_works : WyE 2 wP wT (two 3 4) 2 ∧ wyF 2 wP wT (two 3 4) 0 = 0 ∧ wyF 2 wP wT (two 3 4) 1 = 1 := by
  have e0 : wyF 2 wP wT (two 3 4) 0 = 0 := rfl
  have k1 := (WyP.start (n := 2) (P := wP) (T := wT) (C := two 3 4) (by omega)).next ok_works (a := 0) (i := 1) rfl ⟨by omega, rfl, rfl⟩
  have e1 := k1.2
  refine ⟨k1.1.ends (a := 1) e1.symm (fun i hi q => ?_), e0, e1⟩
  have h1 := q.1
  have : i = 0 ∨ i = 1 := by omega
  rcases this with rfl | rfl
  · exact absurd h1 (by decide)
  · exact absurd h1 (by decide)
theorem nalk56 : ¬ alk (two 5 6) 2 := by
  rintro ⟨i, j, hij, hj, e⟩
  obtain rfl : i = 0 := by omega
  obtain rfl : j = 1 := by omega
  exact absurd e (by decide)
noncomputable def wW : Nat → Int := fun j => ((wyF 2 wP wT (two 3 4) j : Nat) : Int)
theorem wW0 : wW 0 = 0 := by unfold wW; rw [wy_works.2.1]; rfl
theorem wW1 : wW 1 = 1 := by unfold wW; rw [wy_works.2.2]; rfl
theorem isW_works : isW 2 wP 2 wW := by
  refine ⟨by omega, wW0, fun i hi => ?_⟩
  obtain rfl : i = 0 := by omega
  rw [wW1, wW0]
  exact ⟨by omega, by omega, rfl⟩
theorem tk_works : TkE (bt wT wW 4 2) 2 9 2 false ∧ bt wT wW 4 2 0 = 3 ∧ bt wT wW 4 2 1 = 4 := by
  have e0 : bt wT wW 4 2 0 = 3 := by unfold bt; rw [if_pos (by omega), wW1]; rfl
  have e1 : bt wT wW 4 2 1 = 4 := by unfold bt; rw [if_neg (by omega)]
  refine ⟨⟨by omega, by omega, fun i hi => ?_, fun q => (by cases q), fun _ => ⟨rfl, ?_, by omega⟩⟩, e0, e1⟩
  · obtain rfl : i = 0 := by omega
    rw [e0]
    omega
  · show bt wT wW 4 2 1 ≠ 0
    rw [e1]
    omega
theorem may_works : mayP 2 wW 2 2 (two 5 6) := by
  refine ⟨by omega, by omega, fun i hi => ?_, nalk56⟩
  have : i = 0 ∨ i = 1 := by omega
  rcases this with rfl | rfl
  · rw [wW0]; omega
  · rw [wW1]; omega
theorem mv_works : mvL (two 5 9) wW (two 5 6) 2 = [(9, 6)] := by
  rw [mvL_next (by rw [wW1]; decide), mvL_same (by rw [wW0]; decide), wW1]
  rfl
set_option maxRecDepth 20000 in
set_option maxHeartbeats 1600000 in
theorem works_any (w : World) : Calls Tryd.prog 4 #[] w fun e w' => e = .returned (.bool true) ∧ Below w.heap.size w w' := by
  obtain ⟨W0, HW0⟩ : ∃ x, Hid (x = w.alloc (.cells #[.int .i64 (-1), .int .i64 7, .int .i64 0, .int .i64 0, .int .i64 3, .int .i64 1] 42)) := ⟨_, rfl⟩
  obtain ⟨W1, HW1⟩ : ∃ x, Hid (x = W0.alloc (.cells #[.int .i64 3, .int .i64 4] 3)) := ⟨_, rfl⟩
  have HN0 : Hid (RdA W0 (some ⟨w.heap.size, 0, none⟩) 3 2 2 (nds wP wT wD)) := by rw [HW0.out]; exact rd_twoN w _ _ _ _ _ _ _
  have HC1 : Hid (RdA W1 (some ⟨W0.heap.size, 0, none⟩) 1 2 2 (fun i => .int .i64 (two 3 4 i))) := by
    rw [HW1.out]
    exact rd_two W0 3 4 3
  have f0 : Below w.heap.size w W0 := by rw [HW0.out]; exact fresh_alloc _ _
  have f1 : Below W0.heap.size W0 W1 := by rw [HW1.out]; exact fresh_alloc _ _
  have HF1 := hidd (fresh_trans f0 f1)
  have HN1 := hidd (HN0.out.fresh f1)
  have HWK : Hid (Calls Tryd.prog 9 #[.slice (some ⟨w.heap.size, 0, none⟩) 2 2, .slice (some ⟨W0.heap.size, 0, none⟩) 2 2] W1 fun e w' => ∃ u c, e = .returned (.tuple #[.slice u 2 c, .int .i64 4, .int .i64 0]) ∧ RdA w' u 1 2 c (fun i => .int .i64 (wW i)) ∧ Below W1.heap.size W1 w') := (walk_any HN1.out HC1.out).mono (fun e w' q => by
    obtain ⟨v, m, x, er, he, k⟩ := q
    obtain ⟨k1, k2, k3⟩ := k.ok ok_works rfl
    obtain rfl : m = 2 := k1.uniq wy_works.1
    have hx : x = 4 := by rw [k2]; show two 3 4 (wyF 2 wP wT (two 3 4) 1) = 4; rw [wy_works.2.2]; rfl
    obtain ⟨u, c, rfl, hr⟩ := k.own.rd
    subst hx k3
    exact ⟨u, c, he, hr, k.low⟩)
  have HTK : Hid (∀ (w2 : World) (u : Option Addr) (c : Nat), RdA w2 u 1 2 c (fun i => .int .i64 (wW i)) → Below W1.heap.size W1 w2 → Calls Tryd.prog 10 #[.slice (some ⟨w.heap.size, 0, none⟩) 2 2, .slice u 2 c, .int .i64 4, .int .i64 9] w2 fun e w' => ∃ g uc, e = .returned (.tuple #[.slice (some ⟨g, 0, none⟩) 2 uc, .bool false, .int .i64 0]) ∧ w'.cell? ⟨g, 0, none⟩ = some (.int .i64 3) ∧ w'.cell? ⟨g, 1, none⟩ = some (.int .i64 4) ∧ Below w2.heap.size w2 w') := fun w2 u c hr hb => (take_any (HN1.out.fresh hb) hr).mono (fun e w' q => by
    obtain ⟨v, r, ov, er, he, k⟩ := q
    obtain ⟨k1, k2⟩ := k.ok ok_works isW_works (by omega)
    obtain ⟨rfl, rfl⟩ := k1.uniq tk_works.1
    have ho := k.own
    rcases ho.2 with ⟨_, h0⟩ | ⟨g, cap, cur, rfl, _⟩
    · exact absurd h0 (by omega)
    · obtain ⟨b, o, e1, hc⟩ := (own_rda ho).one (by omega)
      cases e1
      subst k2
      refine ⟨g, cap, he, ?_, ?_, k.low⟩
      · have := hc 0 (by omega); unfold btC at this; rw [tk_works.2.1] at this; exact this
      · have := hc 1 (by omega); unfold btC at this; rw [tk_works.2.2] at this; exact this)
  have HPL : Hid (∀ (w3 : World) (u : Option Addr) (c : Nat), RdA w3 u 1 2 c (fun i => .int .i64 (wW i)) → Calls Tryd.prog 14 #[.slice u 2 c, .slice (some ⟨w3.heap.size, 0, none⟩) 2 2, .slice (some ⟨w3.heap.size + 1, 0, none⟩) 2 2] ((w3.alloc (.cells #[.int .i64 5, .int .i64 9] 3)).alloc (.cells #[.int .i64 5, .int .i64 6] 3)) fun e w' => ∃ g uc, e = .returned (.tuple #[.slice (some ⟨g, 0, none⟩) 1 uc, .int .i64 0]) ∧ w'.cell? ⟨g, 0, none⟩ = some (.int .i64 9) ∧ w'.cell? ⟨g, 1, none⟩ = some (.int .i64 6) ∧ Below w3.heap.size w3 w') := fun w3 u c hr => by
    have g1 := fresh_alloc w3 (.cells #[.int .i64 5, .int .i64 9] 3)
    have g2 := fresh_alloc (w3.alloc (.cells #[.int .i64 5, .int .i64 9] 3)) (.cells #[.int .i64 5, .int .i64 6] 3)
    have r2 := rd_two (w3.alloc (.cells #[.int .i64 5, .int .i64 9] 3)) 5 6 3
    rw [show (w3.alloc (.cells #[.int .i64 5, .int .i64 9] 3)).heap.size = w3.heap.size + 1 by simp] at r2
    refine (plan_any (hr.fresh (fresh_trans g1 g2)) ((rd_two w3 5 9 3).fresh g2) r2 (by omega)).mono (fun e w' q => ?_)
    obtain ⟨v, R, er, he, k⟩ := q
    obtain ⟨k1, k2⟩ := k.ok may_works
    rw [mv_works] at k1
    subst k1 k2
    have ho := k.own
    rcases ho.2 with ⟨_, h0⟩ | ⟨g, cap, cur, rfl, _⟩
    · exact absurd h0 (by simp)
    · obtain ⟨b, o, e1, hc⟩ := (own_rda ho).at_ (by simp)
      cases e1
      refine ⟨g, cap, he, ?_, ?_, (fresh_trans g1 g2).trans (k.low.mono (by simp; omega))⟩
      · have := hc 0 (by simp); exact this
      · have := hc 1 (by simp); exact this
  clear HN0 HC1 f0 f1 HN1
  go_enter Tryd.func4, Tryd.ntmps4
  go_upto_region 2 with fail
  rw [← HW0.out]
  go_wp2_with (first
    | (go_at_call 9; rw [← HW1.out]; with_reducible refine HWK.out.mono ?_; rintro e w2 ⟨u, c, rfl, hr2, hb2⟩; have HR2 := hidd hr2; have HB2 := hidd hb2; have HT2 := hidd (HTK.out w2 u c hr2 hb2); clear hr2 hb2 HWK HTK)
    | (go_at_call 10; with_reducible refine HT2.out.mono ?_; rintro e w3 ⟨g, uc, rfl, c0, c1, hb3⟩; have HB3 := hidd hb3; have HC0 := hidd c0; have HC1 := hidd c1; have HP3 := hidd (HPL.out w3 u c (HR2.out.fresh hb3)); clear hb3 HT2 c0 c1 HPL)
    | (go_at_call 14; with_reducible refine HP3.out.mono ?_; rintro e w4 ⟨g4, uc4, rfl, d0, d1, hb4⟩; have c0 := fresh_cell hb4 HC0.out; have c1 := fresh_cell hb4 HC1.out; have HB4 := hidd hb4; clear hb4 HP3))
  go_ret
  exact ⟨rfl, HF1.out.trans ((HB2.out.trans ((HB3.out.trans (HB4.out.mono HB3.out.size)).mono HB2.out.size)).mono HF1.out.size)⟩
end Go.Proofs.YtknfddakpfkcfabDoor
