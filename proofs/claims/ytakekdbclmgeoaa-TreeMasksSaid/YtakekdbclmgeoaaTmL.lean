import Derived.Test.YtakekdbclmgeoaaKI
import Derived.Test.YtakekdbclmgeoaaTrE
namespace Go.Proofs.Ytakekdbclmgeoaa
open Go.RowKit
/-! lives. -/
def lvR : List (Int × Int) := [(-1, 3), (-1, 3), (0, 4), (1, 4), (1, 5)]
theorem lv_ws : Cl.wsOf lvR 10 = [[3], [3, 4], [3, 5]] := by decide +kernel
def lvP : Nat → Int := fun i => if i = 0 then -1 else if i = 1 then 0 else 1
def lvT : Nat → Int := fun i => if i = 0 then 7 else if i = 1 then 3 else if i = 2 then 4 else 5
def lvD : Nat → Int := fun i => if i = 0 then 0 else if i = 1 then 1 else 2
theorem lv_rc : ∀ i, i < 4 → Cl.rcP [[3], [3, 4], [3, 5]] i = lvP i ∧ Cl.rcT 7 [[3], [3, 4], [3, 5]] i = lvT i ∧ Cl.rcD [[3], [3, 4], [3, 5]] i = lvD i := by
  have hn : ([[3], [3, 4], [3, 5]] : List (List Int)).Nodup := by decide
  have hr : Cl.rpk [[3], [3, 4], [3, 5]] [3] = 0 := Cl.rpk_of hn (k := 0) (by decide) rfl
  intro i hi
  have : i = 0 ∨ i = 1 ∨ i = 2 ∨ i = 3 := by omega
  rcases this with rfl | rfl | rfl | rfl
  · exact ⟨rfl, rfl, rfl⟩
  · refine ⟨?_, rfl, rfl⟩
    rw [show (1 : Nat) = 0 + 1 from rfl, Cl.rcP_one (by decide)]; rfl
  · refine ⟨?_, rfl, rfl⟩
    rw [show (2 : Nat) = 1 + 1 from rfl, Cl.rcP_up (by decide), show (Cl.wAt [[3], [3, 4], [3, 5]] 1).dropLast = [3] from rfl, hr]; rfl
  · refine ⟨?_, rfl, rfl⟩
    rw [show (3 : Nat) = 2 + 1 from rfl, Cl.rcP_up (by decide), show (Cl.wAt [[3], [3, 4], [3, 5]] 2).dropLast = [3] from rfl, hr]; rfl
theorem lv_ok : okT 4 lvP lvT lvD := by
  refine ⟨by omega, by omega, rfl, rfl, fun i h1 h2 => ?_⟩
  have : i = 1 ∨ i = 2 ∨ i = 3 := by omega
  rcases this with rfl | rfl | rfl
  · exact ⟨by decide, by decide, by decide, by decide, by decide, fun k k1 k2 => absurd k2 (by omega)⟩
  · refine ⟨by decide, by decide, by decide, by decide, by decide, fun k k1 k2 => ?_⟩
    obtain rfl : k = 1 := by omega
    decide
  · refine ⟨by decide, by decide, by decide, by decide, by decide, fun k k1 k2 => ?_⟩
    have : k = 1 ∨ k = 2 := by omega
    rcases this with rfl | rfl <;> decide
theorem lv_raw (w : World) (t : TypeId) : Cl.RdA (w.alloc (.cells #[.int .i64 (-1), .int .i64 3, .int .i64 (-1), .int .i64 3, .int .i64 0, .int .i64 4, .int .i64 1, .int .i64 4, .int .i64 1, .int .i64 5] t)) (some ⟨w.heap.size, 0, none⟩) 2 lvR.length 5 (Cl.rwF lvR) :=
  ⟨Nat.le_refl _, by unfold maxLen; omega, fun _ => ⟨w.heap.size, 0, rfl, fun j hj => by
    unfold World.cell?
    rw [World.alloc_heap_new]
    have hj : j < 10 := hj
    match j, hj with
    | 0, _ => rfl
    | 1, _ => rfl
    | 2, _ => rfl
    | 3, _ => rfl
    | 4, _ => rfl
    | 5, _ => rfl
    | 6, _ => rfl
    | 7, _ => rfl
    | 8, _ => rfl
    | 9, _ => rfl⟩⟩
theorem lv_nodes (w : World) (t : TypeId) : RdA (w.alloc (.cells #[.int .i64 (-1), .int .i64 7, .int .i64 0, .int .i64 0, .int .i64 3, .int .i64 1, .int .i64 1, .int .i64 4, .int .i64 2, .int .i64 1, .int .i64 5, .int .i64 2] t)) (some ⟨w.heap.size, 0, none⟩) 3 4 4 (nds lvP lvT lvD) :=
  ⟨Nat.le_refl _, by unfold maxLen; omega, fun _ => ⟨w.heap.size, 0, rfl, fun j hj => by
    unfold World.cell?
    rw [World.alloc_heap_new]
    have hj : j < 12 := hj
    match j, hj with
    | 0, _ => rfl
    | 1, _ => rfl
    | 2, _ => rfl
    | 3, _ => rfl
    | 4, _ => rfl
    | 5, _ => rfl
    | 6, _ => rfl
    | 7, _ => rfl
    | 8, _ => rfl
    | 9, _ => rfl
    | 10, _ => rfl
    | 11, _ => rfl⟩⟩
set_option maxRecDepth 20000 in
set_option maxHeartbeats 1600000 in
theorem lives_any (w : World) : Calls Try.prog 27 #[] w fun e w' => e = .returned (.bool true) ∧ Below w.heap.size w w' := by
  obtain ⟨W0, HW0⟩ : ∃ x, Hid (x = w.alloc (.cells #[.int .i64 (-1), .int .i64 3, .int .i64 (-1), .int .i64 3, .int .i64 0, .int .i64 4, .int .i64 1, .int .i64 4, .int .i64 1, .int .i64 5] 57)) := ⟨_, rfl⟩
  have HR : Cl.RdA W0 (some ⟨w.heap.size, 0, none⟩) 2 lvR.length 5 (Cl.rwF lvR) := by rw [HW0.out]; exact lv_raw w 57
  have F0 : Hid (Below w.heap.size w W0) := by rw [HW0.out]; exact fresh_alloc _ _
  have K1 : Hid (Calls Try.prog 40 #[.int .i64 7, .slice (some ⟨w.heap.size, 0, none⟩) 5 5, .int .i64 10] W0 fun e w' => ∃ u c, e = .returned (.tuple #[.slice u 4 c, .int .i64 0]) ∧ RdA w' u 3 4 c (nds lvP lvT lvD) ∧ Below W0.heap.size W0 w') := (Cl.clean_rc (root := 7) (v := 10) HR (by decide) ⟨by omega, by omega⟩ lv_ws.symm (m := 4) (by decide)).mono (fun e w' q => by
    obtain ⟨u, c, e1, o, b⟩ := q
    exact ⟨u, c, e1, (own_rda (show Own _ _ _ _ _ _ (nds _ _ _) from o)).congr (fun j hj => nds_congr (n := 4) lv_rc hj), b⟩)
  clear HR
  go_enter Try.func27, Try.ntmps27
  go_upto_region 2 with (go_at_call 40; rw [← HW0.out]; with_reducible refine K1.out.mono ?_; rintro e w1 ⟨u, c, rfl, hr, hb⟩; have R1 := hidd hr; have B1 := hidd (F0.out.trans (hb.mono F0.out.size)); clear K1 hr hb)
  obtain ⟨W2, HW2⟩ : ∃ x, Hid (x = w1.alloc (.cells #[.int .i64 (-1), .int .i64 7, .int .i64 0, .int .i64 0, .int .i64 3, .int .i64 1, .int .i64 1, .int .i64 4, .int .i64 2, .int .i64 1, .int .i64 5, .int .i64 2] 54)) := ⟨_, rfl⟩
  have F2 : Below w1.heap.size w1 W2 := by rw [HW2.out]; exact fresh_alloc _ _
  have N2 : RdA W2 (some ⟨w1.heap.size, 0, none⟩) 3 4 4 (nds lvP lvT lvD) := by rw [HW2.out]; exact lv_nodes w1 54
  have HN2 := hidd N2
  have B2 := hidd (B1.out.trans (F2.mono B1.out.size))
  have K2 := hidd (eqNodes_same (R1.out.fresh F2) N2)
  clear F2 N2
  go_upto_region 3 with fail
  rw [← HW2.out]
  go_wp2_with (first
    | (go_at_call 20; with_reducible refine K2.out.mono ?_; rintro e w3 ⟨rfl, hb⟩; have B3 := hidd (B2.out.trans (hb.mono B2.out.size)); have K3 := hidd (check_any (HN2.out.fresh hb)); rw [erT_ok lv_ok] at K3; clear K2 hb)
    | (go_at_call 15; with_reducible refine K3.out.mono ?_; rintro e w4 ⟨rfl, hb⟩; have B4 := hidd (B3.out.trans (hb.mono B3.out.size)); clear K3 hb))
  go_ret
  exact ⟨rfl, B4.out⟩
end Go.Proofs.Ytakekdbclmgeoaa
