import Derived.Test.YtakekdbclmgeoabCqH
import Derived.Test.YtakekdbclmgeoabCqD
namespace Go.Proofs.Ytakekdbclmgeoab
open Go.RowKit
/-! Clean in the reference's words; lives; the tree's own raw tree. -/
abbrev wsOf (R : List (Int × Int)) (v : Int) : List (List Int) := wsD (rP R) (rT R) v R.length R.length
theorem clean_rc {w : World} {ao : Option Addr} {cap : Nat} {R : List (Int × Int)} {root v : Int} (h : RdA w ao 2 R.length cap (rwF R)) (hn : R.length ≤ 96) (hv : fits v) {WS : List (List Int)} (hW : WS = wsOf R v) {m : Nat} (hm : m = min 32 (WS.length + 1)) :
    Calls Try.prog 8 #[.int .i64 root, .slice ao R.length cap, .int .i64 v] w fun e w' => ∃ u c, e = .returned (.tuple #[.slice u m c, .int .i64 0]) ∧ Own w' w.heap.size 35 3 (.slice u m c) m (nds (rcP WS) (rcT root WS) (rcD WS)) ∧ Below w.heap.size w w' := by
  refine (clean_ok (root := root) (vocab := v) h hn hv rfl rfl).mono (fun e w' q => ?_)
  obtain ⟨d, ⟨d1, d2, d3⟩, u2, c2, e1, o, b⟩ := q
  have ts := trees_same (root := root) (v := v) (p := rP R) (t := rT R) (n := R.length) d1 d2 d3
  have em : min 32 (gaS root v (rP R) (rT R) R.length).n = m := by rw [hm, hW, ← ts.1]
  have em' : min 32 (gaS root v (fun i => (R.getD i (0, 0)).1) (fun i => (R.getD i (0, 0)).2) R.length).n = m := em
  rw [em'] at e1 o
  refine ⟨u2, c2, e1, o.congr (fun j hj => nds_congr (n := m) (fun i hi => ?_) hj), b⟩
  rw [hW]
  exact ts.2 i (by omega)
def lvR : List (Int × Int) := [(-1, 3), (-1, 3), (0, 4), (1, 4), (1, 5)]
theorem lv_ws : wsOf lvR 10 = [[3], [3, 4], [3, 5]] := by decide +kernel
def lvP : Nat → Int := fun i => if i = 0 then -1 else if i = 1 then 0 else 1
def lvT : Nat → Int := fun i => if i = 0 then 7 else if i = 1 then 3 else if i = 2 then 4 else 5
def lvD : Nat → Int := fun i => if i = 0 then 0 else if i = 1 then 1 else 2
theorem lv_rc : ∀ i, i < 4 → rcP [[3], [3, 4], [3, 5]] i = lvP i ∧ rcT 7 [[3], [3, 4], [3, 5]] i = lvT i ∧ rcD [[3], [3, 4], [3, 5]] i = lvD i := by
  have hn : ([[3], [3, 4], [3, 5]] : List (List Int)).Nodup := by decide
  have hr : rpk [[3], [3, 4], [3, 5]] [3] = 0 := rpk_of hn (k := 0) (by decide) rfl
  intro i hi
  have : i = 0 ∨ i = 1 ∨ i = 2 ∨ i = 3 := by omega
  rcases this with rfl | rfl | rfl | rfl
  · exact ⟨rfl, rfl, rfl⟩
  · refine ⟨?_, rfl, rfl⟩
    rw [show (1 : Nat) = 0 + 1 from rfl, rcP_one (by decide)]; rfl
  · refine ⟨?_, rfl, rfl⟩
    rw [show (2 : Nat) = 1 + 1 from rfl, rcP_up (by decide), show (wAt [[3], [3, 4], [3, 5]] 1).dropLast = [3] from rfl, hr]; rfl
  · refine ⟨?_, rfl, rfl⟩
    rw [show (3 : Nat) = 2 + 1 from rfl, rcP_up (by decide), show (wAt [[3], [3, 4], [3, 5]] 2).dropLast = [3] from rfl, hr]; rfl
theorem lv_ok : okT 4 lvP lvT lvD := by
  refine ⟨by omega, by omega, rfl, rfl, fun i h1 h2 => ?_⟩
  have : i = 1 ∨ i = 2 ∨ i = 3 := by omega
  rcases this with rfl | rfl | rfl
  · exact ⟨by decide, by decide, by decide, by decide, by decide, fun k k1 k2 => absurd k2 (by omega)⟩
  · refine ⟨by decide, by decide, by decide, by decide, by decide, fun k k1 k2 => ?_⟩
    obtain rfl : k = 1 := by omega
    decide
  · refine ⟨by decide, by decide, by decide, by decide, by decide, fun k k1 k2 => ?_⟩
    have : k = 1 ∨ k = 2 := by omega
    rcases this with rfl | rfl <;> decide
theorem lv_raw (w : World) (t : TypeId) : RdA (w.alloc (.cells #[.int .i64 (-1), .int .i64 3, .int .i64 (-1), .int .i64 3, .int .i64 0, .int .i64 4, .int .i64 1, .int .i64 4, .int .i64 1, .int .i64 5] t)) (some ⟨w.heap.size, 0, none⟩) 2 lvR.length 5 (rwF lvR) :=
  ⟨Nat.le_refl _, by unfold maxLen; omega, fun _ => ⟨w.heap.size, 0, rfl, fun j hj => by
    unfold World.cell?
    rw [World.alloc_heap_new]
    have hj : j < 10 := hj
    match j, hj with
    | 0, _ => rfl
    | 1, _ => rfl
    | 2, _ => rfl
    | 3, _ => rfl
    | 4, _ => rfl
    | 5, _ => rfl
    | 6, _ => rfl
    | 7, _ => rfl
    | 8, _ => rfl
    | 9, _ => rfl⟩⟩
theorem lv_nodes (w : World) (t : TypeId) : RdA (w.alloc (.cells #[.int .i64 (-1), .int .i64 7, .int .i64 0, .int .i64 0, .int .i64 3, .int .i64 1, .int .i64 1, .int .i64 4, .int .i64 2, .int .i64 1, .int .i64 5, .int .i64 2] t)) (some ⟨w.heap.size, 0, none⟩) 3 4 4 (nds lvP lvT lvD) :=
  ⟨Nat.le_refl _, by unfold maxLen; omega, fun _ => ⟨w.heap.size, 0, rfl, fun j hj => by
    unfold World.cell?
    rw [World.alloc_heap_new]
    have hj : j < 12 := hj
    match j, hj with
    | 0, _ => rfl
    | 1, _ => rfl
    | 2, _ => rfl
    | 3, _ => rfl
    | 4, _ => rfl
    | 5, _ => rfl
    | 6, _ => rfl
    | 7, _ => rfl
    | 8, _ => rfl
    | 9, _ => rfl
    | 10, _ => rfl
    | 11, _ => rfl⟩⟩
set_option maxRecDepth 20000 in
set_option maxHeartbeats 1600000 in
theorem lives_any (w : World) : Calls Try.prog 12 #[] w fun e w' => e = .returned (.bool true) ∧ Below w.heap.size w w' := by
  obtain ⟨W0, HW0⟩ : ∃ x, Hid (x = w.alloc (.cells #[.int .i64 (-1), .int .i64 3, .int .i64 (-1), .int .i64 3, .int .i64 0, .int .i64 4, .int .i64 1, .int .i64 4, .int .i64 1, .int .i64 5] 41)) := ⟨_, rfl⟩
  have HR : RdA W0 (some ⟨w.heap.size, 0, none⟩) 2 lvR.length 5 (rwF lvR) := by rw [HW0.out]; exact lv_raw w 41
  have F0 : Hid (Below w.heap.size w W0) := by rw [HW0.out]; exact fresh_alloc _ _
  have K1 : Hid (Calls Try.prog 8 #[.int .i64 7, .slice (some ⟨w.heap.size, 0, none⟩) 5 5, .int .i64 10] W0 fun e w' => ∃ u c, e = .returned (.tuple #[.slice u 4 c, .int .i64 0]) ∧ RdA w' u 3 4 c (nds lvP lvT lvD) ∧ Below W0.heap.size W0 w') := (clean_rc (root := 7) (v := 10) HR (by decide) ⟨by omega, by omega⟩ lv_ws.symm (m := 4) (by decide)).mono (fun e w' q => by
    obtain ⟨u, c, e1, o, b⟩ := q
    exact ⟨u, c, e1, (own_rda o).congr (fun j hj => nds_congr (n := 4) lv_rc hj), b⟩)
  clear HR
  go_enter Try.func12, Try.ntmps12
  go_upto_region 2 with (go_at_call 8; rw [← HW0.out]; with_reducible refine K1.out.mono ?_; rintro e w1 ⟨u, c, rfl, hr, hb⟩; have R1 := hidd hr; have B1 := hidd (F0.out.trans (hb.mono F0.out.size)); clear K1 hr hb)
  obtain ⟨W2, HW2⟩ : ∃ x, Hid (x = w1.alloc (.cells #[.int .i64 (-1), .int .i64 7, .int .i64 0, .int .i64 0, .int .i64 3, .int .i64 1, .int .i64 1, .int .i64 4, .int .i64 2, .int .i64 1, .int .i64 5, .int .i64 2] 35)) := ⟨_, rfl⟩
  have F2 : Below w1.heap.size w1 W2 := by rw [HW2.out]; exact fresh_alloc _ _
  have N2 : RdA W2 (some ⟨w1.heap.size, 0, none⟩) 3 4 4 (nds lvP lvT lvD) := by rw [HW2.out]; exact lv_nodes w1 35
  have HN2 := hidd N2
  have B2 := hidd (B1.out.trans (F2.mono B1.out.size))
  have K2 := hidd (eqNodes_same (R1.out.fresh F2) N2)
  clear F2 N2
  go_upto_region 3 with fail
  rw [← HW2.out]
  go_wp2_with (first
    | (go_at_call 10; with_reducible refine K2.out.mono ?_; rintro e w3 ⟨rfl, hb⟩; have B3 := hidd (B2.out.trans (hb.mono B2.out.size)); have K3 := hidd (check_any (HN2.out.fresh hb)); rw [erT_ok lv_ok] at K3; clear K2 hb)
    | (go_at_call 14; with_reducible refine K3.out.mono ?_; rintro e w4 ⟨rfl, hb⟩; have B4 := hidd (B3.out.trans (hb.mono B3.out.size)); clear K3 hb))
  go_ret
  exact ⟨rfl, B4.out⟩
/-- the raw tree of a tree's nodes -/
noncomputable def agL (root : Int) (WS : List (List Int)) (k : Nat) : List (Int × Int) := (List.range k).map (fun i => (agP WS i, agT root WS i))
theorem agL_len (root : Int) (WS : List (List Int)) (k : Nat) : (agL root WS k).length = k := by simp [agL]
theorem agL_succ (root : Int) (WS : List (List Int)) (k : Nat) : agL root WS (k + 1) = agL root WS k ++ [(agP WS k, agT root WS k)] := by
  unfold agL
  rw [List.range_succ, List.map_append]
  rfl
theorem agL_get {root : Int} {WS : List (List Int)} {k i : Nat} (hi : i < k) : rP (agL root WS k) i = agP WS i ∧ rT (agL root WS k) i = agT root WS i := by
  unfold rP rT agL
  rw [List.getD_eq_getElem?_getD]
  simp [hi]
theorem wl_congr {p t p' t' : Nat → Int} {v : Int} {n : Nat} (h : ∀ i, i < n → p' i = p i ∧ t' i = t i) : ∀ i, i < n → wl p' t' v i = wl p t v i := by
  intro i
  induction i using Nat.strongRecOn with
  | ind i ih =>
    intro hi
    obtain ⟨e1, e2⟩ := h i hi
    by_cases hg : gdW (p i) (t i) v i
    · have hg' : gdW (p' i) (t' i) v i := by rw [e1, e2]; exact hg
      by_cases hp : p i = -1
      · rw [wl_one hg hp, wl_one hg' (by rw [e1]; exact hp), e2]
      · have h4 := hg.2.2.2
        have h3 := hg.2.2.1
        rw [wl_up hg hp, wl_up hg' (by rw [e1]; exact hp), e1, e2, ih (p i).toNat (by omega) (by omega)]
    · rw [wl_bad hg, wl_bad (by rw [e1, e2]; exact hg)]
theorem agL_ws {p t : Nat → Int} {v root : Int} {n d k : Nat} {WS : List (List Int)} (h : WsOk p t v n d WS) (hk : k ≤ WS.length) : wsOf (agL root WS k) v = wsT WS k := by
  unfold wsOf
  rw [agL_len]
  refine straight (root := root) (Ls := wAt WS) (fun i hi => ?_) (fun i j hij hj e => ?_) (fun i j hij hj => ?_)
  · rw [wl_congr (p := agP WS) (t := agT root WS) (n := k) (fun j hj => agL_get hj) i hi]
    exact again_wl h i (by omega)
  · have := wAt_inj h.nodup (by omega) (by omega) e
    omega
  · rw [wAt_lt (by omega), wAt_lt (by omega)]
    exact List.pairwise_iff_getElem.1 h.up i j (by omega) (by omega) hij
end Go.Proofs.Ytakekdbclmgeoab
