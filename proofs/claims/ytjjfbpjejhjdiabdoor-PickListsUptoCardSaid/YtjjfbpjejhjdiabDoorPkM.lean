import Derived.Test.YtjjfbpjejhjdiabDoorPkL
namespace Go.Proofs.YtjjfbpjejhjdiabDoor
open Go.RowKit
/-! works; EqChances; may. -/
theorem sg_three {g : Nat → Int} (h0 : g 0 = 3) (h1 : g 1 = 9) (h2 : g 2 = 4) : sg g 3 0 = 1 := by
  obtain ⟨k, hk, e⟩ := sg_surj (f := g) (n := 3) (m := 1) (by omega)
  by_cases q : k = 0
  · rw [← q]; exact e
  · have h3 := sg_ahead (f := g) (n := 3) (i := 0) (j := k) (by omega) hk
    have h4 := sg_lt (f := g) (n := 3) (k := 0) (by omega)
    rw [e, h1] at h3
    generalize sg g 3 0 = x at *
    have : x = 0 ∨ x = 1 ∨ x = 2 := by omega
    rcases this with rfl | rfl | rfl
    · rw [h0] at h3; omega
    · rfl
    · rw [h2] at h3; omega
def prm0 : Prm := ⟨0, 0, 1000, 256, 0⟩
theorem prm0_ok : prm0.Ok := ⟨by decide, by decide, by decide, by decide, by decide, by decide, by decide, by decide⟩
def f394 : Nat → Int := fun i => if i = 0 then 3 else if i = 1 then 9 else 4
theorem cw_small {x : Int} (h0 : -16777216 ≤ x) (h1 : x ≤ 16777216) : cw x = x := by unfold cw Fix.cl; omega
theorem ch394 (s : Nat → Int) (b : Nat → Bool) : chOf prm0 3 0 0 f394 s b = [(1, 65536)] := by
  unfold chOf chL
  rw [if_pos (show prm0.temp = 0 from rfl)]
  have hg : ∀ i, scF prm0.pen f394 (seenB s 0) i = f394 i := fun i => by
    show scF 256 f394 (seenB s 0) i = f394 i
    rw [scF_256]
    refine cw_small ?_ ?_ <;> unfold f394 <;> (repeat' split) <;> omega
  have hc : canL (scF prm0.pen f394 (seenB s 0)) 3 (mayB 0 b) = ordL (scF prm0.pen f394 (seenB s 0)) 3 := by
    unfold canL
    rw [List.filter_eq_self]
    intro x _
    rfl
  rw [hc]
  have hs := sg_three (g := scF prm0.pen f394 (seenB s 0)) (by rw [hg]; rfl) (by rw [hg]; rfl) (by rw [hg]; rfl)
  have h1 := (ordL_get (f := scF prm0.pen f394 (seenB s 0)) (n := 3) (k := 0) (by omega)).1
  rw [hs] at h1
  have hl := ordL_len (scF prm0.pen f394 (seenB s 0)) 3
  generalize ordL (scF prm0.pen f394 (seenB s 0)) 3 = Y at *
  cases Y with
  | nil => simp at hl
  | cons y r =>
    simp only [List.getElem?_cons_zero, Option.some.injEq] at h1
    rw [h1]
    rfl
theorem choi394 (pos : Int) : choi prm0 pos [(1, 65536)] = 1 := by
  unfold choi
  have e : (pre [((1 : Int), (65536 : Int))] [((1 : Int), (65536 : Int))].length) = 65536 := rfl
  rw [e]
  have h := drw_lt prm0 pos (S := 65536) (by decide)
  show pkL [((1 : Int), (65536 : Int))] ((drw prm0 pos 65536 : Nat) : Int) = 1
  unfold pkL
  rw [if_pos (by show ((drw prm0 pos 65536 : Nat) : Int) < 65536; omega)]
set_option maxRecDepth 20000 in
set_option maxHeartbeats 1600000 in
theorem works_any {w : World} (hF : Holds w) (hD : Dw.Holds w) : Calls Tryd.prog 7 #[] w fun e w' => e = .returned (.bool true) ∧ Below w.heap.size w w' := by
  have f1 := fresh_alloc w (.cells #[.int .i64 3, .int .i64 9, .int .i64 4] 2)
  have hI : In3 (w.alloc (.cells #[.int .i64 3, .int .i64 9, .int .i64 4] 2)) (some ⟨w.heap.size, 0, none⟩) none none 3 3 0 0 0 0 f394 (fun _ => 0) (fun _ => true) := by
    refine ⟨⟨Nat.le_refl _, by unfold maxLen; omega, fun _ => ⟨w.heap.size, 0, rfl, fun j hj => ?_⟩⟩, ⟨Nat.le_refl _, Nat.zero_le _, fun h => absurd h (by omega)⟩, ⟨Nat.le_refl _, Nat.zero_le _, fun h => absurd h (by omega)⟩, fun i _ => ?_, by omega, by omega, hF.fresh f1⟩
    · have : j = 0 ∨ j = 1 ∨ j = 2 := by omega
      rcases this with rfl | rfl | rfl <;> simp [f394]
    · unfold f394; (repeat' split) <;> omega
  have hc := choose_ok prm0 prm0_ok hI (hD.fresh f1) 0
  rw [ch394, choi394] at hc
  have HC : Hid (Calls Tryd.prog 9 #[.agg #[.int .i64 0, .int .i64 0, .int .i64 1000, .int .i64 256, .int .u64 0], .slice (some ⟨w.heap.size, 0, none⟩) 3 3, .slice none 0 0, .int .i64 0, .slice none 0 0] (w.alloc (.cells #[.int .i64 3, .int .i64 9, .int .i64 4] 2)) fun e w' => e = .returned (.tuple #[.int .i64 1, .int .i64 0]) ∧ Below (w.alloc (.cells #[.int .i64 3, .int .i64 9, .int .i64 4] 2)).heap.size (w.alloc (.cells #[.int .i64 3, .int .i64 9, .int .i64 4] 2)) w') := hc
  clear hc hI hF hD
  go_enter Tryd.func7, Tryd.ntmps7
  go_wp2_with fail
  refine HC.out.mono ?_
  rintro e w1 ⟨rfl, f2⟩
  go_wp2
  go_ret
  exact ⟨rfl, fresh_trans f1 f2⟩
set_option maxRecDepth 20000 in
set_option maxHeartbeats 1600000 in
theorem eqc_any {w : World} {b1 b2 : Nat} {u v : Option Addr} {c d : Nat} {L : List (Int × Int)} (h : PL w b1 u c L) (k : PL w b2 v d L) :
    Calls Tryd.prog 13 #[.slice u L.length c, .slice v L.length d] w fun e w' => e = .returned (.bool true) ∧ Below w.heap.size w w' := by
  have hl1 := Own.les h
  have hl2 := Own.les k
  have H1 := hidd h
  have H2 := hidd k
  clear h k
  go_enter Tryd.func13, Tryd.ntmps13
  go_wp2
  go_loopw [5] (fun i wr => ∃ j : Nat, j ≤ L.length ∧ i = .int .i64 (j : Int) ∧ Below w.heap.size w wr) (fun i _ => L.length - (intOf i).toNat)
  case atStart => exact ⟨0, Nat.zero_le _, by simp, Below.refl _ _⟩
  case round =>
    obtain ⟨j, hj, rfl, hf⟩ := hrel
    by_cases hlt : j < L.length
    · obtain ⟨g, rfl, _, _, g3, _⟩ := PL.cells (H1.out.kept hf) (by omega)
      obtain ⟨g', rfl, _, _, k3, _⟩ := PL.cells (H2.out.kept hf) (by omega)
      obtain ⟨d0, d1⟩ := g3 j hlt
      obtain ⟨e0, e1⟩ := k3 j (by omega)
      have i0 : (0 : Int) ≤ (j : Int) := by omega
      have i1 : (j : Int) < (L.length : Int) := by omega
      clear g3 k3
      generalize (L.getD j (0, 0)).1 = tk at *
      generalize (L.getD j (0, 0)).2 = wk at *
      go_wp2
      go_quiet (fail)
      go_wp2
      go_roundw
      case rel => exact ⟨j + 1, by omega, by go_num, below_drewN hf _⟩
      case measure => simp [intOf]; omega
    · obtain rfl : j = L.length := by omega
      go_wp2
      go_ret
      exact ⟨rfl, hf⟩
theorem pl_nil (w : World) (b : Nat) : PL w b none 0 [] := own_nil _ _ _ _ _
end Go.Proofs.YtjjfbpjejhjdiabDoor
