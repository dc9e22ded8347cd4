import Derived.Test.YtjjnfpeeipainaaMK
import Derived.Deep.DeepCutAuto
namespace Go.Proofs.Ytjjnfpeeipainaa
open Go.RowKit
/-! The law MedusaBegins: lists. -/
theorem range_split {a b : Nat} (h : a ≤ b) (X : Nat → List Int) : (List.range b).map X = (List.range a).map X ++ (List.range (b - a)).map (fun i => X (a + i)) := by
  obtain ⟨c, rfl⟩ : ∃ c, b = a + c := ⟨b - a, by omega⟩
  rw [List.range_add, List.map_append, List.map_map, Nat.add_sub_cancel_left]
  rfl
theorem grL_pre (X : Nat → List Int) {a b : Nat} (h : a ≤ b) : grL X a <+: grL X b := by
  unfold grL
  rw [range_split h X]
  exact gr_app _ _ _ _ _ (by simp)
theorem grL_congr {X Y : Nat → List Int} {a : Nat} (h : ∀ i, i < a → X i = Y i) : grL X a = grL Y a := by
  unfold grL
  rw [List.map_congr_left (fun i hi => h i (List.mem_range.1 hi))]
theorem grL_stop {X : Nat → List Int} {a b : Nat} (h : a < b) (h0 : X a = []) : grL X b = grL X a := by
  unfold grL
  obtain ⟨c, hc⟩ : ∃ c, b - a = c + 1 := ⟨b - a - 1, by omega⟩
  rw [range_split (Nat.le_of_lt h) X, hc, List.range_succ_eq_map, List.map_cons, Nat.add_zero, h0]
  exact gr_stop _ _ _ _ _ (by simp) rfl
theorem prL_pre (x : WtD) (f : Nat → Int) (R C : Nat) (ws : Nat → Int) {a b : Nat} (h : a ≤ b) : prL sg x f R C ws a <+: prL sg x f R C ws b := grL_pre _ (by omega)
/-- the first k widths, a 0, and all of them -/
def cuF (ws : Nat → Int) (k : Nat) (i : Nat) : Int := if i < k then ws i else if i = k then 0 else ws (i - (k + 1))
theorem cuF_lt {ws : Nat → Int} {k i : Nat} (h : i < k) : cuF ws k i = ws i := if_pos h
theorem cuF_at (ws : Nat → Int) (k : Nat) : cuF ws k k = 0 := by unfold cuF; rw [if_neg (by omega), if_pos rfl]
theorem cuF_gt (ws : Nat → Int) (k j : Nat) : cuF ws k (k + 1 + j) = ws j := by
  unfold cuF
  rw [if_neg (by omega), if_neg (by omega)]
  congr 1
  omega
theorem cuF_pos {ws : Nat → Int} (h : ∀ i, 0 ≤ ws i) (k i : Nat) : 0 ≤ cuF ws k i := by
  unfold cuF
  split
  · exact h _
  · split
    · omega
    · exact h _
theorem tpL_zero (f : Nat → Int) (R : Nat) : tpL sg f R 0 = [] := by
  unfold tpL
  rw [show min (0 : Int).toNat R = 0 by omega]
  rfl
theorem prL_cut (x : WtD) (f : Nat → Int) (R C : Nat) (ws : Nat → Int) (k n : Nat) : prL sg x f R C (cuF ws k) (k + 1 + n) = prL sg x f R C ws k := by
  unfold prL
  by_cases h : x.mn ≤ k
  · rw [show min x.mn (k + 1 + n) = x.mn by omega, show min x.mn k = x.mn by omega]
    exact grL_congr (fun i hi => by rw [cuF_lt (by omega)])
  · rw [show min x.mn k = k by omega, grL_stop (a := k) (by omega) (by rw [cuF_at]; exact tpL_zero _ _)]
    exact grL_congr (fun i hi => by rw [cuF_lt (by omega)])
theorem prL_min (x : WtD) (f : Nat → Int) (R C : Nat) (ws : Nat → Int) (n : Nat) : prL sg x f R C ws (min n x.mn) = prL sg x f R C ws n := by
  unfold prL
  congr 1
  omega
set_option maxRecDepth 20000 in
set_option maxHeartbeats 4000000 in
theorem copyI_any {w : World} {ao : Option Addr} {n cap : Nat} {f : Nat → Int} (hn : n * 8 ≤ 140737488355328) (h : RdA w ao 1 n cap (fun i => .int .i64 (f i))) :
    Calls Try.prog 19 #[.slice ao n cap] w fun e w' => ∃ u c, e = .returned (.slice u n c) ∧ Own w' w.heap.size 3 1 (.slice u n c) n (fun i => .int .i64 (f i)) ∧ Below w.heap.size w w' := by
  have HH := hidd h
  have hnc := h.le
  have hnt := h.top
  unfold maxLen at hnt
  clear h
  go_enter Try.func19, Try.ntmps19
  go_wp2
  go_loopw [3, 4] (fun v i wr => ∃ k : Nat, k ≤ n ∧ i = .int .i64 (k : Int) ∧ Own wr w.heap.size 3 1 v k (fun i => .int .i64 (f i)) ∧ Hid (Below w.heap.size w wr)) (fun _ i _ => n - (intOf i).toNat)
  case atStart => exact ⟨0, Nat.zero_le _, by simp, own_nil _ _ _ _ _, Below.refl _ _⟩
  case round =>
    obtain ⟨k, hk, rfl, hown, HF⟩ := hrel
    obtain ⟨p, uc, rfl, _⟩ := hown.rd
    have hsz := HF.out.size
    by_cases hlt : k < n
    · have i0 : (0 : Int) ≤ (k : Int) := by omega
      have i1 : (k : Int) < (n : Int) := by omega
      obtain ⟨b, off, rfl, hcell⟩ := (HH.out.fresh HF.out).one (by omega)
      have ck : wr.cell? ⟨b, off + k, none⟩ = some (.int .i64 (f k)) := hcell k hlt
      have HN : Hid (∀ (w0 : World) (t : TypeId), (w0.alloc (.cells #[.int .i64 (f k)] t)).cell? ⟨w0.heap.size, 0, none⟩ = some (.int .i64 (f k))) := fun w0 t => new_cell _ _ _
      have HO := hidd (hown.kept (fresh_alloc wr (.cells #[.int .i64 (f k)] 3)))
      have HFA := hidd (HF.out.alloc hsz (.cells #[.int .i64 (f k)] 3))
      clear hcell hown
      go_wp2_with (at_builtin; refine wpList_app1 _ rfl _ _ 37 rfl w.heap.size 3 (.int .i64 0) 8 Try.underlying37 infoIn rfl _ k (fun i => .int .i64 (f i)) rfl HO.out wr.heap.size 1 rfl (HN.out _ _) rfl (by omega) (by omega) HFA.out.size ?_)
      rintro v' w2 hown' happ
      have HB := hidd (happ.below HFA.out HO.out (Nat.le_refl _) HFA.out.size)
      clear happ HO HFA HN
      go_wp2
      go_roundw
      case rel => exact ⟨k + 1, by omega, by go_num, hown', HB⟩
      case measure => simp [intOf]; omega
    · obtain rfl : k = n := by omega
      have hnl : ¬ ((k : Int) < (k : Int)) := by omega
      go_wp2
      go_ret
      exact ⟨p, uc, rfl, hown, HF.out⟩
end Go.Proofs.Ytjjnfpeeipainaa
