import Derived.Test.YtemmghneohnigaaDoorWuC
import Derived.Deep.RegionHeld3
namespace Go.Proofs.YtemmghneohnigaaDoor
open Go.RowKit
/-! byteOf. -/
/-- a new row of four bytes, of which none is used yet -/
def made4 : Array Value := madeCells #[.int .u8 0] 4
theorem run_make4 (w : World) : (Instr.makeSlice 22 (.int .i64 0) (.int .i64 4)).run Tryd.prog w = .ok (.slice (some ⟨w.heap.size, 0, none⟩) 0 4) (w.alloc (.cells made4 5)) := by
  obtain ⟨i, hi, z0, z1, z2⟩ := info_parts infoB
  have hr := run_make (P := Tryd.prog) w 22 5 i _ Tryd.underlying22 hi z0 .i64 .i64 0 4 (by omega) (by omega) (by rw [z2]; omega) (by omega)
  rw [z1] at hr
  exact hr
theorem own_made4 (w : World) (l : List Int) : Own (w.alloc (.cells made4 5)) w.heap.size 5 1 (.slice (some ⟨w.heap.size, 0, none⟩) 0 4) 0 (byc l) := by
  unfold Own
  exact ⟨by simp, .inr ⟨w.heap.size, 4, made4, rfl, Nat.le_refl _, (by show (w.heap.push _)[w.heap.size]? = _; simp), by omega, by unfold maxLen; omega, by unfold made4; rw [size_madeCells], by simp⟩⟩
theorem app_made4 {w : World} {c : Int} (h0 : 0 ≤ c) (h1 : c ≤ 255) :
    Calls Tryd.prog 23 #[.slice (some ⟨w.heap.size, 0, none⟩) 0 4, .int .u8 c] (w.alloc (.cells made4 5)).drew fun e w' => ∃ ao cap, e = .returned (.slice ao (pie c).length cap) ∧ (convert 22 9 (.slice ao (pie c).length cap)).run Tryd.prog w' = .ok (.string (strOfNums (pie c))) w' ∧ Below w.heap.size w w' := by
  refine (apppiece_any ((own_made4 w (pie c)).kept (Below.refl _ _).drew) h0 h1 (fun j hj => by rw [Nat.zero_add]; rfl) (Nat.le_trans (Nat.le_succ _) (by simp)) (by omega)).mono ?_
  rintro e w' ⟨v', rfl, ho, hf⟩
  rw [Nat.zero_add] at ho
  obtain ⟨ao, cap, rfl, hr⟩ := ho.rd
  exact ⟨ao, cap, rfl, conv_str hr, ((fresh_alloc w _).drew).trans hf⟩
set_option maxRecDepth 20000 in
set_option maxHeartbeats 1000000 in
theorem byteOf_one {X : Nat} (hX : X ≤ 255) (w : World) :
    Calls Tryd.prog 26 #[.string (strOfNums [(X : Int)])] w fun e w' => e = .returned (.tuple #[.int .u8 (X : Int), .bool (decide (pie X = [(X : Int)]))]) ∧ Below w.heap.size w w' := by
  have hB : Byt [(X : Int)] := byt_cons (by omega) byt_nil
  have hsz : (strOfNums [(X : Int)]).size = 1 := by rw [strOfNums_size]; rfl
  have hat : ∀ h, ((strOfNums [(X : Int)])[0]'h).toNat = X := fun h => by rw [str_at hB (by simp) h]; simp
  have hnp : ¬ [92, 120] <+: [(X : Int)] := fun h => by have := h.length_le; simp at this
  have HC := hidd (fun w => cutp_any hB b92x w)
  simp only [hnp, decide_false, if_false, s92x] at HC
  have he := str_eq (a := pie X) (b := [(X : Int)]) (fun x hx => by have := pie_byt (c := X) (by omega) x hx; omega) hB
  have hmk := run_make4
  have HA := hidd (fun (wq : World) => app_made4 (w := wq) (c := X) (by omega) (by omega))
  obtain ⟨q, eq⟩ : ∃ q, q = decide (pie X = [(X : Int)]) := ⟨_, rfl⟩
  rw [← eq] at he ⊢
  clear eq hnp
  generalize strOfNums [(X : Int)] = s at *
  generalize strOfNums (pie X) = sp at *
  go_enter Tryd.func26, Tryd.ntmps26
  go_wp2_with (go_at_call 24; with_reducible refine (HC.out _).mono ?_; rintro e w' ⟨rfl, rfl⟩)
  go_region_with (first | (go_at_call 23; with_reducible refine (HA.out _).mono ?_; rintro e w9 ⟨ao9, cap9, rfl, hcv9, hf9⟩) | fail)
  go_wp2
  go_ret2
  exact ⟨rfl, hf9⟩
set_option maxRecDepth 20000 in
set_option maxHeartbeats 1000000 in
theorem byteOf_two {X : Nat} (hX : X ≤ 255) (h120 : X ≠ 120) (w : World) :
    Calls Tryd.prog 26 #[.string (strOfNums [92, (X : Int)])] w fun e w' => e = .returned (.tuple #[.int .u8 (X : Int), .bool (decide (pie X = [92, (X : Int)]))]) ∧ Below w.heap.size w w' := by
  have hB : Byt [92, (X : Int)] := byt_cons (by omega) (byt_cons (by omega) byt_nil)
  have hsz : (strOfNums [92, (X : Int)]).size = 2 := by rw [strOfNums_size]; rfl
  have hat : ∀ h, ((strOfNums [92, (X : Int)])[1]'h).toNat = X := fun h => by rw [str_at hB (by simp) h]; simp
  have hnp : ¬ [92, 120] <+: [92, (X : Int)] := fun h => by
    simp [List.cons_prefix_cons] at h
    omega
  have HC := hidd (fun w => cutp_any hB b92x w)
  simp only [hnp, decide_false, if_false, s92x] at HC
  have he := str_eq (a := pie X) (b := [92, (X : Int)]) (fun x hx => by have := pie_byt (c := X) (by omega) x hx; omega) hB
  have hmk := run_make4
  have HA := hidd (fun (wq : World) => app_made4 (w := wq) (c := X) (by omega) (by omega))
  obtain ⟨q, eq⟩ : ∃ q, q = decide (pie X = [92, (X : Int)]) := ⟨_, rfl⟩
  rw [← eq] at he ⊢
  clear eq hnp
  generalize strOfNums [92, (X : Int)] = s at *
  generalize strOfNums (pie X) = sp at *
  go_enter Tryd.func26, Tryd.ntmps26
  go_wp2_with (go_at_call 24; with_reducible refine (HC.out _).mono ?_; rintro e w' ⟨rfl, rfl⟩)
  go_region_with (first | (go_at_call 23; with_reducible refine (HA.out _).mono ?_; rintro e w9 ⟨ao9, cap9, rfl, hcv9, hf9⟩) | fail)
  go_wp2
  go_ret2
  exact ⟨rfl, hf9⟩
theorem hexP (x y : Int) : [92, 120] <+: [92, 120, x, y] := ⟨[x, y], rfl⟩
set_option maxRecDepth 20000 in
set_option maxHeartbeats 1000000 in
theorem byteOf_hex {x y v : Int} (hx : 0 ≤ x ∧ x ≤ 255) (hy : 0 ≤ y ∧ y ≤ 255) (hp : p16 x y = some v) (hv : 0 ≤ v ∧ v ≤ 255) (w : World) :
    Calls Tryd.prog 26 #[.string (strOfNums [92, 120, x, y])] w fun e w' => e = .returned (.tuple #[.int .u8 v, .bool (decide (pie v = [92, 120, x, y]))]) ∧ Below w.heap.size w w' := by
  have hB : Byt [92, 120, x, y] := byt_cons (by omega) (byt_cons (by omega) (byt_cons hx (byt_cons hy byt_nil)))
  have hsz : (strOfNums [92, 120, x, y]).size = 4 := by rw [strOfNums_size]; rfl
  have HC := hidd (fun w => cutp_any hB b92x w)
  simp only [hexP x y, decide_true, if_true, s92x] at HC
  rw [show List.drop [(92 : Int), 120].length [92, 120, x, y] = [x, y] from rfl] at HC
  have he := str_eq (a := pie v) (b := [92, 120, x, y]) (fun x hx => by have := pie_byt (c := v) hv x hx; omega) hB
  have hmk := run_make4
  have HA := hidd (fun (wq : World) => app_made4 (w := wq) (c := v) hv.1 hv.2)
  have HPU := hidd (fun w => parse16_ok hx hy hp w)
  have h3 : v % 256 = v := by omega
  obtain ⟨v1, v2⟩ := hv
  obtain ⟨q, eq⟩ : ∃ q, q = decide (pie v = [92, 120, x, y]) := ⟨_, rfl⟩
  rw [← eq] at he ⊢
  clear eq
  generalize strOfNums [92, 120, x, y] = s at *
  generalize strOfNums [x, y] = s2 at *
  generalize strOfNums (pie v) = sp at *
  go_enter Tryd.func26, Tryd.ntmps26
  go_wp2_with (first | (go_at_call 24; with_reducible refine (HC.out _).mono ?_; rintro e w' ⟨rfl, hw'⟩; subst hw') | (go_at_call 45; with_reducible refine (HPU.out _).mono ?_; rintro e w5 ⟨rfl, hf5⟩))
  go_region_with (first | (go_at_call 23; with_reducible refine (HA.out _).mono ?_; rintro e w9 ⟨ao9, cap9, rfl, hcv9, hf9⟩) | fail)
  go_wp2
  go_ret2
  exact ⟨rfl, fresh_trans hf5 hf9⟩
set_option maxRecDepth 20000 in
set_option maxHeartbeats 1000000 in
theorem byteOf_no {x y : Int} (hx : 0 ≤ x ∧ x ≤ 255) (hy : 0 ≤ y ∧ y ≤ 255) (hp : p16 x y = none) {w : World} (hE : Errs w) :
    Calls Tryd.prog 26 #[.string (strOfNums [92, 120, x, y])] w fun e w' => e = .returned (.tuple #[.int .u8 0, .bool false]) ∧ Below w.heap.size w w' := by
  have hB : Byt [92, 120, x, y] := byt_cons (by omega) (byt_cons (by omega) (byt_cons hx (byt_cons hy byt_nil)))
  have hsz : (strOfNums [92, 120, x, y]).size = 4 := by rw [strOfNums_size]; rfl
  have HC := hidd (cutp_any hB b92x w)
  simp only [hexP x y, decide_true, if_true, s92x] at HC
  rw [show List.drop [(92 : Int), 120].length [92, 120, x, y] = [x, y] from rfl] at HC
  have HPU := hidd (parse16_bad hx hy hp hE)
  clear hE
  generalize strOfNums [92, 120, x, y] = s at *
  generalize strOfNums [x, y] = s2 at *
  go_enter Tryd.func26, Tryd.ntmps26
  go_wp2_with (first | (go_at_call 24; with_reducible refine (HC.out).mono ?_; rintro e w' ⟨rfl, hw'⟩; subst hw') | (go_at_call 45; with_reducible refine (HPU.out).mono ?_; rintro e w5 ⟨tp, pp, rfl, hf5⟩))
  go_ret2
  exact ⟨rfl, hf5⟩
end Go.Proofs.YtemmghneohnigaaDoor
