import Derived.Test.YtmhjpfjhppcfoaaGreatDoorMD
import Derived.Test.YtmhjpfjhppcfoaaGreatDoorWgtD
import Derived.Deep.MidRow
import Derived.Deep.WholeRow
import Derived.Laws.Tables
import Derived.BigRegion
namespace Go.Proofs.YtmhjpfjhppcfoaaGreatDoor
open Go.RowKit
/-! The four functions of the table of shapes. -/
set_option maxHeartbeats 400000 in
theorem shVocab (V W H K L D N M : Int) (w : World) : Calls Tryz.prog 289 #[.agg #[.int .i64 V, .int .i64 W, .int .i64 H, .int .i64 K, .int .i64 L, .int .i64 D, .int .i64 N, .int .i64 M]] w fun e w' => e = .returned (.int .i64 V) ∧ Below w.heap.size w w' := by
  go_enter Tryz.func289, Tryz.ntmps289
  go_wp2
  go_ret
  exact ⟨rfl, fresh_alloc _ _⟩
set_option maxHeartbeats 400000 in
theorem shWidth (V W H K L D N M : Int) (w : World) : Calls Tryz.prog 290 #[.agg #[.int .i64 V, .int .i64 W, .int .i64 H, .int .i64 K, .int .i64 L, .int .i64 D, .int .i64 N, .int .i64 M]] w fun e w' => e = .returned (.int .i64 W) ∧ Below w.heap.size w w' := by
  go_enter Tryz.func290, Tryz.ntmps290
  go_wp2
  go_ret
  exact ⟨rfl, fresh_alloc _ _⟩
set_option maxHeartbeats 400000 in
theorem shHidden (V W H K L D N M : Int) (w : World) : Calls Tryz.prog 291 #[.agg #[.int .i64 V, .int .i64 W, .int .i64 H, .int .i64 K, .int .i64 L, .int .i64 D, .int .i64 N, .int .i64 M]] w fun e w' => e = .returned (.int .i64 D) ∧ Below w.heap.size w w' := by
  go_enter Tryz.func291, Tryz.ntmps291
  go_wp2
  go_ret
  exact ⟨rfl, fresh_alloc _ _⟩
set_option maxHeartbeats 1000000 in
theorem shKeys (V W H K L D N M kv : Int) (w : World) (hH : 1 ≤ H) (hH4 : H ≤ 4) (hW : 2 ≤ W) (hW2 : W ≤ 32) (hkv : K * (W / H) = kv) (kv0 : 0 ≤ kv) (kv1 : kv ≤ 128) :
    Calls Tryz.prog 292 #[.agg #[.int .i64 V, .int .i64 W, .int .i64 H, .int .i64 K, .int .i64 L, .int .i64 D, .int .i64 N, .int .i64 M]] w fun e w' => e = .returned (.int .i64 kv) ∧ Below w.heap.size w w' := by
  go_enter Tryz.func292, Tryz.ntmps292
  go_wp2
  have hf0 := fresh_alloc w (.cells #[.int .i64 V, .int .i64 W, .int .i64 H, .int .i64 K, .int .i64 L, .int .i64 D, .int .i64 N, .int .i64 M] 23)
  have d0 : (w.alloc (.cells #[.int .i64 V, .int .i64 W, .int .i64 H, .int .i64 K, .int .i64 L, .int .i64 D, .int .i64 N, .int .i64 M] 23)).cell? ⟨w.heap.size, 0, none⟩ = some (.int .i64 V) := by simp
  have d1 : (w.alloc (.cells #[.int .i64 V, .int .i64 W, .int .i64 H, .int .i64 K, .int .i64 L, .int .i64 D, .int .i64 N, .int .i64 M] 23)).cell? ⟨w.heap.size, 1, none⟩ = some (.int .i64 W) := by simp
  have d2 : (w.alloc (.cells #[.int .i64 V, .int .i64 W, .int .i64 H, .int .i64 K, .int .i64 L, .int .i64 D, .int .i64 N, .int .i64 M] 23)).cell? ⟨w.heap.size, 2, none⟩ = some (.int .i64 H) := by simp
  have d3 : (w.alloc (.cells #[.int .i64 V, .int .i64 W, .int .i64 H, .int .i64 K, .int .i64 L, .int .i64 D, .int .i64 N, .int .i64 M] 23)).cell? ⟨w.heap.size, 3, none⟩ = some (.int .i64 K) := by simp
  have d4 : (w.alloc (.cells #[.int .i64 V, .int .i64 W, .int .i64 H, .int .i64 K, .int .i64 L, .int .i64 D, .int .i64 N, .int .i64 M] 23)).cell? ⟨w.heap.size, 4, none⟩ = some (.int .i64 L) := by simp
  have d5 : (w.alloc (.cells #[.int .i64 V, .int .i64 W, .int .i64 H, .int .i64 K, .int .i64 L, .int .i64 D, .int .i64 N, .int .i64 M] 23)).cell? ⟨w.heap.size, 5, none⟩ = some (.int .i64 D) := by simp
  have d6 : (w.alloc (.cells #[.int .i64 V, .int .i64 W, .int .i64 H, .int .i64 K, .int .i64 L, .int .i64 D, .int .i64 N, .int .i64 M] 23)).cell? ⟨w.heap.size, 6, none⟩ = some (.int .i64 N) := by simp
  have d7 : (w.alloc (.cells #[.int .i64 V, .int .i64 W, .int .i64 H, .int .i64 K, .int .i64 L, .int .i64 D, .int .i64 N, .int .i64 M] 23)).cell? ⟨w.heap.size, 7, none⟩ = some (.int .i64 M) := by simp
  generalize w.alloc (.cells #[.int .i64 V, .int .i64 W, .int .i64 H, .int .i64 K, .int .i64 L, .int .i64 D, .int .i64 N, .int .i64 M] 23) = w1 at *
  replace d0 := later_cell d0; replace d1 := later_cell d1; replace d2 := later_cell d2; replace d3 := later_cell d3; replace d4 := later_cell d4; replace d5 := later_cell d5; replace d6 := later_cell d6; replace d7 := later_cell d7
  have ne := later_some w1
  refine wp_region_later (by kernel_rfl) (by kernel_rfl) ?_
  repeat (go_big_quiet_step (fail))
  go_big_quiet_step (exact later_of (headSize_any _ _ _ _ _ _ _ _ _ hH hH4 hW hW2))
  repeat (go_big_quiet_step (fail))
  refine wpQuiet_nil ?_
  rintro _ ⟨z, rfl⟩
  have hz := z.fresh
  go_wp2
  go_ret
  exact ⟨rfl, fresh_trans hf0 hz⟩
end Go.Proofs.YtmhjpfjhppcfoaaGreatDoor
namespace Go.Proofs.YtmhjpfjhppcfoaaGreatDoor
open Go.RowKit
/-! Shifts, cut. -/
def ct (x : Int) : Int := min (max x 0) 24
theorem ct_same (x : Int) : ct x = x ↔ 0 ≤ x ∧ x ≤ 24 := by unfold ct; omega
end Go.Proofs.YtmhjpfjhppcfoaaGreatDoor
namespace Go.Proofs.YtmhjpfjhppcfoaaGreatDoor
open Go.RowKit
/-! shapes, matsOf, cutShifts. -/
def fv (n : Nat) : Value := .func (.func n) #[] #[]
def tab8 : Array Value := #[.func (.func 290) #[] #[], .func (.func 290) #[] #[], .func (.func 292) #[] #[], .func (.func 290) #[] #[], .func (.func 292) #[] #[], .func (.func 290) #[] #[], .func (.func 290) #[] #[], .func (.func 290) #[] #[], .func (.func 291) #[] #[], .func (.func 290) #[] #[], .func (.func 291) #[] #[], .func (.func 290) #[] #[], .func (.func 290) #[] #[], .func (.func 291) #[] #[], .func (.func 289) #[] #[], .func (.func 290) #[] #[]]
theorem size8 : (Tryz.prog.info? 372).map (·.size) = some 16 := by kernel_rfl
set_option maxRecDepth 20000 in
set_option maxHeartbeats 1600000 in
theorem shapes_any (w : World) : Calls Tryz.prog 233 #[] w fun e w' => e = .returned (.agg tab8) ∧ Below w.heap.size w w' := by
  go_enter Tryz.func233, Tryz.ntmps233
  go_wp2_with (refine wpList_store_row rfl 372 _ _ rfl w.heap.size tab8 rfl rfl 372 _ (heap_new _ _) size8 rfl (by kernel_rfl) ?_)
  refine bodyPost_ret (v := .agg tab8) ?_ ?_ ?_
  · exact results_cell_row Tryz.results233 _ _ w.heap.size 372 _ (0, 0) _ rfl (setRow_heap _ _ _ _ _ _ (heap_new _ _)) Tryz.underlying372 rfl (by kernel_rfl)
  · rfl
  · exact ⟨rfl, below_setRow (fresh_alloc _ _) (Nat.le_refl _) _⟩
end Go.Proofs.YtmhjpfjhppcfoaaGreatDoor
namespace Go.Proofs.YtmhjpfjhppcfoaaGreatDoor
open Go.RowKit
/-! matsOf. -/
theorem fresh_setCells {w : World} (g : Nat) {B : Nat} (hB : B ≤ g) : ∀ (vs : List Value) (o : Nat) (w' : World), Below B w w' → Below B w (w'.setCells g o vs)
  | [], _, _, h => h
  | _ :: r, o, _, h => fresh_setCells g hB r (o + 1) _ (h.setCell hB _)
theorem results_cell_mid {P : Program} {fn : Func} {p : Tmp} {ty : TypeId} (h : fn.results = #[.cell p ty]) (tmps : Array Value) (w : World) (g : Nat) (cs : List Value) (d : TypeDesc)
    (hp : tmps.getD p undef = .pointer (some ⟨g, 0, none⟩)) (hc : w.rangeAt g 0 cs) (hu : P.underlying ty = some d) (hd : d.isRow = true) (hi : (P.info? ty).map (·.size) = some cs.length) :
    (results fn tmps).run P w = .ok (.agg cs.toArray) w := by
  have hp' : tmps[p]?.getD undef = .pointer (some ⟨g, 0, none⟩) := by simpa using hp
  simp [results, h, hp', asAddr, run_loadVar_mid w g 0 ty cs d hc hu hd hi]
def pm7 (b o : Nat) : Array Value := #[.pointer (some ⟨b, o + 2, none⟩), .pointer (some ⟨b, o + 5, none⟩), .pointer (some ⟨b, o + 8, none⟩), .pointer (some ⟨b, o + 11, none⟩), .pointer (some ⟨b, o + 14, none⟩), .pointer (some ⟨b, o + 17, none⟩), .pointer (some ⟨b, o + 20, none⟩)]
set_option maxRecDepth 20000 in
set_option maxHeartbeats 1600000 in
theorem matsOf_any (w : World) (b o : Nat) : Calls Tryz.prog 176 #[.pointer (some ⟨b, o, none⟩)] w fun e w' => e = .returned (.agg (pm7 b o)) ∧ Below w.heap.size w w' := by
  go_enter Tryz.func176, Tryz.ntmps176
  go_wp2
  have hf := fresh_alloc w (.cells #[.pointer none, .pointer none, .pointer none, .pointer none, .pointer none, .pointer none, .pointer none] 300)
  have hN := heap_new w (.cells #[.pointer none, .pointer none, .pointer none, .pointer none, .pointer none, .pointer none, .pointer none] 300)
  have p0 : (w.alloc (.cells #[.pointer none, .pointer none, .pointer none, .pointer none, .pointer none, .pointer none, .pointer none] 300)).cell? ⟨w.heap.size, 0, none⟩ = some (.pointer none) := cell_heap hN 0
  have q0 : (w.alloc (.cells #[.pointer none, .pointer none, .pointer none, .pointer none, .pointer none, .pointer none, .pointer none] 300)).frozen? ⟨w.heap.size, 0, none⟩ = false := by simp
  have p1 : (w.alloc (.cells #[.pointer none, .pointer none, .pointer none, .pointer none, .pointer none, .pointer none, .pointer none] 300)).cell? ⟨w.heap.size, 1, none⟩ = some (.pointer none) := cell_heap hN 1
  have q1 : (w.alloc (.cells #[.pointer none, .pointer none, .pointer none, .pointer none, .pointer none, .pointer none, .pointer none] 300)).frozen? ⟨w.heap.size, 1, none⟩ = false := by simp
  have p2 : (w.alloc (.cells #[.pointer none, .pointer none, .pointer none, .pointer none, .pointer none, .pointer none, .pointer none] 300)).cell? ⟨w.heap.size, 2, none⟩ = some (.pointer none) := cell_heap hN 2
  have q2 : (w.alloc (.cells #[.pointer none, .pointer none, .pointer none, .pointer none, .pointer none, .pointer none, .pointer none] 300)).frozen? ⟨w.heap.size, 2, none⟩ = false := by simp
  have p3 : (w.alloc (.cells #[.pointer none, .pointer none, .pointer none, .pointer none, .pointer none, .pointer none, .pointer none] 300)).cell? ⟨w.heap.size, 3, none⟩ = some (.pointer none) := cell_heap hN 3
  have q3 : (w.alloc (.cells #[.pointer none, .pointer none, .pointer none, .pointer none, .pointer none, .pointer none, .pointer none] 300)).frozen? ⟨w.heap.size, 3, none⟩ = false := by simp
  have p4 : (w.alloc (.cells #[.pointer none, .pointer none, .pointer none, .pointer none, .pointer none, .pointer none, .pointer none] 300)).cell? ⟨w.heap.size, 4, none⟩ = some (.pointer none) := cell_heap hN 4
  have q4 : (w.alloc (.cells #[.pointer none, .pointer none, .pointer none, .pointer none, .pointer none, .pointer none, .pointer none] 300)).frozen? ⟨w.heap.size, 4, none⟩ = false := by simp
  have p5 : (w.alloc (.cells #[.pointer none, .pointer none, .pointer none, .pointer none, .pointer none, .pointer none, .pointer none] 300)).cell? ⟨w.heap.size, 5, none⟩ = some (.pointer none) := cell_heap hN 5
  have q5 : (w.alloc (.cells #[.pointer none, .pointer none, .pointer none, .pointer none, .pointer none, .pointer none, .pointer none] 300)).frozen? ⟨w.heap.size, 5, none⟩ = false := by simp
  have p6 : (w.alloc (.cells #[.pointer none, .pointer none, .pointer none, .pointer none, .pointer none, .pointer none, .pointer none] 300)).cell? ⟨w.heap.size, 6, none⟩ = some (.pointer none) := cell_heap hN 6
  have q6 : (w.alloc (.cells #[.pointer none, .pointer none, .pointer none, .pointer none, .pointer none, .pointer none, .pointer none] 300)).frozen? ⟨w.heap.size, 6, none⟩ = false := by simp
  clear hN
  generalize w.alloc (.cells #[.pointer none, .pointer none, .pointer none, .pointer none, .pointer none, .pointer none, .pointer none] 300) = w1 at *
  go_region
  go_wp2
  have hz := Nat.le_refl w.heap.size
  have HT : w1.there w.heap.size 0 7 := fun j hj => by
    match j, hj with
    | 0, _ => exact ⟨(congrArg Option.isSome p0).trans rfl, q0⟩
    | 1, _ => exact ⟨(congrArg Option.isSome p1).trans rfl, q1⟩
    | 2, _ => exact ⟨(congrArg Option.isSome p2).trans rfl, q2⟩
    | 3, _ => exact ⟨(congrArg Option.isSome p3).trans rfl, q3⟩
    | 4, _ => exact ⟨(congrArg Option.isSome p4).trans rfl, q4⟩
    | 5, _ => exact ⟨(congrArg Option.isSome p5).trans rfl, q5⟩
    | 6, _ => exact ⟨(congrArg Option.isSome p6).trans rfl, q6⟩
    | j + 7, hj => omega
  refine bodyPost_ret (v := .agg (pm7 b o)) ?_ ?_ ?_
  · refine results_cell_mid Tryz.results176 _ _ w.heap.size (pm7 b o).toList _ rfl ?_ Tryz.underlying300 rfl (by kernel_rfl)
    exact (World.rangeAt_drew _ _ _ _).2 (World.rangeAt_setCells_same w1 w.heap.size 0 (pm7 b o).toList HT)
  · rfl
  · exact ⟨rfl, (fresh_setCells w.heap.size hz (pm7 b o).toList 0 w1 hf).drew⟩
end Go.Proofs.YtmhjpfjhppcfoaaGreatDoor
namespace Go.Proofs.YtmhjpfjhppcfoaaGreatDoor
open Go.RowKit
/-! cutShifts. -/
def sh7 (s : Nat → Int) : Array Value := #[.int .i64 (s 0), .int .i64 (s 1), .int .i64 (s 2), .int .i64 (s 3), .int .i64 (s 4), .int .i64 (s 5), .int .i64 (s 6)]
theorem sh7_at0 (s : Nat → Int) (w : World) : (Instr.index 203 (.agg (sh7 s)) (.int .i64 0)).run Tryz.prog w = .ok (.int .i64 (s 0)) w := by kernel_rfl
theorem sh7_at1 (s : Nat → Int) (w : World) : (Instr.index 203 (.agg (sh7 s)) (.int .i64 1)).run Tryz.prog w = .ok (.int .i64 (s 1)) w := by kernel_rfl
theorem sh7_at2 (s : Nat → Int) (w : World) : (Instr.index 203 (.agg (sh7 s)) (.int .i64 2)).run Tryz.prog w = .ok (.int .i64 (s 2)) w := by kernel_rfl
theorem sh7_at3 (s : Nat → Int) (w : World) : (Instr.index 203 (.agg (sh7 s)) (.int .i64 3)).run Tryz.prog w = .ok (.int .i64 (s 3)) w := by kernel_rfl
theorem sh7_at4 (s : Nat → Int) (w : World) : (Instr.index 203 (.agg (sh7 s)) (.int .i64 4)).run Tryz.prog w = .ok (.int .i64 (s 4)) w := by kernel_rfl
theorem sh7_at5 (s : Nat → Int) (w : World) : (Instr.index 203 (.agg (sh7 s)) (.int .i64 5)).run Tryz.prog w = .ok (.int .i64 (s 5)) w := by kernel_rfl
theorem sh7_at6 (s : Nat → Int) (w : World) : (Instr.index 203 (.agg (sh7 s)) (.int .i64 6)).run Tryz.prog w = .ok (.int .i64 (s 6)) w := by kernel_rfl
theorem sh7_at (s : Nat → Int) (k : Nat) (h : k < 7) (w : World) : (Instr.index 203 (.agg (sh7 s)) (.int .i64 (k : Int))).run Tryz.prog w = .ok (.int .i64 (s k)) w := by
  match k, h with
  | 0, _ => exact sh7_at0 s w
  | 1, _ => exact sh7_at1 s w
  | 2, _ => exact sh7_at2 s w
  | 3, _ => exact sh7_at3 s w
  | 4, _ => exact sh7_at4 s w
  | 5, _ => exact sh7_at5 s w
  | 6, _ => exact sh7_at6 s w
theorem sh7_get (s : Nat → Int) : ∀ (i : Nat), i < 7 → (sh7 s)[i]? = some (.int .i64 (s i))
  | 0, _ => rfl
  | 1, _ => rfl
  | 2, _ => rfl
  | 3, _ => rfl
  | 4, _ => rfl
  | 5, _ => rfl
  | 6, _ => rfl
theorem size7 (s : Nat → Int) : (Tryz.prog.info? 203).map (·.size) = some (sh7 s).size := by
  have : (Tryz.prog.info? 203).map (·.size) = some 7 := by kernel_rfl
  rw [this]; rfl
theorem sh7_one (s : Nat → Int) : (sh7 s).all (·.oneCell') = true := by kernel_rfl
theorem heap_old (w : World) (o1 o2 : Obj) : ((w.alloc o1).alloc o2).heap[w.heap.size]? = some o1 := by
  rw [(fresh_alloc _ o2).block w.heap.size (by simp), heap_new]
theorem sh7_range {w : World} {g : Nat} {t : TypeId} {f : Nat → Value} (s : Nat → Int) (h : w.rowIs g t 7 f) (hf : ∀ j, j < 7 → f j = .int .i64 (s j)) : w.rangeAt g 0 (sh7 s).toList := fun j v hj => by
  rw [Array.getElem?_toList] at hj
  have hl : j < 7 := (Array.getElem?_eq_some_iff.1 hj).1
  rw [sh7_get s j hl] at hj
  simp only [Option.some.injEq] at hj
  rw [Nat.zero_add, h.cell hl, hf j hl, hj]
theorem row_there {w : World} {g : Nat} {t : TypeId} {f : Nat → Value} {n : Nat} (h : w.rowIs g t n f) : w.there g 0 n := fun j hj => by
  rw [Nat.zero_add]
  exact ⟨by rw [h.cell hj]; rfl, h.frozen _⟩
set_option maxRecDepth 20000 in
set_option maxHeartbeats 1600000 in
theorem cutShifts_any (s : Nat → Int) (w : World) : Calls Tryz.prog 295 #[.agg (sh7 s)] w fun e w' => e = .returned (.agg (sh7 fun j => ct (s j))) ∧ Below w.heap.size w w' := by
  go_enter Tryz.func295, Tryz.ntmps295
  go_wp2_with (refine wpList_load_row rfl 203 _ rfl w.heap.size rfl _ _ (0, 0) _ (heap_old w _ _) Tryz.underlying203 rfl (size7 s) ?_)
  have HB := hidd (heap_old w (.cells (sh7 s) 203) (.cells #[.int .i64 0, .int .i64 0, .int .i64 0, .int .i64 0, .int .i64 0, .int .i64 0, .int .i64 0] 203))
  have hf := fresh_trans (fresh_alloc w (.cells (sh7 s) 203)) (fresh_alloc _ (.cells #[.int .i64 0, .int .i64 0, .int .i64 0, .int .i64 0, .int .i64 0, .int .i64 0, .int .i64 0] 203))
  have r0 : ((w.alloc (.cells (sh7 s) 203)).alloc (.cells #[.int .i64 0, .int .i64 0, .int .i64 0, .int .i64 0, .int .i64 0, .int .i64 0, .int .i64 0] 203)).rowIs w.heap.size 203 7 (fun j => .int .i64 (if j < 0 then ct (s j) else s j)) := by
    refine (World.rowIs_alloc w (sh7 s) 203 (fun j => .int .i64 (s j)) (fun i hi => sh7_get s i hi)).alloc _ |>.congr (fun i _ => ?_)
    rw [if_neg (by omega)]
  have r1 : ((w.alloc (.cells (sh7 s) 203)).alloc (.cells #[.int .i64 0, .int .i64 0, .int .i64 0, .int .i64 0, .int .i64 0, .int .i64 0, .int .i64 0] 203)).rowIs (w.heap.size + 1) 203 7 (fun _ => .int .i64 0) := by
    have := World.rowIs_alloc (w.alloc (.cells (sh7 s) 203)) #[.int .i64 0, .int .i64 0, .int .i64 0, .int .i64 0, .int .i64 0, .int .i64 0, .int .i64 0] 203 (fun _ => .int .i64 0) (fun i hi => by
      match i, hi with
      | 0, _ => rfl
      | 1, _ => rfl
      | 2, _ => rfl
      | 3, _ => rfl
      | 4, _ => rfl
      | 5, _ => rfl
      | 6, _ => rfl)
    simpa using this
  have AT := hidd (sh7_at s)
  have R0 := hidd r0
  have R1 := hidd r1
  have HF := hidd hf
  clear r0 r1 hf HB
  generalize (w.alloc (.cells (sh7 s) 203)).alloc (.cells #[.int .i64 0, .int .i64 0, .int .i64 0, .int .i64 0, .int .i64 0, .int .i64 0, .int .i64 0] 203) = w1 at *
  generalize sh7 s = tb at *
  go_loopw [6] (fun i wr => ∃ k : Nat, k ≤ 7 ∧ i = .int .i64 k ∧ Hid (wr.rowIs w.heap.size 203 7 (fun j => .int .i64 (if j < k then ct (s j) else s j))) ∧ Hid (wr.rowIs (w.heap.size + 1) 203 7 (fun _ => .int .i64 0)) ∧ Hid (Below w.heap.size w wr)) (fun i _ => 7 - (intOf i).toNat)
  case atStart => exact ⟨0, by omega, rfl, R0, R1, HF⟩
  case round =>
    clear R0 R1 HF
    obtain ⟨k, hk, rfl, HR, HS, HB⟩ := hrel
    by_cases hlt : k < 7
    · have hi := AT.out k hlt
      have hc := HR.out.cell hlt
      have hz := HR.out.frozen k
      have i1 : (0 : Int) ≤ (k : Int) := Int.natCast_nonneg _
      have i2 : (k : Int) < 7 := by omega
      have key : ∀ v, v = ct (s k) → ∀ w9, w9 = wr.setCell ⟨w.heap.size, k, none⟩ (.int .i64 v) → Hid (w9.rowIs w.heap.size 203 7 (fun j => .int .i64 (if j < k + 1 then ct (s j) else s j))) ∧ Hid (w9.rowIs (w.heap.size + 1) 203 7 (fun _ => .int .i64 0)) ∧ Hid (Below w.heap.size w w9) := by
        rintro v rfl w9 rfl
        refine ⟨(HR.out.set k _).congr (fun j _ => ?_), HS.out.setOther (by simp) _, HB.out.setCell (Nat.le_refl _) _⟩
        by_cases e : j = k
        · subst e; simp
        · rw [if_neg e]
          by_cases e2 : j < k
          · rw [if_pos e2, if_pos (by omega)]
          · rw [if_neg e2, if_neg (by omega)]
      have KEY := hidd key
      clear key
      rw [if_neg (Nat.lt_irrefl k)] at hc
      have hct : ct (s k) = min (max (s k) 0) 24 := rfl
      generalize s k = x at *
      by_cases c1 : x < 0
      · go_wp2
        go_roundw
        case rel => exact ⟨k + 1, by omega, by go_num, KEY.out 0 (by rw [hct]; omega) _ rfl⟩
        case measure => simp [intOf]; omega
      · by_cases c2 : 24 < x
        · have e0 : ¬ (x ≤ 24) := by omega
          go_wp2
          go_roundw
          case rel => exact ⟨k + 1, by omega, by go_num, KEY.out 24 (by rw [hct]; omega) _ rfl⟩
          case measure => simp [intOf]; omega
        · have e0 : 0 ≤ x := by omega
          have e1 : x ≤ 24 := by omega
          go_wp2
          go_roundw
          case rel => exact ⟨k + 1, by omega, by go_num, KEY.out x (by rw [hct]; omega) _ rfl⟩
          case measure => simp [intOf]; omega
    · have e7 : k = 7 := by omega
      subst e7
      have RG' := sh7_range (fun j => ct (s j)) HR.out (fun j hj => by rw [if_pos hj])
      have HT' : wr.there (w.heap.size + 1) 0 (sh7 fun j => ct (s j)).size := row_there HS.out
      have H1' := sh7_one (fun j => ct (s j))
      have S7' := size7 (fun j => ct (s j))
      obtain ⟨tc, htc⟩ : ∃ tc, tc = sh7 (fun j => ct (s j)) := ⟨_, rfl⟩
      rw [← htc] at RG' HT' H1' S7'
      have SL' : (Tryz.prog.info? 203).map (·.size) = some tc.toList.length := by rw [S7', Array.length_toList]
      have TL' : wr.there (w.heap.size + 1) 0 tc.toList.length := by rw [Array.length_toList]; exact HT'
      have RG := hidd RG'
      have HT := hidd HT'
      have H1 := hidd H1'
      have S7 := hidd S7'
      have SL := hidd SL'
      have TL := hidd TL'
      have HTC := hidd htc
      clear RG' HT' H1' S7' SL' TL' htc
      go_wp2_with (refine wpList_load_mid rfl 203 _ rfl w.heap.size 0 rfl tc.toList _ RG.out Tryz.underlying203 rfl SL.out (wpList_store_mid rfl 203 _ _ rfl (w.heap.size + 1) 0 tc rfl rfl HT.out S7.out H1.out ?_))
      refine bodyPost_ret (v := .agg tc) ?_ ?_ ?_
      · exact results_cell_mid Tryz.results295 _ _ (w.heap.size + 1) tc.toList _ rfl (World.rangeAt_setCells_same wr (w.heap.size + 1) 0 tc.toList TL.out) Tryz.underlying203 rfl SL.out
      · rfl
      · exact ⟨by rw [HTC.out], fresh_setCells (w.heap.size + 1) (by omega) _ 0 wr HB.out⟩
end Go.Proofs.YtmhjpfjhppcfoaaGreatDoor
