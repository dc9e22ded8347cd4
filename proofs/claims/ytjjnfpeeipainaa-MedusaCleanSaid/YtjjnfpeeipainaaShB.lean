import Derived.BigRegion
import Derived.Test.YtjjnfpeeipainaaShA
namespace Go.Proofs.Ytjjnfpeeipainaa
open Go.RowKit
/-! matsOf. -/
theorem fresh_setCells {w : World} (g : Nat) {B : Nat} (hB : B ≤ g) : ∀ (vs : List Value) (o : Nat) (w' : World), Below B w w' → Below B w (w'.setCells g o vs)
  | [], _, _, h => h
  | _ :: r, o, _, h => fresh_setCells g hB r (o + 1) _ (h.setCell hB _)
theorem results_cell_mid {P : Program} {fn : Func} {p : Tmp} {ty : TypeId} (h : fn.results = #[.cell p ty]) (tmps : Array Value) (w : World) (g : Nat) (cs : List Value) (d : TypeDesc)
    (hp : tmps.getD p undef = .pointer (some ⟨g, 0, none⟩)) (hc : w.rangeAt g 0 cs) (hu : P.underlying ty = some d) (hd : d.isRow = true) (hi : (P.info? ty).map (·.size) = some cs.length) :
    (results fn tmps).run P w = .ok (.agg cs.toArray) w := by
  have hp' : tmps[p]?.getD undef = .pointer (some ⟨g, 0, none⟩) := by simpa using hp
  simp [results, h, hp', asAddr, run_loadVar_mid w g 0 ty cs d hc hu hd hi]
def pm7 (b o : Nat) : Array Value := #[.pointer (some ⟨b, o + 2, none⟩), .pointer (some ⟨b, o + 5, none⟩), .pointer (some ⟨b, o + 8, none⟩), .pointer (some ⟨b, o + 11, none⟩), .pointer (some ⟨b, o + 14, none⟩), .pointer (some ⟨b, o + 17, none⟩), .pointer (some ⟨b, o + 20, none⟩)]
set_option maxRecDepth 20000 in
set_option maxHeartbeats 1600000 in
theorem matsOf_any (w : World) (b o : Nat) : Calls Try.prog 73 #[.pointer (some ⟨b, o, none⟩)] w fun e w' => e = .returned (.agg (pm7 b o)) ∧ Below w.heap.size w w' := by
  go_enter Try.func73, Try.ntmps73
  go_wp2
  have hf := fresh_alloc w (.cells #[.pointer none, .pointer none, .pointer none, .pointer none, .pointer none, .pointer none, .pointer none] 129)
  have hN := heap_new w (.cells #[.pointer none, .pointer none, .pointer none, .pointer none, .pointer none, .pointer none, .pointer none] 129)
  have p0 : (w.alloc (.cells #[.pointer none, .pointer none, .pointer none, .pointer none, .pointer none, .pointer none, .pointer none] 129)).cell? ⟨w.heap.size, 0, none⟩ = some (.pointer none) := cell_heap hN 0
  have q0 : (w.alloc (.cells #[.pointer none, .pointer none, .pointer none, .pointer none, .pointer none, .pointer none, .pointer none] 129)).frozen? ⟨w.heap.size, 0, none⟩ = false := by simp
  have p1 : (w.alloc (.cells #[.pointer none, .pointer none, .pointer none, .pointer none, .pointer none, .pointer none, .pointer none] 129)).cell? ⟨w.heap.size, 1, none⟩ = some (.pointer none) := cell_heap hN 1
  have q1 : (w.alloc (.cells #[.pointer none, .pointer none, .pointer none, .pointer none, .pointer none, .pointer none, .pointer none] 129)).frozen? ⟨w.heap.size, 1, none⟩ = false := by simp
  have p2 : (w.alloc (.cells #[.pointer none, .pointer none, .pointer none, .pointer none, .pointer none, .pointer none, .pointer none] 129)).cell? ⟨w.heap.size, 2, none⟩ = some (.pointer none) := cell_heap hN 2
  have q2 : (w.alloc (.cells #[.pointer none, .pointer none, .pointer none, .pointer none, .pointer none, .pointer none, .pointer none] 129)).frozen? ⟨w.heap.size, 2, none⟩ = false := by simp
  have p3 : (w.alloc (.cells #[.pointer none, .pointer none, .pointer none, .pointer none, .pointer none, .pointer none, .pointer none] 129)).cell? ⟨w.heap.size, 3, none⟩ = some (.pointer none) := cell_heap hN 3
  have q3 : (w.alloc (.cells #[.pointer none, .pointer none, .pointer none, .pointer none, .pointer none, .pointer none, .pointer none] 129)).frozen? ⟨w.heap.size, 3, none⟩ = false := by simp
  have p4 : (w.alloc (.cells #[.pointer none, .pointer none, .pointer none, .pointer none, .pointer none, .pointer none, .pointer none] 129)).cell? ⟨w.heap.size, 4, none⟩ = some (.pointer none) := cell_heap hN 4
  have q4 : (w.alloc (.cells #[.pointer none, .pointer none, .pointer none, .pointer none, .pointer none, .pointer none, .pointer none] 129)).frozen? ⟨w.heap.size, 4, none⟩ = false := by simp
  have p5 : (w.alloc (.cells #[.pointer none, .pointer none, .pointer none, .pointer none, .pointer none, .pointer none, .pointer none] 129)).cell? ⟨w.heap.size, 5, none⟩ = some (.pointer none) := cell_heap hN 5
  have q5 : (w.alloc (.cells #[.pointer none, .pointer none, .pointer none, .pointer none, .pointer none, .pointer none, .pointer none] 129)).frozen? ⟨w.heap.size, 5, none⟩ = false := by simp
  have p6 : (w.alloc (.cells #[.pointer none, .pointer none, .pointer none, .pointer none, .pointer none, .pointer none, .pointer none] 129)).cell? ⟨w.heap.size, 6, none⟩ = some (.pointer none) := cell_heap hN 6
  have q6 : (w.alloc (.cells #[.pointer none, .pointer none, .pointer none, .pointer none, .pointer none, .pointer none, .pointer none] 129)).frozen? ⟨w.heap.size, 6, none⟩ = false := by simp
  clear hN
  generalize w.alloc (.cells #[.pointer none, .pointer none, .pointer none, .pointer none, .pointer none, .pointer none, .pointer none] 129) = w1 at *
  go_region
  go_wp2
  have hz := Nat.le_refl w.heap.size
  have HT : w1.there w.heap.size 0 7 := fun j hj => by
    match j, hj with
    | 0, _ => exact ⟨(congrArg Option.isSome p0).trans rfl, q0⟩
    | 1, _ => exact ⟨(congrArg Option.isSome p1).trans rfl, q1⟩
    | 2, _ => exact ⟨(congrArg Option.isSome p2).trans rfl, q2⟩
    | 3, _ => exact ⟨(congrArg Option.isSome p3).trans rfl, q3⟩
    | 4, _ => exact ⟨(congrArg Option.isSome p4).trans rfl, q4⟩
    | 5, _ => exact ⟨(congrArg Option.isSome p5).trans rfl, q5⟩
    | 6, _ => exact ⟨(congrArg Option.isSome p6).trans rfl, q6⟩
    | j + 7, hj => omega
  refine bodyPost_ret (v := .agg (pm7 b o)) ?_ ?_ ?_
  · refine results_cell_mid Try.results73 _ _ w.heap.size (pm7 b o).toList _ rfl ?_ Try.underlying129 rfl (by kernel_rfl)
    exact (World.rangeAt_drew _ _ _ _).2 (World.rangeAt_setCells_same w1 w.heap.size 0 (pm7 b o).toList HT)
  · rfl
  · exact ⟨rfl, (fresh_setCells w.heap.size hz (pm7 b o).toList 0 w1 hf).drew⟩
end Go.Proofs.Ytjjnfpeeipainaa
