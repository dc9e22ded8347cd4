import Derived.Laws.EntriesVeiled
import Derived.Test.YtjjfbpjejhjdiabDoorPkG
namespace Go.Proofs.YtjjfbpjejhjdiabDoor
open Go.RowKit
/-! The table of the rules; thinned. -/
theorem below4 (w : World) (a b c d : Obj) : Below w.heap.size w ((((w.alloc a).alloc b).alloc c).alloc d) := fresh_trans (fresh_trans (fresh_trans (fresh_alloc _ _) (fresh_alloc _ _)) (fresh_alloc _ _)) (fresh_alloc _ _)
theorem below8 (w : World) (a b c d e f g h : Obj) : Below w.heap.size w ((((((((w.alloc a).alloc b).alloc c).alloc d).alloc e).alloc f).alloc g).alloc h) := fresh_trans (below4 _ _ _ _ _) (below4 _ _ _ _ _)
theorem below6 (w : World) (a b c d e f : Obj) : Below w.heap.size w ((((((w.alloc a).alloc b).alloc c).alloc d).alloc e).alloc f) := fresh_trans (below4 _ _ _ _ _) (fresh_trans (fresh_alloc _ _) (fresh_alloc _ _))
def rulesA : Array Value := #[.func (.func 57) #[] #[], .func (.func 58) #[] #[], .bool true, .func (.func 59) #[] #[], .func (.func 60) #[] #[], .bool false, .func (.func 56) #[] #[], .func (.func 61) #[] #[], .bool false, .func (.func 56) #[] #[], .func (.func 62) #[] #[], .bool false]
set_option maxRecDepth 20000 in
set_option maxHeartbeats 800000 in
theorem rules_any (w : World) : Calls Tryd.prog 44 #[] w fun e w' => e = .returned (.slice (some ⟨w.heap.size, 0, none⟩) 4 4) ∧ w' = w.alloc (.cells #[.func (.func 57) #[] #[], .func (.func 58) #[] #[], .bool true, .func (.func 59) #[] #[], .func (.func 60) #[] #[], .bool false, .func (.func 56) #[] #[], .func (.func 61) #[] #[], .bool false, .func (.func 56) #[] #[], .func (.func 62) #[] #[], .bool false] 75) := by
  go_enter Tryd.func44, Tryd.ntmps44
  go_wp2
  go_ret
  exact ⟨rfl, rfl⟩
set_option maxRecDepth 20000 in
set_option maxHeartbeats 800000 in
theorem ruleA_any (p : Prm) (w : World) : Calls Tryd.prog 56 #[.agg #[.int .i64 p.temp, .int .i64 p.topk, .int .i64 p.topp, .int .i64 p.pen, .int .u64 (p.seed : Int)]] w fun e w' => e = .returned (.bool true) ∧ w' = w.alloc (.cells #[.int .i64 p.temp, .int .i64 p.topk, .int .i64 p.topp, .int .i64 p.pen, .int .u64 (p.seed : Int)] 24) := by
  go_enter Tryd.func56, Tryd.ntmps56
  go_wp2
  go_ret
  exact ⟨rfl, rfl⟩
set_option maxRecDepth 20000 in
set_option maxHeartbeats 800000 in
theorem ruleB_any (p : Prm) (w : World) (b : Bool) (hb : b = (p.temp == 0)) : Calls Tryd.prog 57 #[.agg #[.int .i64 p.temp, .int .i64 p.topk, .int .i64 p.topp, .int .i64 p.pen, .int .u64 (p.seed : Int)]] w fun e w' => e = .returned (.bool b) ∧ w' = w.alloc (.cells #[.int .i64 p.temp, .int .i64 p.topk, .int .i64 p.topp, .int .i64 p.pen, .int .u64 (p.seed : Int)] 24) := by
  subst hb
  go_enter Tryd.func57, Tryd.ntmps57
  go_wp2
  go_ret
  exact ⟨ret_bool (by first | rfl | (by_cases h : p.temp = 0 <;> simp [h])), rfl⟩
set_option maxRecDepth 20000 in
set_option maxHeartbeats 800000 in
theorem ruleC_any (p : Prm) (w : World) (b : Bool) (hb : b = (p.topk != 0)) : Calls Tryd.prog 59 #[.agg #[.int .i64 p.temp, .int .i64 p.topk, .int .i64 p.topp, .int .i64 p.pen, .int .u64 (p.seed : Int)]] w fun e w' => e = .returned (.bool b) ∧ w' = w.alloc (.cells #[.int .i64 p.temp, .int .i64 p.topk, .int .i64 p.topp, .int .i64 p.pen, .int .u64 (p.seed : Int)] 24) := by
  subst hb
  go_enter Tryd.func59, Tryd.ntmps59
  go_wp2
  go_ret
  exact ⟨ret_bool (by first | rfl | (by_cases h : p.topk = 0 <;> simp [h])), rfl⟩
set_option maxRecDepth 20000 in
set_option maxHeartbeats 3200000 in
theorem thin_zero (p : Prm) (ht : p.temp = 0) {w : World} {base c : Nat} {u : Option Addr} {A : List (Int × Int)} {wf : Nat → Int} (h : CL w base u c A wf) (hb : base ≤ w.heap.size) (hn : A.length ≤ 1048576) :
    Calls Tryd.prog 27 #[.agg #[.int .i64 p.temp, .int .i64 p.topk, .int .i64 p.topp, .int .i64 p.pen, .int .u64 (p.seed : Int)], .slice u A.length c] w fun e w' => ∃ A' wf', e = .returned (.slice u (List.length A') c) ∧ CL w' base u c A' wf' ∧ Hid (lst A' wf' = (A.take 1).map fun x => (x.1, 65536)) ∧ Hid (A'.length ≤ A.length) ∧ Below base w w' := by
  have HR := hidd rules_any
  have HB := hidd (fun w1 => ruleB_any p w1 true (by rw [ht]; rfl))
  have HG : Hid (∀ w1, Below w.heap.size w w1 → Calls Tryd.prog 58 #[.agg #[.int .i64 p.temp, .int .i64 p.topk, .int .i64 p.topp, .int .i64 p.pen, .int .u64 (p.seed : Int)], .slice u A.length c] w1 fun e w' => e = .returned (.slice u (A.take 1).length c) ∧ CL w' base u c (A.take 1) (fun _ => 65536) ∧ Below base w1 w' ∧ Gw w1 w' u) := fun w1 f => greatest_any p (h.kept f) (Nat.le_trans hb f.size) hn
  have HE : Hid (lst (A.take 1) (fun _ => 65536) = (A.take 1).map fun x => (x.1, 65536)) := by
    show _ = _
    cases A with
    | nil => rfl
    | cons x r => rfl
  have HLT : Hid ((A.take 1).length ≤ A.length) := by show _ ≤ _; rw [List.length_take]; omega
  have hgl : ∀ g, u = some ⟨g, 0, none⟩ → g < w.heap.size := fun g e => by subst e; exact (Own.lt h g rfl).2
  have HGL := hidd hgl
  clear h ht hgl
  generalize (A.take 1) = A1 at *
  go_enter Tryd.func27, Tryd.ntmps27
  go_wp2_with (go_at_call 44; with_reducible refine (HR.out _).mono ?_; rintro e w1 ⟨rfl, h1⟩; rw [h1]; clear h1)
  refine wp_loop_rounds 1 ?_
  rw [rounds_succ]
  go_wp2_with (go_at_call 57; with_reducible refine (HB.out _).mono ?_; rintro e w1 ⟨rfl, h1⟩; rw [h1]; clear h1)
  refine (HG.out _ ?_).mono ?_
  · exact below4 _ _ _ _ _
  rintro e w2 ⟨rfl, hcl, hbl, hgw⟩
  have cl := hgw.cell (k := w.heap.size + 1 + 1) (j := 2) (v := .bool true) (by simp [go_sem]) (fun g e q => by have := HGL.out g e; omega)
  go_wp2
  go_ret
  exact ⟨A1, _, rfl, hcl, HE.out, HLT.out, ((below4 _ _ _ _ _).mono hb).trans hbl⟩
end Go.Proofs.YtjjfbpjejhjdiabDoor
