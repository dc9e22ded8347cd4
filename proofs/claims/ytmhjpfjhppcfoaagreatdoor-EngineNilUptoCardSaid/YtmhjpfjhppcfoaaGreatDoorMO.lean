import Derived.Test.YtmhjpfjhppcfoaaGreatDoorMN
import Derived.Test.YtmhjpfjhppcfoaaGreatDoorMM
import Derived.Lib.SliceRun
import Derived.Test.YtmhjpfjhppcfoaaGreatDoorRows
import Derived.Test.YtmhjpfjhppcfoaaGreatDoorMA
import Derived.Deep.DeepCutAuto
import Derived.RangeFuncRecord
import Derived.Laws.ResultCell
import Derived.Laws.Rows
import Derived.Test.YtmhjpfjhppcfoaaGreatDoorMG
namespace Go.Proofs.YtmhjpfjhppcfoaaGreatDoor
open Go.RowKit
/-! prefix.New over a new pool; the reference's cache. -/
theorem results_tmp4 {fn : Func} {t u v x : Tmp} (h : fn.results = #[.tmp t, .tmp u, .tmp v, .tmp x]) (tmps : Array Value) (P : Program) (w : World) : (results fn tmps).run P w = .ok (.tuple #[tmps.getD t undef, tmps.getD u undef, tmps.getD v undef, tmps.getD x undef]) w := by
  simp [results, h]
set_option maxRecDepth 20000 in
theorem shape_any {w : World} {g cb nb Y W B S : Nat} {cnt : Nat → Nat} {num : Nat → Int} (h : PoolAt w g cb nb Y W B S cnt num) :
    Calls Tryz.prog 112 #[.pointer (some ⟨g, 0, none⟩)] w fun e w' => e = .returned (.tuple #[.int .i64 Y, .int .i64 W, .int .i64 B, .int .i64 S]) ∧ Below w.heap.size w w' := by
  obtain ⟨c0, c1, c2, c3, _⟩ := h.cells
  clear h
  go_enter Tryz.func112, Tryz.ntmps112
  go_wp2
  go_quiet (fail)
  go_wp2
  refine bodyPost_ret (results_tmp4 rfl _ _ _) rfl ?_
  exact ⟨rfl, below_drewN (Below.refl _ _) _⟩
theorem infoPN : (Tryz.prog.info? 224).map (fun i => (i.zero, i.size, i.bytes)) = some (some (.pointer none), 1, 8) := by kernel_rfl
set_option maxRecDepth 20000 in
set_option maxHeartbeats 1600000 in
theorem pnew_any {w : World} {pg cb nb Y W B S : Nat} {cnt : Nat → Nat} {num : Nat → Int} (h : PoolAt w pg cb nb Y W B S cnt num) :
    Calls Tryz.prog 59 #[.pointer (some ⟨pg, 0, none⟩)] w fun e w' => ∃ c, e = .returned (.pointer (some ⟨c, 0, none⟩)) ∧ Below w.heap.size w w' := by
  obtain ⟨hB1, hB2⟩ := h.hB
  obtain ⟨iP, hiP, zP0, zP1, zP2⟩ := info_parts infoPN
  have hmk : ∀ w, (Instr.makeSlice 219 (.int .i64 (B : Int)) (.int .i64 (B : Int))).run Tryz.prog w = .ok (.slice (some ⟨w.heap.size, 0, none⟩) B B) (w.alloc (.cells (madeCells #[.pointer none] B) 224)) := run_make_row 219 224 iP (.pointer none) Tryz.underlying219 hiP zP0 zP1 rfl .i64 .i64 B (by rw [zP2]; omega) (by omega)
  clear hiP zP0 zP1 zP2
  have hmm := @run_makeMap Tryz.prog
  have HSH := hidd (shape_any h)
  clear h
  go_enter Tryz.func59, Tryz.ntmps59
  go_wp2_with (go_at_call 112; refine HSH.out.mono ?_; rintro e w1 ⟨rfl, f1⟩)
  have hs1 := f1.size
  go_ret
  exact ⟨_, rfl, ((f1.alloc hs1 _).alloc (by simp; omega) _).alloc (by simp; omega) _⟩
set_option maxRecDepth 20000 in
theorem rcache_any (w : World) (g : Nat) : Calls Tryz.prog 65 #[.pointer (some ⟨g, 0, none⟩)] w fun e w' => ∃ c, e = .returned (.pointer (some ⟨c, 0, none⟩)) ∧ Below w.heap.size w w' := by
  go_enter Tryz.func65, Tryz.ntmps65
  go_wp2
  go_ret
  exact ⟨_, rfl, fresh_alloc _ _⟩
end Go.Proofs.YtmhjpfjhppcfoaaGreatDoor
namespace Go.Proofs.YtmhjpfjhppcfoaaGreatDoor
open Go.RowKit
/-! A nil engine's calls. -/
set_option maxRecDepth 20000 in
theorem find_nil (w : World) (id : Int) : Calls Tryz.prog 26 #[.pointer none, .int .i64 id] w fun e w' => e = .returned (.tuple #[.pointer none, .int .i64 1]) ∧ w' = w := by
  go_enter Tryz.func26, Tryz.ntmps26
  go_wp2
  go_ret2
  exact ⟨rfl, rfl⟩
set_option maxRecDepth 20000 in
theorem offer_nil (w : World) (id : Int) (l : Value) : Calls Tryz.prog 7 #[.pointer none, .int .i64 id, l] w fun e w' => e = .returned (.int .i64 1) ∧ w' = w := by
  have HF := hidd (find_nil w id)
  go_enter Tryz.func7, Tryz.ntmps7
  go_wp2_with (go_at_call 26; refine HF.out.mono ?_; rintro e w1 ⟨rfl, hw⟩; replace hw := hw.symm; subst hw)
  go_ret
  exact ⟨rfl, rfl⟩
set_option maxRecDepth 20000 in
theorem cancel_nil (w : World) (id : Int) : Calls Tryz.prog 8 #[.pointer none, .int .i64 id] w fun e w' => e = .returned (.int .i64 1) ∧ w' = w := by
  have HF := hidd (find_nil w id)
  go_enter Tryz.func8, Tryz.ntmps8
  go_wp2_with (go_at_call 26; refine HF.out.mono ?_; rintro e w1 ⟨rfl, hw⟩; replace hw := hw.symm; subst hw)
  go_ret
  exact ⟨rfl, rfl⟩
set_option maxRecDepth 20000 in
theorem filled_nil (w : World) (id : Int) : Calls Tryz.prog 11 #[.pointer none, .int .i64 id] w fun e w' => e = .returned (.tuple #[.int .i64 0, .int .i64 1]) ∧ w' = w := by
  have HF := hidd (find_nil w id)
  go_enter Tryz.func11, Tryz.ntmps11
  go_wp2_with (go_at_call 26; refine HF.out.mono ?_; rintro e w1 ⟨rfl, hw⟩; replace hw := hw.symm; subst hw)
  go_ret2
  exact ⟨rfl, rfl⟩
set_option maxRecDepth 20000 in
theorem blocks_nil (w : World) (id : Int) : Calls Tryz.prog 12 #[.pointer none, .int .i64 id] w fun e w' => e = .returned (.tuple #[.slice none 0 0, .int .i64 1]) ∧ w' = w := by
  have HF := hidd (find_nil w id)
  go_enter Tryz.func12, Tryz.ntmps12
  go_wp2_with (go_at_call 26; refine HF.out.mono ?_; rintro e w1 ⟨rfl, hw⟩; replace hw := hw.symm; subst hw)
  go_ret2
  exact ⟨rfl, rfl⟩
set_option maxRecDepth 20000 in
theorem cached_nil (w : World) (id l p : Int) : Calls Tryz.prog 10 #[.pointer none, .int .i64 id, .int .i64 l, .int .i64 p] w fun e w' => e = .returned (.tuple #[.slice none 0 0, .slice none 0 0, .int .i64 1]) ∧ w' = w := by
  have HF := hidd (find_nil w id)
  go_enter Tryz.func10, Tryz.ntmps10
  go_wp2_with (go_at_call 26; refine HF.out.mono ?_; rintro e w1 ⟨rfl, hw⟩; replace hw := hw.symm; subst hw)
  go_ret3
  exact ⟨rfl, rfl⟩
set_option maxRecDepth 20000 in
theorem room_nil (w : World) : Calls Tryz.prog 13 #[.pointer none] w fun e w' => e = .returned (.tuple #[.int .i64 0, .int .i64 0, .int .i64 0, .int .i64 0]) ∧ w' = w := by
  go_enter Tryz.func13, Tryz.ntmps13
  go_wp2
  refine bodyPost_ret (results_tmp4 rfl _ _ _) rfl ?_
  exact ⟨rfl, rfl⟩
set_option maxRecDepth 20000 in
theorem live_nil (w : World) : Calls Tryz.prog 15 #[.pointer none] w fun e w' => e = .returned (.slice none 0 0) ∧ w' = w := by
  go_enter Tryz.func15, Tryz.ntmps15
  go_wp2
  go_ret
  exact ⟨rfl, rfl⟩
end Go.Proofs.YtmhjpfjhppcfoaaGreatDoor
namespace Go.Proofs.YtmhjpfjhppcfoaaGreatDoor
open Go.RowKit
set_option maxRecDepth 20000 in
theorem submit_nil (w : World) (a0 a1 a2 a3 a4 a5 a6 a7 a8 : Value) : Calls Tryz.prog 5 #[.pointer none, .agg #[a0, a1, a2, a3, a4, a5, a6, a7, a8]] w fun e w' => e = .returned (.tuple #[.int .i64 0, .int .i64 1]) ∧ Below w.heap.size w w' := by
  go_enter Tryz.func5, Tryz.ntmps5
  go_wp2
  go_ret2
  exact ⟨rfl, fresh_alloc _ _⟩
theorem ebelow_row {w a : World} (h : Below w.heap.size w a) {g : Nat} (hg : w.heap.size ≤ g) (cs : Array Value) : Below w.heap.size w (a.setRow g cs) :=
  h.trans ⟨rfl, rfl, rfl, by simp [World.setRow], fun k hk => setRow_other a g k cs (by omega)⟩
theorem size_state : (Tryz.prog.info? 59).map (·.size) = some 2 := by kernel_rfl
theorem size_report : (Tryz.prog.info? 71).map (·.size) = some 3 := by kernel_rfl
theorem size_ask : (Tryz.prog.info? 45).map (·.size) = some 9 := by kernel_rfl
theorem ret_st {fn : Func} {p u : Tmp} (h : fn.results = #[.cell p 59, .tmp u]) (tmps : Array Value) (w : World) (g : Nat) (a b v : Value) (hp : tmps.getD p undef = .pointer (some ⟨g, 0, none⟩)) (hg : w.heap[g]? = some (.cells #[a, b] 59 (0, 0))) (hv : tmps.getD u undef = v) :
    (results fn tmps).run Tryz.prog w = .ok (.tuple #[.agg #[a, b], v]) w := by
  rw [results_cell_tmp h, hp, hv]
  have hr : w.rowIs g 59 2 (fun i => (#[a, b] : Array Value).getD i undef) := ⟨_, hg, rfl, fun i hi => by simp [hi]⟩
  have hrg : w.rangeAt g 0 [a, b] := fun j x hj => by
    match j, hj with
    | 0, hj => simp at hj; subst hj; exact hr.cell (i := 0) (by decide)
    | 1, hj => simp at hj; subst hj; exact hr.cell (i := 1) (by decide)
  simp [asAddr, run_loadVar_mid w g 0 59 [a, b] _ hrg Tryz.underlying59 rfl size_state]
set_option maxRecDepth 20000 in
theorem poll_nil (w : World) (id : Int) : Calls Tryz.prog 9 #[.pointer none, .int .i64 id] w fun e w' => e = .returned (.tuple #[.agg #[.int .i64 0, .slice none 0 0], .int .i64 1]) ∧ Below w.heap.size w w' := by
  have HF := hidd (fun z => find_nil z id)
  go_enter Tryz.func9, Tryz.ntmps9
  go_wp2_with (go_at_call 26; refine (HF.out _).mono ?_; rintro e w1 ⟨rfl, hw⟩; replace hw := hw.symm; subst hw)
  refine bodyPost_ret (ret_st rfl _ _ w.heap.size _ _ _ rfl (World.alloc_heap_new _ _) rfl) rfl ?_
  exact ⟨rfl, fresh_alloc _ _⟩
set_option maxRecDepth 20000 in
theorem step_nil (w : World) (v : Value) : Calls Tryz.prog 14 #[.pointer none, v] w fun e w' => e = .returned (.agg #[.slice none 0 0, .slice none 0 0, .int .i64 0]) ∧ Below w.heap.size w w' := by
  go_enter Tryz.func14, Tryz.ntmps14
  go_wp2
  refine bodyPost_ret (results_cell_row rfl _ _ w.heap.size 71 _ (0, 0) _ rfl (World.alloc_heap_new _ _) Tryz.underlying71 rfl size_report) rfl ?_
  exact ⟨rfl, fresh_alloc _ _⟩
set_option maxRecDepth 20000 in
set_option maxHeartbeats 1600000 in
theorem ecopyI_any {w : World} {ao : Option Addr} {n cap : Nat} {f : Nat → Int} (h : RdA w ao 1 n cap (fun i => .int .i64 (f i))) (hn : n ≤ 17592186043904) :
    Calls Tryz.prog 25 #[.slice ao n cap] w fun e w' => ∃ u c, e = .returned (.slice u n c) ∧ Below w.heap.size w w' := by
  have HH := hidd h
  clear h
  go_enter Tryz.func25, Tryz.ntmps25
  go_wp2
  go_loopw [3, 4] (fun v i wr => ∃ k : Nat, k ≤ n ∧ i = .int .i64 k ∧ Hid (Own wr w.heap.size 3 1 v k (fun i => .int .i64 (f i))) ∧ Hid (Below w.heap.size w wr)) (fun _ i _ => n - (intOf i).toNat)
  case atStart => exact ⟨0, by omega, rfl, own_nil _ _ _ _ _, Below.refl _ _⟩
  case round =>
    obtain ⟨k, hk, rfl, HO, HF⟩ := hrel
    by_cases hlt : k < n
    · obtain ⟨b1, o1, rfl, h1⟩ := (HH.out.fresh HF.out).one (by omega)
      have x1 := h1 k hlt
      clear h1
      have k1 : (k : Int) < (n : Int) := by omega
      have hsz := HF.out.size
      obtain ⟨av, kv, rfl, _⟩ := HO.out.rd
      go_wp2_with (at_builtin; refine wpList_app1 _ rfl _ _ 40 rfl w.heap.size 3 (.int .i64 0) 8 Tryz.underlying40 infoI rfl _ k (fun i => .int .i64 (f i)) rfl (HO.out.kept (fresh_alloc _ _)) _ 1 rfl (new_cell _ _ _) rfl (by omega) (by omega) (by simp; omega) ?_)
      intro v4 w4 ho4 ha4
      have HO4 := hidd ho4
      have HB4 := hidd (ha4.below (HF.out.alloc hsz _) (HO.out.kept (fresh_alloc _ _)) (Nat.le_refl _) (by simp; omega))
      obtain ⟨a4, k4, rfl, _⟩ := HO4.out.rd
      clear ho4 ha4
      go_wp2
      go_roundw
      case rel => exact ⟨k + 1, by omega, by go_num, HO4, HB4⟩
      case measure => simp [intOf]; omega
    · obtain rfl : k = n := by omega
      obtain ⟨av, kv, rfl, _⟩ := HO.out.rd
      go_wp2
      go_ret
      exact ⟨_, _, rfl, HF.out⟩
set_option maxRecDepth 20000 in
set_option maxHeartbeats 1600000 in
theorem copyAsk_any {w : World} {ao : Option Addr} {n cap : Nat} {f : Nat → Int} (h : RdA w ao 1 n cap (fun i => .int .i64 (f i))) (hn : n ≤ 17592186043904) (y1 y2 y3 y4 y5 y6 y7 : Int) (y8 : ByteArray) :
    Calls Tryz.prog 6 #[.agg #[.slice ao n cap, .int .i64 y1, .int .i64 y2, .int .i64 y3, .int .i64 y4, .int .i64 y5, .int .u64 y6, .int .i64 y7, .string y8]] w fun e w' => ∃ b0 b1 b2 b3 b4 b5 b6 b7 b8, e = .returned (.agg #[b0, b1, b2, b3, b4, b5, b6, b7, b8]) ∧ Below w.heap.size w w' := by
  have HF : Hid (Below w.heap.size w ((w.alloc (.cells #[.slice ao n cap, .int .i64 y1, .int .i64 y2, .int .i64 y3, .int .i64 y4, .int .i64 y5, .int .u64 y6, .int .i64 y7, .string y8] 45)).alloc (.cells #[.slice none 0 0, .int .i64 0, .int .i64 0, .int .i64 0, .int .i64 0, .int .i64 0, .int .u64 0, .int .i64 0, .string ⟨#[]⟩] 45))) := (fresh_alloc w _).alloc (by simp) _
  have HR1 : Hid (((w.alloc (.cells #[.slice ao n cap, .int .i64 y1, .int .i64 y2, .int .i64 y3, .int .i64 y4, .int .i64 y5, .int .u64 y6, .int .i64 y7, .string y8] 45)).alloc (.cells #[.slice none 0 0, .int .i64 0, .int .i64 0, .int .i64 0, .int .i64 0, .int .i64 0, .int .u64 0, .int .i64 0, .string ⟨#[]⟩] 45)).rowIs w.heap.size 45 9 (fun i => [.slice ao n cap, .int .i64 y1, .int .i64 y2, .int .i64 y3, .int .i64 y4, .int .i64 y5, .int .u64 y6, .int .i64 y7, .string y8].getD i undef)) := (World.rowIs_list w [.slice ao n cap, .int .i64 y1, .int .i64 y2, .int .i64 y3, .int .i64 y4, .int .i64 y5, .int .u64 y6, .int .i64 y7, .string y8] 45).alloc _
  have HR2 : Hid (((w.alloc (.cells #[.slice ao n cap, .int .i64 y1, .int .i64 y2, .int .i64 y3, .int .i64 y4, .int .i64 y5, .int .u64 y6, .int .i64 y7, .string y8] 45)).alloc (.cells #[.slice none 0 0, .int .i64 0, .int .i64 0, .int .i64 0, .int .i64 0, .int .i64 0, .int .u64 0, .int .i64 0, .string ⟨#[]⟩] 45)).rowIs (w.heap.size + 1) 45 9 (fun i => [.slice none 0 0, .int .i64 0, .int .i64 0, .int .i64 0, .int .i64 0, .int .i64 0, .int .u64 0, .int .i64 0, .string ⟨#[]⟩].getD i undef)) := by
    have := World.rowIs_list (w.alloc (.cells #[.slice ao n cap, .int .i64 y1, .int .i64 y2, .int .i64 y3, .int .i64 y4, .int .i64 y5, .int .u64 y6, .int .i64 y7, .string y8] 45)) [.slice none 0 0, .int .i64 0, .int .i64 0, .int .i64 0, .int .i64 0, .int .i64 0, .int .u64 0, .int .i64 0, .string ⟨#[]⟩] 45
    rwa [World.size_alloc] at this
  have hs0 : ((w.alloc (.cells #[.slice ao n cap, .int .i64 y1, .int .i64 y2, .int .i64 y3, .int .i64 y4, .int .i64 y5, .int .u64 y6, .int .i64 y7, .string y8] 45)).alloc (.cells #[.slice none 0 0, .int .i64 0, .int .i64 0, .int .i64 0, .int .i64 0, .int .i64 0, .int .u64 0, .int .i64 0, .string ⟨#[]⟩] 45)).heap.size = w.heap.size + 2 := by simp
  have HS := hidd hs0
  clear hs0
  have HCI := hidd (fun (z : World) (hz : Below w.heap.size w z) => ecopyI_any (h.fresh hz) hn)
  clear h
  go_enter Tryz.func6, Tryz.ntmps6
  go_upto_region 1 with fail
  generalize (w.alloc (.cells #[.slice ao n cap, .int .i64 y1, .int .i64 y2, .int .i64 y3, .int .i64 y4, .int .i64 y5, .int .u64 y6, .int .i64 y7, .string y8] 45)).alloc (.cells #[.slice none 0 0, .int .i64 0, .int .i64 0, .int .i64 0, .int .i64 0, .int .i64 0, .int .u64 0, .int .i64 0, .string ⟨#[]⟩] 45) = w1 at *
  obtain ⟨g, HG⟩ : ∃ g, Hid (g = w.heap.size) := ⟨_, rfl⟩
  rw [← HG.out] at HR1 HR2 HS ⊢
  have c0 : w1.cell? ⟨g, 0, none⟩ = some (.slice ao n cap) := HR1.out.cell (i := 0) (by decide)
  have c1 : w1.cell? ⟨g, 1, none⟩ = some (.int .i64 y1) := HR1.out.cell (i := 1) (by decide)
  have c2 : w1.cell? ⟨g, 2, none⟩ = some (.int .i64 y2) := HR1.out.cell (i := 2) (by decide)
  have c3 : w1.cell? ⟨g, 3, none⟩ = some (.int .i64 y3) := HR1.out.cell (i := 3) (by decide)
  have c4 : w1.cell? ⟨g, 4, none⟩ = some (.int .i64 y4) := HR1.out.cell (i := 4) (by decide)
  have c5 : w1.cell? ⟨g, 5, none⟩ = some (.int .i64 y5) := HR1.out.cell (i := 5) (by decide)
  have c6 : w1.cell? ⟨g, 6, none⟩ = some (.int .u64 y6) := HR1.out.cell (i := 6) (by decide)
  have c7 : w1.cell? ⟨g, 7, none⟩ = some (.int .i64 y7) := HR1.out.cell (i := 7) (by decide)
  have c8 : w1.cell? ⟨g, 8, none⟩ = some (.string y8) := HR1.out.cell (i := 8) (by decide)
  go_upto_region 2 with fail
  have HF2 := hidd (fresh_alloc w1 (.cells #[.slice ao n cap, .int .i64 y1, .int .i64 y2, .int .i64 y3, .int .i64 y4, .int .i64 y5, .int .u64 y6, .int .i64 y7, .string y8] 45))
  have HR3 : Hid ((w1.alloc (.cells #[.slice ao n cap, .int .i64 y1, .int .i64 y2, .int .i64 y3, .int .i64 y4, .int .i64 y5, .int .u64 y6, .int .i64 y7, .string y8] 45)).rowIs w1.heap.size 45 9 (fun i => [.slice ao n cap, .int .i64 y1, .int .i64 y2, .int .i64 y3, .int .i64 y4, .int .i64 y5, .int .u64 y6, .int .i64 y7, .string y8].getD i undef)) := World.rowIs_list w1 [.slice ao n cap, .int .i64 y1, .int .i64 y2, .int .i64 y3, .int .i64 y4, .int .i64 y5, .int .u64 y6, .int .i64 y7, .string y8] 45
  clear c0 c1 c2 c3 c4 c5 c6 c7 c8
  generalize w1.alloc (.cells #[.slice ao n cap, .int .i64 y1, .int .i64 y2, .int .i64 y3, .int .i64 y4, .int .i64 y5, .int .u64 y6, .int .i64 y7, .string y8] 45) = w2 at *
  rw [HS.out] at HR3 ⊢
  have HB2 := hidd (HF.out.trans (HF2.out.mono HF.out.size))
  have HC2 := hidd (HCI.out w2 HB2.out)
  have c0 : w2.cell? ⟨g, 0, none⟩ = some (.slice ao n cap) := fresh_cell HF2.out (HR1.out.cell (i := 0) (by decide))
  go_upto_region 3 with (go_at_call 25; with_reducible refine HC2.out.mono ?_; rintro e w3 ⟨u3, k3, rfl, hb3⟩; have d0 := (HR3.out.of_block (hb3.block _ HR3.out.lt)).cell (i := 0) (by decide); have df := (HR3.out.of_block (hb3.block _ HR3.out.lt)).frozen)
  have HR4 := hidd ((HR3.out.of_block (hb3.block _ HR3.out.lt)).set 0 (.slice u3 n k3))
  have HB3 := hidd (HB2.out.trans (hb3.mono HB2.out.size))
  have HB4 : Hid (Below w.heap.size w (w3.setCell ⟨g + 2, 0, none⟩ (.slice u3 n k3))) := HB3.out.setCell (by show w.heap.size ≤ g + 2; have := HG.out; omega) _
  have HR5 : Hid ((w3.setCell ⟨g + 2, 0, none⟩ (.slice u3 n k3)).rowIs (g + 1) 45 9 (fun i => [.slice none 0 0, .int .i64 0, .int .i64 0, .int .i64 0, .int .i64 0, .int .i64 0, .int .u64 0, .int .i64 0, .string ⟨#[]⟩].getD i undef)) := by
    have q := (HR2.out.of_block (HF2.out.block _ HR2.out.lt))
    have q2 := q.of_block (hb3.block _ q.lt)
    exact (Chg.of_set w3 (g + 2) 0 _).row q2 (fun e => by omega)
  clear d0 df hb3 c0 HC2
  generalize w3.setCell ⟨g + 2, 0, none⟩ (.slice u3 n k3) = w4 at *
  have c0 : w4.cell? ⟨g + 2, 0, none⟩ = some (.slice u3 n k3) := HR4.out.cell (i := 0) (by decide)
  have c1 : w4.cell? ⟨g + 2, 1, none⟩ = some (.int .i64 y1) := HR4.out.cell (i := 1) (by decide)
  have c2 : w4.cell? ⟨g + 2, 2, none⟩ = some (.int .i64 y2) := HR4.out.cell (i := 2) (by decide)
  have c3 : w4.cell? ⟨g + 2, 3, none⟩ = some (.int .i64 y3) := HR4.out.cell (i := 3) (by decide)
  have c4 : w4.cell? ⟨g + 2, 4, none⟩ = some (.int .i64 y4) := HR4.out.cell (i := 4) (by decide)
  have c5 : w4.cell? ⟨g + 2, 5, none⟩ = some (.int .i64 y5) := HR4.out.cell (i := 5) (by decide)
  have c6 : w4.cell? ⟨g + 2, 6, none⟩ = some (.int .u64 y6) := HR4.out.cell (i := 6) (by decide)
  have c7 : w4.cell? ⟨g + 2, 7, none⟩ = some (.int .i64 y7) := HR4.out.cell (i := 7) (by decide)
  have c8 : w4.cell? ⟨g + 2, 8, none⟩ = some (.string y8) := HR4.out.cell (i := 8) (by decide)
  obtain ⟨old, ho1, ho2, _⟩ := HR5.out
  have HO1 := hidd ho1
  have HO2 := hidd ho2
  have T9 : Hid ((#[.slice u3 n k3, .int .i64 y1, .int .i64 y2, .int .i64 y3, .int .i64 y4, .int .i64 y5, .int .u64 y6, .int .i64 y7, .string y8] : Array Value).all (·.oneCell') = true) := hidd (by simp [Value.oneCell'])
  clear ho1 ho2
  go_wp2_with (refine wpList_store_row rfl 45 _ _ rfl (g + 1) #[.slice u3 n k3, .int .i64 y1, .int .i64 y2, .int .i64 y3, .int .i64 y4, .int .i64 y5, .int .u64 y6, .int .i64 y7, .string y8] rfl rfl 45 old HO1.out size_ask (by rw [HO2.out]; rfl) T9.out ?_)
  refine bodyPost_ret (results_cell_row rfl _ _ (g + 1) 45 _ (0, 0) _ rfl (setRow_heap _ _ _ _ _ _ HO1.out) Tryz.underlying45 rfl size_ask) rfl ?_
  exact ⟨⟨_, _, _, _, _, _, _, _, _, rfl⟩, ebelow_row HB4.out (by have := HG.out; omega) _⟩
set_option maxRecDepth 20000 in
theorem eqI_nil (w : World) : Calls Tryz.prog 48 #[.slice none 0 0, .slice none 0 0] w fun e w' => e = .returned (.bool true) ∧ Below w.heap.size w w' := by
  go_enter Tryz.func48, Tryz.ntmps48
  go_wp2
  go_loopw [5] (fun i wr => i = .int .i64 0 ∧ Below w.heap.size w wr) (fun i _ => 0)
  case atStart => exact ⟨rfl, Below.refl _ _⟩
  case round =>
    obtain ⟨rfl, hf⟩ := hrel
    go_wp2
    go_ret
    exact ⟨rfl, hf⟩
theorem box3e (w : World) (a b c : Value) (ty : TypeId) : (w.alloc (.cells #[a, b, c] ty)).rowIs w.heap.size ty 3 (fun i => [a, b, c].getD i undef) := World.rowIs_list w [a, b, c] ty
set_option maxRecDepth 20000 in
theorem eqRep_nil (w : World) : Calls Tryz.prog 16 #[.agg #[.slice none 0 0, .slice none 0 0, .int .i64 0], .agg #[.slice none 0 0, .slice none 0 0, .int .i64 0]] w fun e w' => e = .returned (.bool true) ∧ Below w.heap.size w w' := by
  have HF : Hid (Below w.heap.size w ((w.alloc (.cells #[.slice none 0 0, .slice none 0 0, .int .i64 0] 71)).alloc (.cells #[.slice none 0 0, .slice none 0 0, .int .i64 0] 71))) := (fresh_alloc w _).alloc (by simp) _
  have HR1 : Hid (((w.alloc (.cells #[.slice none 0 0, .slice none 0 0, .int .i64 0] 71)).alloc (.cells #[.slice none 0 0, .slice none 0 0, .int .i64 0] 71)).rowIs w.heap.size 71 3 (fun i => [.slice none 0 0, .slice none 0 0, .int .i64 0].getD i undef)) := (box3e w _ _ _ 71).alloc _
  have HR2 : Hid (((w.alloc (.cells #[.slice none 0 0, .slice none 0 0, .int .i64 0] 71)).alloc (.cells #[.slice none 0 0, .slice none 0 0, .int .i64 0] 71)).rowIs (w.heap.size + 1) 71 3 (fun i => [.slice none 0 0, .slice none 0 0, .int .i64 0].getD i undef)) := by
    have := box3e (w.alloc (.cells #[.slice none 0 0, .slice none 0 0, .int .i64 0] 71)) (.slice none 0 0) (.slice none 0 0) (.int .i64 0) 71
    rwa [World.size_alloc] at this
  have HEQ := hidd (fun z => eqI_nil z)
  go_enter Tryz.func16, Tryz.ntmps16
  go_upto_region 1 with fail
  generalize (w.alloc (.cells #[.slice none 0 0, .slice none 0 0, .int .i64 0] 71)).alloc (.cells #[.slice none 0 0, .slice none 0 0, .int .i64 0] 71) = w1 at *
  obtain ⟨g, HG⟩ : ∃ g, Hid (g = w.heap.size) := ⟨_, rfl⟩
  rw [← HG.out] at HR1 HR2 ⊢
  have p1 : w1.cell? ⟨g, 1, none⟩ = some (.slice none 0 0) := HR1.out.cell (i := 1) (by decide)
  have q1 : w1.cell? ⟨g + 1, 1, none⟩ = some (.slice none 0 0) := HR2.out.cell (i := 1) (by decide)
  have HP : Hid (∀ z, Below w1.heap.size w1 z → (z.cell? ⟨g, 0, none⟩ = some (.slice none 0 0) ∧ z.cell? ⟨g + 1, 0, none⟩ = some (.slice none 0 0)) ∧ z.cell? ⟨g, 2, none⟩ = some (.int .i64 0) ∧ z.cell? ⟨g + 1, 2, none⟩ = some (.int .i64 0)) := fun z hz => ⟨⟨fresh_cell hz (HR1.out.cell (i := 0) (by decide)), fresh_cell hz (HR2.out.cell (i := 0) (by decide))⟩, fresh_cell hz (HR1.out.cell (i := 2) (by decide)), fresh_cell hz (HR2.out.cell (i := 2) (by decide))⟩
  go_upto_region 3 with (go_at_call 48; with_reducible refine (HEQ.out _).mono ?_; rintro e w2 ⟨rfl, hb2⟩; obtain ⟨⟨p0, q0⟩, p2, q2⟩ := HP.out _ hb2)
  have HB2 := hidd hb2
  clear p0 q0 p1 q1 p2 q2 hb2 HEQ
  go_wp2
  go_loopw [5] (fun i wr => i = .int .i64 0 ∧ Hid (Below w1.heap.size w1 wr)) (fun i _ => 0)
  case atStart => exact ⟨rfl, HB2⟩
  case round =>
    obtain ⟨rfl, HW⟩ := hrel
    obtain ⟨⟨p0, q0⟩, _⟩ := HP.out _ HW.out
    go_wp2
    go_ret
    exact ⟨rfl, HF.out.trans (HW.out.mono HF.out.size)⟩
end Go.Proofs.YtmhjpfjhppcfoaaGreatDoor
