import Derived.Test.YtaalinlggjimcaaXM
namespace Go.Proofs.Ytaalinlggjimcaa
open Go.RowKit
/-! New. -/
theorem results_tmp4 {fn : Func} {t u v x : Tmp} (h : fn.results = #[.tmp t, .tmp u, .tmp v, .tmp x]) (tmps : Array Value) (P : Program) (w : World) : (results fn tmps).run P w = .ok (.tuple #[tmps.getD t undef, tmps.getD u undef, tmps.getD v undef, tmps.getD x undef]) w := by
  simp [results, h]
set_option maxRecDepth 20000 in
set_option maxHeartbeats 400000 in
theorem shape_any {w : World} {g cb nb Y W B S : Nat} {cnt : Nat → Nat} {num : Nat → Int} (h : PoolAt w g cb nb Y W B S cnt num) :
    Calls Try.prog 34 #[.pointer (some ⟨g, 0, none⟩)] w fun e w' => e = .returned (.tuple #[.int .i64 Y, .int .i64 W, .int .i64 B, .int .i64 S]) ∧ Below w.heap.size w w' := by
  obtain ⟨c0, c1, c2, c3, _⟩ := h.cells
  clear h
  go_enter Try.func34, Try.ntmps34
  go_wp2
  go_quiet (fail)
  go_wp2
  refine bodyPost_ret (results_tmp4 rfl _ _ _) rfl ?_
  exact ⟨rfl, below_drewN (Below.refl _ _) _⟩
theorem cache_new (W : World) (pg S M O B : Nat) : (W.alloc (.cells #[.pointer (some ⟨pg, 0, none⟩), .int .i64 S, .int .i64 0, .int .i64 0, .int .i64 0, .int .i64 0, .int .i64 0, .int .i64 0, .int .i64 0, .int .i64 0, .int .i64 0, .int .i64 0, .int .i64 0, .int .i64 0, .int .i64 0, .int .i64 0, .int .i64 0, .int .i64 0, .int .i64 0, nilP, .int .i64 0, .int .i64 0, .int .i64 0, .map (some M), .slice (some ⟨O, 0, none⟩) B B, .int .i64 0] 80)).rowIs W.heap.size 80 26 (cacheF pg S 0 M O B 0) :=
  World.rowIs_alloc W #[.pointer (some ⟨pg, 0, none⟩), .int .i64 S, .int .i64 0, .int .i64 0, .int .i64 0, .int .i64 0, .int .i64 0, .int .i64 0, .int .i64 0, .int .i64 0, .int .i64 0, .int .i64 0, .int .i64 0, .int .i64 0, .int .i64 0, .int .i64 0, .int .i64 0, .int .i64 0, .int .i64 0, nilP, .int .i64 0, .int .i64 0, .int .i64 0, .map (some M), .slice (some ⟨O, 0, none⟩) B B, .int .i64 0] 80 _ (fun i hi => by
    have hi : i < 26 := hi
    rcases i with _ | i
    · rfl
    rcases i with _ | i
    · rfl
    rcases i with _ | i
    · rfl
    rcases i with _ | i
    · rfl
    rcases i with _ | i
    · rfl
    rcases i with _ | i
    · rfl
    rcases i with _ | i
    · rfl
    rcases i with _ | i
    · rfl
    rcases i with _ | i
    · rfl
    rcases i with _ | i
    · rfl
    rcases i with _ | i
    · rfl
    rcases i with _ | i
    · rfl
    rcases i with _ | i
    · rfl
    rcases i with _ | i
    · rfl
    rcases i with _ | i
    · rfl
    rcases i with _ | i
    · rfl
    rcases i with _ | i
    · rfl
    rcases i with _ | i
    · rfl
    rcases i with _ | i
    · rfl
    rcases i with _ | i
    · rfl
    rcases i with _ | i
    · rfl
    rcases i with _ | i
    · rfl
    rcases i with _ | i
    · rfl
    rcases i with _ | i
    · rfl
    rcases i with _ | i
    · rfl
    rcases i with _ | i
    · rfl
    omega)
theorem own_nil_row {w : World} {O B : Nat} (h : w.rowIs O 76 B (fun _ => nilP)) : w.rowIs O 76 B (ownF []) := h.congr (fun _ _ => rfl)
set_option maxHeartbeats 400000 in
theorem pnew_nil (w : World) : Calls Try.prog 10 #[.pointer none] w fun e w' => e = .returned (.pointer none) ∧ w' = w := by
  go_enter Try.func10, Try.ntmps10
  go_wp2
  go_ret
  exact ⟨rfl, rfl⟩
set_option maxRecDepth 100000 in
set_option maxHeartbeats 3200000 in
theorem pnew_any {w : World} {pg cb nb Y W B S : Nat} {cnt : Nat → Nat} {num : Nat → Int} (h : PoolAt w pg cb nb Y W B S cnt num) :
    Calls Try.prog 10 #[.pointer (some ⟨pg, 0, none⟩)] w fun e w' => ∃ c A, e = .returned (.pointer (some ⟨c.C, 0, none⟩)) ∧ c.pg = pg ∧ c.S = S ∧ c.B = B ∧ CacheAt w' c A [] 0 ∧ (∀ z, A z → w.heap.size ≤ z) ∧ Below w.heap.size w w' := by
  obtain ⟨hB1, hB2⟩ := h.hB
  have hS := h.hS
  obtain ⟨iP, hiP, zP0, zP1, zP2⟩ := info_parts infoPN
  have hmk : ∀ w, (Instr.makeSlice 71 (.int .i64 (B : Int)) (.int .i64 (B : Int))).run Try.prog w = .ok (.slice (some ⟨w.heap.size, 0, none⟩) B B) (w.alloc (.cells (madeCells #[nilP] B) 76)) := run_make_row 71 76 iP nilP Try.underlying71 hiP zP0 zP1 rfl .i64 .i64 B (by rw [zP2]; omega) (by omega)
  clear hiP zP0 zP1 zP2
  have hmm := @run_makeMap Try.prog
  have HSH := hidd (shape_any h)
  clear h
  go_enter Try.func10, Try.ntmps10
  go_wp2_with (go_at_call 34; refine HSH.out.mono ?_; rintro e w1 ⟨rfl, f1⟩)
  have r0 := cache_new ((w1.alloc (.map #[] 0)).alloc (.cells (madeCells #[nilP] B) 76)) pg S w1.heap.size (w1.heap.size + 1) B
  have rO := ((World.rowIs_made (w1.alloc (.map #[] 0)) nilP B 76).alloc (.cells #[.pointer (some ⟨pg, 0, none⟩), .int .i64 S, .int .i64 0, .int .i64 0, .int .i64 0, .int .i64 0, .int .i64 0, .int .i64 0, .int .i64 0, .int .i64 0, .int .i64 0, .int .i64 0, .int .i64 0, .int .i64 0, .int .i64 0, .int .i64 0, .int .i64 0, .int .i64 0, .int .i64 0, nilP, .int .i64 0, .int .i64 0, .int .i64 0, .map (some w1.heap.size), .slice (some ⟨w1.heap.size + 1, 0, none⟩) B B, .int .i64 0] 80))
  simp only [World.size_alloc] at r0 rO
  have fa : Below (w1.alloc (.map #[] 0)).heap.size (w1.alloc (.map #[] 0)) (((w1.alloc (.map #[] 0)).alloc (.cells (madeCells #[nilP] B) 76)).alloc (.cells #[.pointer (some ⟨pg, 0, none⟩), .int .i64 S, .int .i64 0, .int .i64 0, .int .i64 0, .int .i64 0, .int .i64 0, .int .i64 0, .int .i64 0, .int .i64 0, .int .i64 0, .int .i64 0, .int .i64 0, .int .i64 0, .int .i64 0, .int .i64 0, .int .i64 0, .int .i64 0, .int .i64 0, nilP, .int .i64 0, .int .i64 0, .int .i64 0, .map (some w1.heap.size), .slice (some ⟨w1.heap.size + 1, 0, none⟩) B B, .int .i64 0] 80)) := ((Below.refl _ _).alloc (Nat.le_refl _) _).alloc (by simp) _
  have hg := (Groups.made w1 (w1.heap.size + 1) (fun z => w1.heap.size ≤ z ∧ z < w1.heap.size + 3)).chg (Chg.of_below (fun _ => False) fa) id (fun _ _ _ _ t => t)
  have hs1 := f1.size
  go_ret
  refine ⟨⟨w1.heap.size + 1 + 1, w1.heap.size + 1, w1.heap.size, pg, S, B⟩, fun z => w1.heap.size ≤ z ∧ z < w1.heap.size + 3, rfl, rfl, rfl, rfl, ⟨r0, own_nil_row rO, hg, ?_, ?_, ?_, ?_, ?_, ?_, ?_⟩, fun z hz => by omega, ?_⟩
  · intro x hx; cases hx
  · exact ⟨(fun x hx => by cases hx), (fun x hx => by cases hx), (fun x hx => by cases hx), (fun x hx => by cases hx), (fun x hx => by cases hx), (fun x hx => by cases hx), (fun x hx => by cases hx), List.nodup_nil, (fun x hx => by cases hx), (fun x hx => by cases hx), hS, ⟨hB1, hB2⟩⟩
  · show w1.heap.size ≤ w1.heap.size + 1 + 1 ∧ w1.heap.size + 1 + 1 < w1.heap.size + 3; omega
  · show w1.heap.size ≤ w1.heap.size + 1 ∧ w1.heap.size + 1 < w1.heap.size + 3; omega
  · show w1.heap.size ≤ w1.heap.size ∧ w1.heap.size < w1.heap.size + 3; omega
  · intro x hx; cases hx
  · intro z hz; simp; omega
  · exact ((f1.alloc hs1 _).alloc (by simp; omega) _).alloc (by simp; omega) _
end Go.Proofs.Ytaalinlggjimcaa
