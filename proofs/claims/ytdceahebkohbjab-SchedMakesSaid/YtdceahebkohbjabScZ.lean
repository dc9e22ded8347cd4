import Derived.Test.YtdceahebkohbjabScY
namespace Go.Proofs.Ytdceahebkohbjab
open Go.RowKit
/-! seat, greatest. -/
theorem seC_set5 {w : World} {g : Nat} {t : TypeId} {f : Nat → Value} (h : w.rowIs g t 5 f) (s : Se) : (((((w.setCell ⟨g, 0, none⟩ (.int .i64 s.id)).setCell ⟨g, 1, none⟩ (.int .i64 s.kn)).setCell ⟨g, 2, none⟩ (.int .i64 s.ca)).setCell ⟨g, 3, none⟩ (.int .i64 s.wa)).setCell ⟨g, 4, none⟩ (.slice s.ho s.hn s.hc)).rowIs g t 5 (seC s) :=
  (((((h.set 0 _).set 1 _).set 2 _).set 3 _).set 4 _).congr (fun j hj => by
    have : j = 0 ∨ j = 1 ∨ j = 2 ∨ j = 3 ∨ j = 4 := by omega
    rcases this with rfl | rfl | rfl | rfl | rfl <;> rfl)
theorem size_seat : (Try.prog.info? 32).map (·.size) = some 5 := by kernel_rfl
theorem ret_seat {fn : Func} {p u : Tmp} (h : fn.results = #[.cell p 32, .tmp u]) (tmps : Array Value) (w : World) (g : Nat) (s : Se) (v : Value) (hp : tmps.getD p undef = .pointer (some ⟨g, 0, none⟩)) (hr : w.rowIs g 32 5 (seC s)) (hv : tmps.getD u undef = v) :
    (results fn tmps).run Try.prog w = .ok (.tuple #[seV s, v]) w := by
  rw [results_cell_tmp h, hp, hv]
  have hrg : w.rangeAt g 0 (enS s) := fun j x hj => by
    match j, hj with
    | 0, hj => simp [enS] at hj; subst hj; exact hr.cell (i := 0) (by decide)
    | 1, hj => simp [enS] at hj; subst hj; exact hr.cell (i := 1) (by decide)
    | 2, hj => simp [enS] at hj; subst hj; exact hr.cell (i := 2) (by decide)
    | 3, hj => simp [enS] at hj; subst hj; exact hr.cell (i := 3) (by decide)
    | 4, hj => simp [enS] at hj; subst hj; exact hr.cell (i := 4) (by decide)
  simp [asAddr, run_loadVar_mid w g 0 32 (enS s) _ hrg Try.underlying32 rfl size_seat]
  rfl
theorem seat_new (w : World) : (w.alloc (.cells #[.int .i64 0, .int .i64 0, .int .i64 0, .int .i64 0, .slice none 0 0] 32)).rowIs w.heap.size 32 5 (seC ⟨0, 0, 0, 0, none, 0, 0, fun _ => 0⟩) :=
  World.rowIs_alloc w #[.int .i64 0, .int .i64 0, .int .i64 0, .int .i64 0, .slice none 0 0] 32 _ (fun i hi => by
    simp at hi
    have : i = 0 ∨ i = 1 ∨ i = 2 ∨ i = 3 ∨ i = 4 := by omega
    rcases this with rfl | rfl | rfl | rfl | rfl <;> rfl)
set_option maxRecDepth 20000 in
set_option maxHeartbeats 1600000 in
theorem seat_any {w : World} {ao : Option Addr} {n cap : Nat} {S : Nat → Se} (h : RdA w ao 5 n cap (seF S)) {q : Nat} (hq : q < n) (hu : ∀ j, j < q → ¬ (S j).id = (S q).id) {x : Int} (hx : x = (S q).id) :
    Calls Try.prog 8 #[.slice ao n cap, .int .i64 x] w fun e w' => e = .returned (.tuple #[seV (S q), .bool true]) ∧ Below w.heap.size w w' := by
  have hn : n ≤ 9223372036854775807 := by have := h.le; have := h.top; unfold maxLen at this; omega
  have HF := hidd (fresh_alloc w (.cells #[.int .i64 0, .int .i64 0, .int .i64 0, .int .i64 0, .slice none 0 0] 32))
  have HR := hidd (seat_new w)
  have HA := hidd (h.fresh HF.out)
  have HU : Hid (∀ j, j < q → ¬ (S j).id = x) := by rw [hx]; exact hu
  have HX := hidd hx
  clear h hu hx
  go_enter Try.func8, Try.ntmps8
  go_wp2
  go_loopw [6] (fun i wr => ∃ m : Nat, m ≤ q ∧ i = .int .i64 m ∧ Same (w.alloc (.cells #[.int .i64 0, .int .i64 0, .int .i64 0, .int .i64 0, .slice none 0 0] 32)) wr) (fun i _ => n - (intOf i).toNat)
  case atStart => exact ⟨0, by omega, rfl, rfl⟩
  case round =>
    obtain ⟨m, hm, rfl, hs⟩ := hrel
    unfold Same at hs
    subst hs
    have hlt : m < n := by omega
    obtain ⟨b1, o1, rfl, h1⟩ := HA.out.seat (by omega)
    obtain ⟨c0, c1, c2, c3, c4⟩ := h1 m (by omega)
    have HR2 := HR
    have g0 := HR2.out.cell (i := 0) (by decide)
    have g1 := HR2.out.cell (i := 1) (by decide)
    have g2 := HR2.out.cell (i := 2) (by decide)
    have g3 := HR2.out.cell (i := 3) (by decide)
    have g4 := HR2.out.cell (i := 4) (by decide)
    have gf := HR2.out.frozen
    clear h1
    generalize (w.alloc (.cells #[.int .i64 0, .int .i64 0, .int .i64 0, .int .i64 0, .slice none 0 0] 32)) = w1 at *
    by_cases e : m = q
    · subst e
      have HX2 := HX.out
      rw [← HX2] at c0
      have HLB := HF
      go_wp2
      refine bodyPost_ret (ret_seat rfl _ _ (w.heap.size) (S m) _ rfl (seC_set5 HR2.out (S m)) rfl) rfl ?_
      exact ⟨rfl, ((((HF.out.setCell (by simp) _).setCell (by simp) _).setCell (by simp) _).setCell (by simp) _).setCell (by simp) _⟩
    · have E := hidd (HU.out m (by omega))
      have e' := E.out
      go_wp2
      go_roundw
      case rel => exact ⟨m + 1, by omega, by go_num, (rfl : _ = _)⟩
      case measure => simp [intOf]; omega
set_option maxRecDepth 20000 in
theorem greatest_any (w : World) (x y : Int) : Calls Try.prog 7 #[.int .i64 x, .int .i64 y] w fun e w' => e = .returned (.int .i64 (max x y)) ∧ w' = w := by
  by_cases h : y < x
  · rw [Int.max_eq_left (by omega)]
    go_enter Try.func7, Try.ntmps7
    go_wp2
    go_ret
    exact ⟨rfl, rfl⟩
  · rw [Int.max_eq_right (by omega)]
    go_enter Try.func7, Try.ntmps7
    go_wp2
    go_ret
    exact ⟨rfl, rfl⟩
end Go.Proofs.Ytdceahebkohbjab
