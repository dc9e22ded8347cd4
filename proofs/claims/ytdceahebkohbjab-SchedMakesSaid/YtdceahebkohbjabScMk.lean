import Derived.Test.YtdceahebkohbjabScRm2
import Derived.Deep.OwnRows
namespace Go.Proofs.Ytdceahebkohbjab
open Go.RowKit
/-! The law's marked and still, for lists of ints. -/
def mkd (f : Nat → Int) (n : Nat) : Nat → Int := fun i => if i < n then f i else -123456
theorem rowIs_rdM {w : World} {b n cap : Nat} {t : TypeId} {f : Nat → Value} (h : w.rowIs b t cap f) (hn : n ≤ cap) (hc : cap ≤ maxLen) : RdA w (some ⟨b, 0, none⟩) 1 n cap f :=
  ⟨hn, hc, fun _ => ⟨b, 0, rfl, fun j hj => by rw [Nat.zero_add]; exact h.cell (by omega)⟩⟩
theorem mkd_rd {w : World} {g n : Nat} {t : TypeId} {f : Nat → Int} (hr : w.rowIs g t (n + 64) (fun i => .int .i64 (mkd f n i))) (hn : n ≤ 17592186043904) : RdA w (some ⟨g, 0, none⟩) 1 n (n + 64) (fun i => .int .i64 (f i)) :=
  (rowIs_rdM hr (by omega) (by unfold maxLen; omega)).congr fun i hi => by rw [show mkd f n i = f i from if_pos (by omega)]
set_option maxRecDepth 20000 in
set_option maxHeartbeats 1600000 in
theorem marked_any {w : World} {ao : Option Addr} {n cap : Nat} {f : Nat → Int} (h : RdA w ao 1 n cap (fun i => .int .i64 (f i))) (hn : n ≤ 17592186043904) :
    Calls Try.prog 19 #[.slice ao n cap] w fun e w' => e = .returned (.slice (some ⟨w.heap.size, 0, none⟩) n (n + 64)) ∧ w'.rowIs w.heap.size 3 (n + 64) (fun i => .int .i64 (mkd f n i)) ∧ Below w.heap.size w w' := by
  obtain ⟨c, hc⟩ : ∃ c, c = n + 64 := ⟨_, rfl⟩
  have e1 : (n : Int) + 64 = (c : Int) := by omega
  have hmk := run_make_row' (P := Try.prog) 25 3 (.int .i64 0) 8 Try.underlying25 infoI rfl .i64 .i64 c (by omega) (by omega)
  have R0 := hidd (World.rowIs_made w (.int .i64 0) c 3)
  have f0 := fresh_alloc w (.cells (madeCells #[.int .i64 0] c) 3)
  have HCE := hidd hc
  rw [← hc]
  clear hc
  go_enter Try.func19, Try.ntmps19
  go_wp2
  clear hmk
  go_loopw [4] (fun i wr => ∃ k : Nat, k ≤ c ∧ i = .int .i64 k ∧ Hid (wr.rowIs w.heap.size 3 c (fun j => .int .i64 (if j < k then mkd f n j else 0))) ∧ Below w.heap.size w wr) (fun i _ => c - (intOf i).toNat)
  case atStart => exact ⟨0, by omega, rfl, R0.out, f0⟩
  case round =>
    clear R0 f0
    obtain ⟨k, hk, rfl, HR, hf⟩ := hrel
    have hsz := hf.size
    by_cases hlt : k < c
    · have c0 := HR.out.cell (i := k) hlt
      have fz := HR.out.frozen
      have r1 := HR.out.set k (.int .i64 (-123456))
      have c1 := r1.cell (i := k) hlt
      rw [if_pos rfl] at c1
      have fz1 := r1.frozen
      have HR1 := hidd r1
      have hf1 : Below w.heap.size w (wr.setCell ⟨w.heap.size, k, none⟩ (.int .i64 (-123456))) := hf.setCell (Nat.le_refl _) _
      clear r1
      have k0 : (0 : Int) ≤ (k : Int) := by omega
      have k1 : (k : Int) < (c : Int) := by omega
      by_cases hkn : k < n
      · have hd : decide ((k : Int) < (n : Int)) = true := by simp; omega
        have k2 : (k : Int) < (n : Int) := by omega
        obtain ⟨b1, o1, rfl, h1⟩ := h.one (by omega)
        have d := fresh_cell hf1 (h1 k hkn)
        clear h1
        have HR2 := hidd (HR1.out.set k (.int .i64 (f k)))
        have HV : Hid (mkd f n k = f k) := if_pos hkn
        generalize f k = y at d HR2 HV
        go_wp2
        go_roundw
        case rel =>
          refine ⟨k + 1, by omega, by go_num, HR2.out.congr (fun j hj => ?_), hf1.setCell (Nat.le_refl _) _⟩
          by_cases e : j = k
          · subst e
            rw [if_pos rfl, if_pos (by omega), HV.out]
          · rw [if_neg e, if_neg e]
            by_cases e2 : j < k
            · rw [if_pos e2, if_pos (by omega)]
            · rw [if_neg e2, if_neg (by omega)]
        case measure => simp [intOf]; omega
      · have hd : decide ((k : Int) < (n : Int)) = false := by simp; omega
        have HV : Hid (mkd f n k = -123456) := if_neg hkn
        go_wp2
        go_roundw
        case rel =>
          refine ⟨k + 1, by omega, by go_num, HR1.out.congr (fun j hj => ?_), hf1⟩
          by_cases e : j = k
          · subst e
            rw [if_pos rfl, if_pos (by omega), HV.out]
          · rw [if_neg e]
            by_cases e2 : j < k
            · rw [if_pos e2, if_pos (by omega)]
            · rw [if_neg e2, if_neg (by omega)]
        case measure => simp [intOf]; omega
    · obtain rfl : c = k := by omega
      have n0 : (0 : Int) ≤ (n : Int) := by omega
      have n1 : (n : Int) ≤ (c : Int) := by omega
      go_wp2
      go_ret
      exact ⟨rfl, HR.out.congr (fun j hj => by rw [if_pos hj]), hf⟩
set_option maxRecDepth 20000 in
set_option maxHeartbeats 1600000 in
theorem still_any {w : World} {ao : Option Addr} {n cap g : Nat} {f : Nat → Int} (h : RdA w ao 1 n cap (fun i => .int .i64 (f i))) (hr : w.rowIs g 3 (n + 64) (fun i => .int .i64 (mkd f n i))) (hn : n ≤ 17592186043904) :
    Calls Try.prog 21 #[.slice (some ⟨g, 0, none⟩) n (n + 64), .slice ao n cap] w fun e w' => e = .returned (.bool true) ∧ Below w.heap.size w w' := by
  obtain ⟨c, hc⟩ : ∃ c, c = n + 64 := ⟨_, rfl⟩
  have e1 : (n : Int) + 64 = (c : Int) := by omega
  rw [← hc] at hr ⊢
  have HR := hidd hr
  have hcn : n ≤ c := by omega
  have hcb : c ≤ 17592186043968 := by omega
  have n0 : (0 : Int) ≤ (c : Int) := by omega
  clear hr hc
  go_enter Try.func21, Try.ntmps21
  go_wp2
  go_loopw [6] (fun i wr => ∃ k : Nat, k ≤ c ∧ i = .int .i64 k ∧ Below w.heap.size w wr) (fun i _ => c - (intOf i).toNat)
  case atStart => exact ⟨0, by omega, rfl, Below.refl _ _⟩
  case round =>
    obtain ⟨k, hk, rfl, hf⟩ := hrel
    by_cases hlt : k < c
    · have c0 := fresh_cell hf (HR.out.cell (i := k) hlt)
      have k0 : (0 : Int) ≤ (k : Int) := by omega
      have k1 : (k : Int) < (c : Int) := by omega
      by_cases hkn : k < n
      · have hd : decide ((k : Int) < (n : Int)) = true := by simp; omega
        have hd2 : decide (n ≤ k) = false := by simp; omega
        have k2 : (k : Int) < (n : Int) := by omega
        obtain ⟨b1, o1, rfl, h1⟩ := (h.fresh hf).one (by omega)
        have d := h1 k hkn
        clear h1
        have HV : mkd f n k = f k := if_pos hkn
        rw [HV] at c0
        clear HV
        generalize f k = y at d c0
        go_wp2
        go_quiet (fail)
        go_wp2
        go_roundw
        case rel => exact ⟨k + 1, by omega, by go_num, below_drewN hf _⟩
        case measure => simp [intOf]; omega
      · have hd : decide ((k : Int) < (n : Int)) = false := by simp; omega
        have hd2 : decide (n ≤ k) = true := by simp; omega
        have HV : mkd f n k = -123456 := if_neg hkn
        rw [HV] at c0
        clear HV
        go_wp2
        go_quiet (fail)
        go_wp2
        go_roundw
        case rel => exact ⟨k + 1, by omega, by go_num, below_drewN hf _⟩
        case measure => simp [intOf]; omega
    · obtain rfl : c = k := by omega
      go_wp2
      go_ret
      exact ⟨rfl, hf⟩
end Go.Proofs.Ytdceahebkohbjab
