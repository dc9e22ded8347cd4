import Derived.Test.YtppcgfdogacmkaaQE
import Derived.Test.YtppcgfdogacmkaaPN
namespace Go.Proofs.Ytppcgfdogacmkaa
open Go.RowKit
/-! mayMove. -/
/-- the cells of a list of moves -/
def mcs (F T : Nat → Nat) : Nat → Value := fun j => if j % 2 = 0 then .int .i64 (F (j / 2)) else .int .i64 (T (j / 2))
theorem mcs0 (F T : Nat → Nat) (i : Nat) : mcs F T (i * 2) = .int .i64 (F i) := by
  unfold mcs; rw [if_pos (by omega), show i * 2 / 2 = i by omega]
theorem mcs1 (F T : Nat → Nat) (i : Nat) : mcs F T (i * 2 + 1) = .int .i64 (T i) := by
  unfold mcs; rw [if_neg (by omega), show (i * 2 + 1) / 2 = i by omega]
theorem RdA.moves {w : World} {ao : Option Addr} {n cap : Nat} {F T : Nat → Nat} (h : RdA w ao 2 n cap (mcs F T)) (hn : 0 < n) : ∃ b off, ao = some ⟨b, off, none⟩ ∧ ∀ i, i < n → w.cell? ⟨b, off + i * 2, none⟩ = some (.int .i64 (F i)) ∧ w.cell? ⟨b, off + i * 2 + 1, none⟩ = some (.int .i64 (T i)) := by
  obtain ⟨b, off, rfl, hc⟩ := h.at_ hn
  refine ⟨b, off, rfl, fun i hi => ⟨?_, ?_⟩⟩
  · rw [hc (i * 2) (by omega), mcs0]
  · rw [show off + i * 2 + 1 = off + (i * 2 + 1) by omega, hc (i * 2 + 1) (by omega), mcs1]
theorem mul_lt_cap {n B S : Nat} (hB : 1 ≤ B ∧ B ≤ 256) (hS : 1 ≤ S ∧ S ≤ 16) (h : n = B * S) : 1 ≤ n ∧ n ≤ 4096 := by
  subst h
  have h1 := Nat.mul_le_mul hB.1 hS.1
  have h2 := Nat.mul_le_mul hB.2 hS.2
  omega
theorem row2m (w : World) (t : TypeId) (a b : Value) : (w.alloc (.cells #[a, b] t)).cell? ⟨w.heap.size, 0, none⟩ = some a ∧ (w.alloc (.cells #[a, b] t)).cell? ⟨w.heap.size, 1, none⟩ = some b := by
  constructor <;> simp
set_option maxRecDepth 20000 in
set_option maxHeartbeats 2000000 in
theorem mayMove_ok {w : World} {g cb nb L W B S : Nat} {cnt : Nat → Nat} {num : Nat → Int} (h : PoolAt w g cb nb L W B S cnt num) {ao : Option Addr} {n cap : Nat} {F T : Nat → Nat} (hl : RdA w ao 2 n cap (mcs F T)) (hF : ∀ i, i < n → F i < B * S ∧ cnt (F i / S) ≠ 0) (hT : ∀ i, i < n → T i < B * S ∧ cnt (T i / S) ≠ 0) (hd : ∀ i j, i < j → j < n → T i ≠ T j) :
    Calls Try.prog 39 #[.pointer (some ⟨g, 0, none⟩), .slice ao n cap] w fun e w' => e = .returned (.bool true) ∧ Below w.heap.size w w' := by
  have hn : n ≤ 9223372036854775807 := by have := hl.le; have := hl.top; unfold maxLen at this; omega
  obtain ⟨_, _, c2, c3, _⟩ := h.cells
  have hB := h.hB
  have hS := h.hS
  obtain ⟨R, hR⟩ : ∃ R, R = B * S := ⟨_, rfl⟩
  have hRb := mul_lt_cap hB hS hR
  have e1 : (B : Int) * (S : Int) = (R : Int) := by rw [hR]; push_cast; rfl
  have HR := hidd hR
  rw [← hR] at hF hT
  obtain ⟨iB, hiB, zB0, zB1, zB2⟩ := info_parts infoB
  have hmk : ∀ w, (Instr.makeSlice 120 (.int .i64 (R : Int)) (.int .i64 (R : Int))).run Try.prog w = .ok (.slice (some ⟨w.heap.size, 0, none⟩) R R) (w.alloc (.cells (madeCells #[.bool false] R) 4)) := run_make_row 120 4 iB (.bool false) Try.underlying120 hiB zB0 zB1 rfl .i64 .i64 R (by rw [zB2]; omega) (by omega)
  clear hiB zB0 zB1 zB2 hR
  have H := hidd h
  have HF := hidd hF
  have HT := hidd hT
  have HD := hidd hd
  clear h hF hT hd
  go_enter Try.func39, Try.ntmps39
  go_wp2
  go_region
  have R0 := hidd (World.rowIs_made w (.bool false) R 4).drew
  have F0 := hidd (fresh_alloc w (.cells (madeCells #[.bool false] R) 4)).drew
  generalize (w.alloc (.cells (madeCells #[.bool false] R) 4)).drew = w1 at *
  go_wp2
  go_loopw [21] (fun i wr => ∃ (k : Nat) (mk : Nat → Bool), k ≤ n ∧ i = .int .i64 k ∧ wr.rowIs w.heap.size 4 R (fun j => .bool (mk j)) ∧ Hid (∀ i, k ≤ i → i < n → mk (T i) = false) ∧ Below w.heap.size w wr) (fun i _ => n - (intOf i).toNat)
  case atStart => exact ⟨0, fun _ => false, by omega, rfl, R0.out, fun _ _ _ => rfl, F0.out⟩
  case round =>
    clear hmk R0 F0 w1
    obtain ⟨k, mk, hk, rfl, hrow, HM, hb⟩ := hrel
    by_cases hlt : k < n
    · obtain ⟨b1, o1, rfl, h1⟩ := (hl.fresh hb).moves (by omega)
      obtain ⟨d1, d2⟩ := h1 k hlt
      have hFk := HF.out k hlt
      have hTk := HT.out k hlt
      have hbs := hb.size
      have HUF : Hid (∀ z, Below w.heap.size w z → Calls Try.prog 71 #[.pointer (some ⟨g, 0, none⟩), .int .i64 (F k : Nat)] z fun e w' => e = .returned (.bool true) ∧ w' = z) := fun z f => usesSlot_yes (H.out.fresh f) (by omega) (slot_in (by rw [← HR.out]; exact hFk.1) hS.1).1 hFk.2
      have HUT : Hid (∀ z, Below w.heap.size w z → Calls Try.prog 71 #[.pointer (some ⟨g, 0, none⟩), .int .i64 (T k : Nat)] z fun e w' => e = .returned (.bool true) ∧ w' = z) := fun z f => usesSlot_yes (H.out.fresh f) (by omega) (slot_in (by rw [← HR.out]; exact hTk.1) hS.1).1 hTk.2
      have hTR := hTk.1
      have hbA := hb.alloc hbs (.cells #[.int .i64 (F k : Nat), .int .i64 (T k : Nat)] 42)
      have rA := hrow.alloc (.cells #[.int .i64 (F k : Nat), .int .i64 (T k : Nat)] 42)
      have hm := rA.cell (i := T k) hTR
      rw [HM.out k (Nat.le_refl _) hlt] at hm
      have fz := rA.frozen
      obtain ⟨x1, x2⟩ := row2m wr 42 (.int .i64 (F k : Nat)) (.int .i64 (T k : Nat))
      have HM2 : Hid (∀ i, k + 1 ≤ i → i < n → (if T i = T k then true else mk (T i)) = false) := fun i h1 h2 => by
        rw [if_neg (HD.out k i (by omega) h2).symm]; exact HM.out i (by omega) h2
      have HRA := hidd rA
      clear h1 hrow rA hFk hTk
      generalize F k = y1 at *
      generalize hy2 : T k = y2 at *
      clear hy2
      go_upto_region 5 with fail
      generalize wr.alloc (.cells #[.int .i64 (y1 : Int), .int .i64 (y2 : Int)] 42) = w2 at *
      go_wp2_with (first
        | (go_at_call 71; with_reducible refine (HUF.out _ hbA).mono ?_; rintro e w9 ⟨rfl, h9⟩; rw [h9]; clear h9 HUF)
        | (go_at_call 71; with_reducible refine (HUT.out _ hbA).mono ?_; rintro e w9 ⟨rfl, h9⟩; rw [h9]; clear h9 HUT))
      go_roundw
      case rel =>
        refine ⟨k + 1, fun j => if j = y2 then true else mk j, by omega, by go_num, (HRA.out.set y2 _).congr (fun j _ => ?_), HM2.out, hbA.setCell (Nat.le_refl _) _⟩
        by_cases e : j = y2
        · simp [e]
        · simp [e]
      case measure => simp [intOf]; omega
    · go_wp2
      go_ret
      exact ⟨rfl, hb⟩
end Go.Proofs.Ytppcgfdogacmkaa
