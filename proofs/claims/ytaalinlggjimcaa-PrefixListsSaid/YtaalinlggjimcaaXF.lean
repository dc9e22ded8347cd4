import Derived.Test.YtaalinlggjimcaaXE
namespace Go.Proofs.Ytaalinlggjimcaa
open Go.RowKit
/-! cut. -/
theorem Chg.cell {w w' : World} {T : Nat → Prop} (h : Chg w w' T) {b o : Nat} {v : Value} (hc : w.cell? ⟨b, o, none⟩ = some v) (hb : ¬ T b) : w'.cell? ⟨b, o, none⟩ = some v := by
  rw [← hc]; unfold World.cell?; rw [h.block b (lt_of_cell hc) hb]
def cutI (t : Nat → Int) (S : Nat) (j : Nat) : Int := if j % 16 < S then t (j / 16 * S + j % 16) else 0
def cutF (t : Nat → Int) (S : Nat) : Nat → Value := fun j => .int .i64 (cutI t S j)
theorem infoPc : (Try.prog.info? 73).map (fun i => (i.zero, i.size, i.bytes)) = some (some (.agg (Array.replicate 16 (.int .i64 0))), 16, 128) := by kernel_rfl
theorem sizeI : (Try.prog.info? 3).map (·.size) = some 1 := by kernel_rfl
theorem made16 (w : World) (m : Nat) (t : TypeId) : (w.alloc (.cells (madeCells (Array.replicate 16 (.int .i64 0)) (m * 16)) t)).rowIs w.heap.size t (m * 16) (fun _ => .int .i64 0) :=
  ⟨_, Go.Deep.blk_alloc_new _ _, size_madeCells _ _, fun i hi => by
    have : i % 16 < 16 := Nat.mod_lt _ (by decide)
    simp [madeCells, hi, this]⟩
theorem run_make_pieces (m : Nat) (hm : m ≤ 256) (w : World) : (Instr.makeSlice 82 (.int .i64 (m : Int)) (.int .i64 (m : Int))).run Try.prog w = .ok (.slice (some ⟨w.heap.size, 0, none⟩) m m) (w.alloc (.cells (madeCells (Array.replicate 16 (.int .i64 0)) (m * 16)) 73)) := by
  obtain ⟨i, hi, z0, z1, z2⟩ := info_parts infoPc
  have hr := run_make (P := Try.prog) w 82 73 i _ Try.underlying82 hi z0 .i64 .i64 m m (by omega) (Int.le_refl _) (by rw [z2]; omega) (by omega)
  simp only [Int.toNat_natCast, z1] at hr
  exact hr
theorem cutF_step {t : Nat → Int} {S k j : Nat} (hS : S ≤ 16) (v : Nat → Value) (hv : ∀ i, i < S → v i = .int .i64 (t (k * S + i))) :
    (if k * 16 ≤ j ∧ j < k * 16 + S then v (j - k * 16) else if j < k * 16 then cutF t S j else .int .i64 0) = if j < (k + 1) * 16 then cutF t S j else .int .i64 0 := by
  by_cases h1 : j < k * 16
  · rw [if_neg (by omega), if_pos h1, if_pos (by omega)]
  · by_cases h2 : j < (k + 1) * 16
    · unfold cutF cutI
      have e1 : j / 16 = k := by omega
      have e2 : j % 16 = j - k * 16 := by omega
      rw [if_pos h2, e1, e2]
      by_cases h3 : j < k * 16 + S
      · rw [if_pos ⟨by omega, h3⟩, if_pos (by omega), hv _ (by omega)]
      · rw [if_neg (by omega), if_neg h1, if_neg (by omega)]
    · rw [if_neg (by omega), if_neg h1, if_neg h2]
theorem slice_piece {S : Nat} (hS : S ≤ 16) (b o : Nat) (w : World) : (Instr.sliceAt 73 (.pointer (some ⟨b, o, none⟩)) none (some (.int .i64 (S : Int))) none).run Try.prog w = .ok (.slice (some ⟨b, o, none⟩) S 16) w := by
  have e1 : Try.prog.arrayLen 73 = 16 := by kernel_rfl
  have e2 : Try.prog.elem 73 = 3 := by kernel_rfl
  obtain ⟨i, hi, _, z1, _⟩ := info_parts infoI
  rw [run_sliceAt_array_h w 73 ⟨b, o, none⟩ (by rw [e1, e2]; exact Try.underlying73) .i64 (S : Int) (by omega) (by rw [e1]; omega)]
  simp [e1, e2, sizeOf, typeInfo, hi, z1, slicedAt, Addr.add]
set_option maxRecDepth 20000 in
set_option maxHeartbeats 1600000 in
theorem cut_any {w : World} {to : Option Addr} {T cap S most m : Nat} {t : Nat → Int} (ht : RdA w to 1 T cap (fun i => .int .i64 (t i))) (hS : 1 ≤ S ∧ S ≤ 16) (hmost : most ≤ 256) (hm : m = min (T / S) most) :
    Calls Try.prog 36 #[.slice to T cap, .int .i64 S, .int .i64 most] w fun e w' => ∃ g, e = .returned (.slice (some ⟨g, 0, none⟩) m m) ∧ w'.rowIs g 73 (m * 16) (cutF t S) ∧ w.heap.size ≤ g ∧ Below w.heap.size w w' := by
  obtain ⟨hS1, hS2⟩ := hS
  have hT : T ≤ 9223372036854775807 := by have := ht.le; have := ht.top; unfold maxLen at this; omega
  have hm2 : m ≤ 256 := by omega
  have hmT : m * S ≤ T := by
    have h1 : m ≤ T / S := by omega
    have := Nat.mul_le_mul_right S h1
    have := Nat.div_mul_le_self T S
    omega
  have hz : ¬ (S : Int) = 0 := by omega
  have hq : ((T : Int).tdiv (S : Int)) = ((T / S : Nat) : Int) := by rw [Int.tdiv_eq_ediv_of_nonneg (by omega)]; push_cast; rfl
  have hmk := run_make_pieces m hm2
  have hsl := slice_piece hS2
  obtain ⟨q, hqq⟩ : ∃ q, q = T / S := ⟨_, rfl⟩
  rw [← hqq] at hq hm
  have hqle : q ≤ T := by rw [hqq]; exact Nat.div_le_self _ _
  have R0 := made16 w m 73
  have f0 := fresh_alloc w (.cells (madeCells (Array.replicate 16 (.int .i64 0)) (m * 16)) 73)
  clear hqq
  by_cases hc : most < q
  · obtain rfl : m = most := by omega
    clear hm
    go_enter Try.func36, Try.ntmps36
    go_wp2
    clear hmk
    go_loopw [8, 18] (fun _ i wr => ∃ k : Nat, k ≤ m ∧ i = .int .i64 k ∧ wr.rowIs w.heap.size 73 (m * 16) (fun j => if j < k * 16 then cutF t S j else .int .i64 0) ∧ Below w.heap.size w wr) (fun _ i _ => m - (intOf i).toNat)
    case atStart => exact ⟨0, by omega, rfl, R0.congr (fun j _ => by simp), f0⟩
    case round =>
      clear R0 f0
      obtain ⟨k, hk, rfl, hrow, hf⟩ := hrel
      by_cases hlt : k < m
      · have hkS : k * S + S ≤ T := by
          have := Nat.mul_le_mul_right S (show k + 1 ≤ m from hlt)
          rw [Nat.add_mul] at this
          omega
        obtain ⟨b2, o2, rfl, h2'⟩ := ht.one (by omega)
        have hb2 : b2 < w.heap.size := lt_of_cell (h2' 0 (by omega))
        have h2 := fun j hj => fresh_cell hf (h2' j hj)
        have hnb : ¬ b2 = w.heap.size := by omega
        obtain ⟨ks, hks⟩ : ∃ ks, ks = k * S := ⟨_, rfl⟩
        have e1 : (k : Int) * (S : Int) = (ks : Int) := by rw [hks]; push_cast; rfl
        have HV := hidd (show ∀ j, j < S → wr.drew.cell? ⟨b2, o2 + ks + j, none⟩ = some (.int .i64 (t (k * S + j))) from fun j hj => fresh_cell (Below.refl _ wr).drew (by rw [← hks, Nat.add_assoc]; exact h2 (ks + j) (by omega)))
        rw [← hks] at hkS
        have HMIN : Hid (S = Nat.min (T - ks) S) := by show S = min (T - ks) S; omega
        have hcap := ht.le
        have c3 : wr.cell? ⟨b2, o2 + ks, none⟩ = some (.int .i64 (t ks)) := h2 ks (by omega)
        have HROW := hidd hrow.drew
        obtain ⟨kk, hkk⟩ : ∃ kk, kk = k * 16 := ⟨_, rfl⟩
        have HKK := hidd hkk
        have e16 : k * 16 = kk := hkk.symm
        have HFIT : Hid (kk + S ≤ m * 16) := by show _ ≤ _; omega
        have hfr := hrow.frozen
        clear h2 h2' hks hrow hkk
        have i0 : (0 : Int) ≤ (ks : Int) := by omega
        have i1 : (ks : Int) ≤ (T : Int) := by omega
        have i2 : ¬ cap = ks := by omega
        have hwr : IntKind.i64.wrap (ks : Int) = (ks : Int) := wrap_small _ (by omega) (by omega)
        go_wp2
        go_region_held3 (fun w' => w'.cell? ⟨b2, o2 + ks, none⟩ = some (.int .i64 (t ks)))
          (first | (with_reducible exact c3) | (with_reducible exact c9) | go_keep)
          (first
            | (refine step_copyR (by rfl) _ _ 22 22 (by rfl) 3 Try.underlying22 sizeI w.heap.size kk S 16 b2 (o2 + ks) (T - ks) (cap - ks) S (by rfl) (by rfl) HMIN.out 73 (m * 16) _ HROW.out HFIT.out (fun j => .int .i64 (t (k * S + j))) HV.out (fun _ _ => rfl) ?_; intro w9 hr9 hc9; have c9 := hc9.cell (fresh_cell (Below.refl _ wr).drew c3) hnb))
        all_goals
          go_wp2
          go_roundw
          case rel => exact ⟨k + 1, by omega, by go_num, hr9.congr (fun j _ => by rw [HKK.out]; exact cutF_step hS2 _ (fun _ _ => rfl)), hc9.below hf.drew (by have := hf.size; simpa using this) (fun x e => by rw [e]; exact Nat.le_refl _)⟩
          case measure => simp [intOf]; omega
      · obtain rfl : k = m := by omega
        go_wp2
        go_ret
        exact ⟨_, rfl, hrow.congr (fun j hj => by rw [if_pos hj]), Nat.le_refl _, hf⟩
  · obtain rfl : m = q := by omega
    clear hm
    go_enter Try.func36, Try.ntmps36
    go_wp2
    clear hmk
    go_loopw [8, 18] (fun _ i wr => ∃ k : Nat, k ≤ m ∧ i = .int .i64 k ∧ wr.rowIs w.heap.size 73 (m * 16) (fun j => if j < k * 16 then cutF t S j else .int .i64 0) ∧ Below w.heap.size w wr) (fun _ i _ => m - (intOf i).toNat)
    case atStart => exact ⟨0, by omega, rfl, R0.congr (fun j _ => by simp), f0⟩
    case round =>
      clear R0 f0
      obtain ⟨k, hk, rfl, hrow, hf⟩ := hrel
      by_cases hlt : k < m
      · have hkS : k * S + S ≤ T := by
          have := Nat.mul_le_mul_right S (show k + 1 ≤ m from hlt)
          rw [Nat.add_mul] at this
          omega
        obtain ⟨b2, o2, rfl, h2'⟩ := ht.one (by omega)
        have hb2 : b2 < w.heap.size := lt_of_cell (h2' 0 (by omega))
        have h2 := fun j hj => fresh_cell hf (h2' j hj)
        have hnb : ¬ b2 = w.heap.size := by omega
        obtain ⟨ks, hks⟩ : ∃ ks, ks = k * S := ⟨_, rfl⟩
        have e1 : (k : Int) * (S : Int) = (ks : Int) := by rw [hks]; push_cast; rfl
        have HV := hidd (show ∀ j, j < S → wr.drew.cell? ⟨b2, o2 + ks + j, none⟩ = some (.int .i64 (t (k * S + j))) from fun j hj => fresh_cell (Below.refl _ wr).drew (by rw [← hks, Nat.add_assoc]; exact h2 (ks + j) (by omega)))
        rw [← hks] at hkS
        have HMIN : Hid (S = Nat.min (T - ks) S) := by show S = min (T - ks) S; omega
        have hcap := ht.le
        have c3 : wr.cell? ⟨b2, o2 + ks, none⟩ = some (.int .i64 (t ks)) := h2 ks (by omega)
        have HROW := hidd hrow.drew
        obtain ⟨kk, hkk⟩ : ∃ kk, kk = k * 16 := ⟨_, rfl⟩
        have HKK := hidd hkk
        have e16 : k * 16 = kk := hkk.symm
        have HFIT : Hid (kk + S ≤ m * 16) := by show _ ≤ _; omega
        have hfr := hrow.frozen
        clear h2 h2' hks hrow hkk
        have i0 : (0 : Int) ≤ (ks : Int) := by omega
        have i1 : (ks : Int) ≤ (T : Int) := by omega
        have i2 : ¬ cap = ks := by omega
        have hwr : IntKind.i64.wrap (ks : Int) = (ks : Int) := wrap_small _ (by omega) (by omega)
        go_wp2
        go_region_held3 (fun w' => w'.cell? ⟨b2, o2 + ks, none⟩ = some (.int .i64 (t ks)))
          (first | (with_reducible exact c3) | (with_reducible exact c9) | go_keep)
          (first
            | (refine step_copyR (by rfl) _ _ 22 22 (by rfl) 3 Try.underlying22 sizeI w.heap.size kk S 16 b2 (o2 + ks) (T - ks) (cap - ks) S (by rfl) (by rfl) HMIN.out 73 (m * 16) _ HROW.out HFIT.out (fun j => .int .i64 (t (k * S + j))) HV.out (fun _ _ => rfl) ?_; intro w9 hr9 hc9; have c9 := hc9.cell (fresh_cell (Below.refl _ wr).drew c3) hnb))
        all_goals
          go_wp2
          go_roundw
          case rel => exact ⟨k + 1, by omega, by go_num, hr9.congr (fun j _ => by rw [HKK.out]; exact cutF_step hS2 _ (fun _ _ => rfl)), hc9.below hf.drew (by have := hf.size; simpa using this) (fun x e => by rw [e]; exact Nat.le_refl _)⟩
          case measure => simp [intOf]; omega
      · obtain rfl : k = m := by omega
        go_wp2
        go_ret
        exact ⟨_, rfl, hrow.congr (fun j hj => by rw [if_pos hj]), Nat.le_refl _, hf⟩
end Go.Proofs.Ytaalinlggjimcaa
