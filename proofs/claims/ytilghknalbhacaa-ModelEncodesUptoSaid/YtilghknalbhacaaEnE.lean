import Derived.Test.YtilghknalbhacaaEnD
import Derived.Deep.DeepCutAuto
namespace Go.Proofs.Ytilghknalbhacaa
open Go.RowKit
/-! Measures and turns as bytes, on both sides. -/
theorem row_keep {w w' : World} {g n : Nat} {t : TypeId} {f : Nat → Value} (h : w.rowIs g t n f) (k : Below w.heap.size w w') : w'.rowIs g t n f := h.of_block (k.block _ h.lt)
theorem own_newL (w : World) (L : List Int) (base : Nat) (hb : base ≤ w.heap.size) (hL : L.length ≤ 1073741824) : OwB (w.alloc (.cells (L.map (fun x => Value.int .u8 x)).toArray 5)) base (.slice (some ⟨w.heap.size, 0, none⟩) L.length L.length) L := by
  refine ⟨by simp, .inr ⟨w.heap.size, L.length, (L.map (fun x => Value.int .u8 x)).toArray, rfl, hb, ?_, Nat.le_refl _, by unfold maxLen; omega, by simp, ?_⟩⟩
  · show (w.heap.push _)[w.heap.size]? = _
    simp
  · refine List.ext_getElem? (fun i => ?_)
    by_cases hi : i < L.length
    · simp [hi, bV, List.getD_eq_getElem?_getD]
    · simp [hi]
def cfL (s0 s1 s2 s3 s4 s5 s6 s7 : Int) : List Int := [s0 % 256, s1 % 256, s2 % 256, s3 % 256, s4 % 256, s5 % 256, s6 % 256, s7 % 256]
theorem cfL_byt (s0 s1 s2 s3 s4 s5 s6 s7 : Int) : Byt (cfL s0 s1 s2 s3 s4 s5 s6 s7) := fun x hx => by
  simp only [cfL, List.mem_cons, List.not_mem_nil, or_false] at hx
  omega
set_option maxRecDepth 20000 in
set_option maxHeartbeats 4000000 in
theorem measures_any (w : World) (s0 s1 s2 s3 s4 s5 s6 s7 : Int) : Calls Try.prog 78 #[.agg #[.int .i64 s0, .int .i64 s1, .int .i64 s2, .int .i64 s3, .int .i64 s4, .int .i64 s5, .int .i64 s6, .int .i64 s7]] w fun e w' => ∃ v', e = .returned v' ∧ OwB w' w.heap.size v' (cfL s0 s1 s2 s3 s4 s5 s6 s7) ∧ Below w.heap.size w w' := by
  have f1 := fresh_alloc w (.cells #[.int .i64 s0, .int .i64 s1, .int .i64 s2, .int .i64 s3, .int .i64 s4, .int .i64 s5, .int .i64 s6, .int .i64 s7] 23)
  have f2 := fresh_alloc (w.alloc (.cells #[.int .i64 s0, .int .i64 s1, .int .i64 s2, .int .i64 s3, .int .i64 s4, .int .i64 s5, .int .i64 s6, .int .i64 s7] 23)) (.cells #[.int .u8 (s0 % 256), .int .u8 (s1 % 256), .int .u8 (s2 % 256), .int .u8 (s3 % 256), .int .u8 (s4 % 256), .int .u8 (s5 % 256), .int .u8 (s6 % 256), .int .u8 (s7 % 256)] 5)
  have hs : (w.alloc (.cells #[.int .i64 s0, .int .i64 s1, .int .i64 s2, .int .i64 s3, .int .i64 s4, .int .i64 s5, .int .i64 s6, .int .i64 s7] 23)).heap.size = w.heap.size + 1 := by simp
  have HO : Hid (OwB ((w.alloc (.cells #[.int .i64 s0, .int .i64 s1, .int .i64 s2, .int .i64 s3, .int .i64 s4, .int .i64 s5, .int .i64 s6, .int .i64 s7] 23)).alloc (.cells #[.int .u8 (s0 % 256), .int .u8 (s1 % 256), .int .u8 (s2 % 256), .int .u8 (s3 % 256), .int .u8 (s4 % 256), .int .u8 (s5 % 256), .int .u8 (s6 % 256), .int .u8 (s7 % 256)] 5)) w.heap.size (.slice (some ⟨w.heap.size + 1, 0, none⟩) 8 8) (cfL s0 s1 s2 s3 s4 s5 s6 s7)) := by
    have h9 := own_newL (w.alloc (.cells #[.int .i64 s0, .int .i64 s1, .int .i64 s2, .int .i64 s3, .int .i64 s4, .int .i64 s5, .int .i64 s6, .int .i64 s7] 23)) (cfL s0 s1 s2 s3 s4 s5 s6 s7) w.heap.size f1.size (by show 8 ≤ _; decide)
    rw [hs] at h9
    exact h9
  have HF := hidd (fresh_trans f1 f2)
  clear f1 f2 hs
  go_enter Try.func78, Try.ntmps78
  go_wp2
  go_ret
  exact ⟨_, rfl, HO.out, HF.out⟩
theorem idx8 (s0 s1 s2 s3 s4 s5 s6 s7 : Int) {k : Nat} (hk : k < 8) (w : World) : (Instr.index 100 (.agg #[.int .i64 s0, .int .i64 s1, .int .i64 s2, .int .i64 s3, .int .i64 s4, .int .i64 s5, .int .i64 s6, .int .i64 s7]) (.int .i64 (k : Int))).run Try.prog w = .ok (.int .i64 ([s0, s1, s2, s3, s4, s5, s6, s7].getD k 0)) w := by
  match k, hk with
  | 0, _ => exact (show (Instr.index 100 (.agg #[.int .i64 s0, .int .i64 s1, .int .i64 s2, .int .i64 s3, .int .i64 s4, .int .i64 s5, .int .i64 s6, .int .i64 s7]) (.int .i64 0)).run Try.prog w = .ok (.int .i64 s0) w by kernel_rfl)
  | 1, _ => exact (show (Instr.index 100 (.agg #[.int .i64 s0, .int .i64 s1, .int .i64 s2, .int .i64 s3, .int .i64 s4, .int .i64 s5, .int .i64 s6, .int .i64 s7]) (.int .i64 1)).run Try.prog w = .ok (.int .i64 s1) w by kernel_rfl)
  | 2, _ => exact (show (Instr.index 100 (.agg #[.int .i64 s0, .int .i64 s1, .int .i64 s2, .int .i64 s3, .int .i64 s4, .int .i64 s5, .int .i64 s6, .int .i64 s7]) (.int .i64 2)).run Try.prog w = .ok (.int .i64 s2) w by kernel_rfl)
  | 3, _ => exact (show (Instr.index 100 (.agg #[.int .i64 s0, .int .i64 s1, .int .i64 s2, .int .i64 s3, .int .i64 s4, .int .i64 s5, .int .i64 s6, .int .i64 s7]) (.int .i64 3)).run Try.prog w = .ok (.int .i64 s3) w by kernel_rfl)
  | 4, _ => exact (show (Instr.index 100 (.agg #[.int .i64 s0, .int .i64 s1, .int .i64 s2, .int .i64 s3, .int .i64 s4, .int .i64 s5, .int .i64 s6, .int .i64 s7]) (.int .i64 4)).run Try.prog w = .ok (.int .i64 s4) w by kernel_rfl)
  | 5, _ => exact (show (Instr.index 100 (.agg #[.int .i64 s0, .int .i64 s1, .int .i64 s2, .int .i64 s3, .int .i64 s4, .int .i64 s5, .int .i64 s6, .int .i64 s7]) (.int .i64 5)).run Try.prog w = .ok (.int .i64 s5) w by kernel_rfl)
  | 6, _ => exact (show (Instr.index 100 (.agg #[.int .i64 s0, .int .i64 s1, .int .i64 s2, .int .i64 s3, .int .i64 s4, .int .i64 s5, .int .i64 s6, .int .i64 s7]) (.int .i64 6)).run Try.prog w = .ok (.int .i64 s6) w by kernel_rfl)
  | 7, _ => exact (show (Instr.index 100 (.agg #[.int .i64 s0, .int .i64 s1, .int .i64 s2, .int .i64 s3, .int .i64 s4, .int .i64 s5, .int .i64 s6, .int .i64 s7]) (.int .i64 7)).run Try.prog w = .ok (.int .i64 s7) w by kernel_rfl)
set_option maxRecDepth 20000 in
set_option maxHeartbeats 4000000 in
theorem cfgB_any (w : World) (s0 s1 s2 s3 s4 s5 s6 s7 : Int) : Calls Try.prog 30 #[.agg #[.int .i64 s0, .int .i64 s1, .int .i64 s2, .int .i64 s3, .int .i64 s4, .int .i64 s5, .int .i64 s6, .int .i64 s7]] w fun e w' => ∃ v', e = .returned v' ∧ OwB w' w.heap.size v' (cfL s0 s1 s2 s3 s4 s5 s6 s7) ∧ Below w.heap.size w w' := by
  have f1 := fresh_alloc w (.cells #[.int .i64 s0, .int .i64 s1, .int .i64 s2, .int .i64 s3, .int .i64 s4, .int .i64 s5, .int .i64 s6, .int .i64 s7] 23)
  have HR : Hid ((w.alloc (.cells #[.int .i64 s0, .int .i64 s1, .int .i64 s2, .int .i64 s3, .int .i64 s4, .int .i64 s5, .int .i64 s6, .int .i64 s7] 23)).rowIs w.heap.size 23 8 (fun i => [.int .i64 s0, .int .i64 s1, .int .i64 s2, .int .i64 s3, .int .i64 s4, .int .i64 s5, .int .i64 s6, .int .i64 s7].getD i undef)) := by
    refine World.rowIs_alloc w #[.int .i64 s0, .int .i64 s1, .int .i64 s2, .int .i64 s3, .int .i64 s4, .int .i64 s5, .int .i64 s6, .int .i64 s7] 23 _ (fun i hi => ?_)
    match i, hi with
    | 0, _ => rfl
    | 1, _ => rfl
    | 2, _ => rfl
    | 3, _ => rfl
    | 4, _ => rfl
    | 5, _ => rfl
    | 6, _ => rfl
    | 7, _ => rfl
  have HIX : Hid (∀ (k : Nat), k < 8 → ∀ w : World, (Instr.index 100 (.agg #[.int .i64 s0, .int .i64 s1, .int .i64 s2, .int .i64 s3, .int .i64 s4, .int .i64 s5, .int .i64 s6, .int .i64 s7]) (.int .i64 (k : Int))).run Try.prog w = .ok (.int .i64 ([s0, s1, s2, s3, s4, s5, s6, s7].getD k 0)) w) := fun k hk w => idx8 s0 s1 s2 s3 s4 s5 s6 s7 hk w
  have HCF : Hid (∀ k, k < 8 → bV (cfL s0 s1 s2 s3 s4 s5 s6 s7) k = .int .u8 ([s0, s1, s2, s3, s4, s5, s6, s7].getD k 0 % 256)) := fun k hk => by
    match k, hk with
    | 0, _ => rfl
    | 1, _ => rfl
    | 2, _ => rfl
    | 3, _ => rfl
    | 4, _ => rfl
    | 5, _ => rfl
    | 6, _ => rfl
    | 7, _ => rfl
  obtain ⟨iu, hi, hz0, hz1, hz2⟩ := info_parts infoU8
  have HI := hidd hi
  have HZ0 := hidd hz0
  have HZ1 := hidd hz1
  have HZ2 := hidd hz2
  clear hi hz0 hz1 hz2
  go_enter Try.func30, Try.ntmps30
  go_upto_region 1 with fail
  generalize hwa : w.alloc (.cells #[.int .i64 s0, .int .i64 s1, .int .i64 s2, .int .i64 s3, .int .i64 s4, .int .i64 s5, .int .i64 s6, .int .i64 s7] 23) = wa at *
  clear hwa
  have HS := hidd f1.size
  go_upto_region 2 with (refine wpList_make_own wa rfl _ _ 35 rfl w.heap.size 5 iu (.int .u8 0) 1 Try.underlying35 HI.out HZ0.out HZ1.out .i64 .i64 8 8 rfl rfl rfl (by rw [HZ2.out]; decide) (by unfold maxLen; decide) HS.out ?_; intro w1 ho1 hg1)
  have f2 := (Below.refl wa.heap.size wa).grown hg1 (Nat.le_refl _) (fun k e => by cases e)
  have hr1 := row_keep HR.out f2
  have c0 : w1.cell? ⟨w.heap.size, 0, none⟩ = some (.int .i64 s0) := hr1.cell (i := 0) (by decide)
  have c1 : w1.cell? ⟨w.heap.size, 1, none⟩ = some (.int .i64 s1) := hr1.cell (i := 1) (by decide)
  have c2 : w1.cell? ⟨w.heap.size, 2, none⟩ = some (.int .i64 s2) := hr1.cell (i := 2) (by decide)
  have c3 : w1.cell? ⟨w.heap.size, 3, none⟩ = some (.int .i64 s3) := hr1.cell (i := 3) (by decide)
  have c4 : w1.cell? ⟨w.heap.size, 4, none⟩ = some (.int .i64 s4) := hr1.cell (i := 4) (by decide)
  have c5 : w1.cell? ⟨w.heap.size, 5, none⟩ = some (.int .i64 s5) := hr1.cell (i := 5) (by decide)
  have c6 : w1.cell? ⟨w.heap.size, 6, none⟩ = some (.int .i64 s6) := hr1.cell (i := 6) (by decide)
  have c7 : w1.cell? ⟨w.heap.size, 7, none⟩ = some (.int .i64 s7) := hr1.cell (i := 7) (by decide)
  have ho9 : Own w1 w.heap.size 5 1 (.slice (some ⟨wa.heap.size, 0, none⟩) 0 8) 0 (bV (cfL s0 s1 s2 s3 s4 s5 s6 s7)) := by unfold Own; simpa using ho1
  have HO1 := hidd ho9
  have HF2 := hidd (fresh_trans f1 f2)
  clear ho1 ho9 hg1 hr1 f1 f2 HR
  go_wp2
  clear c0 c1 c2 c3 c4 c5 c6 c7
  go_loopw [3, 5, 24] (fun v _ i wr => ∃ k : Nat, k ≤ 8 ∧ i = .int .i64 (k : Int) ∧ Hid (Own wr w.heap.size 5 1 v k (bV (cfL s0 s1 s2 s3 s4 s5 s6 s7))) ∧ Hid (Below w.heap.size w wr)) (fun _ _ i _ => 8 - (intOf i).toNat)
  case atStart => exact ⟨0, Nat.zero_le _, by simp, HO1.out, HF2.out⟩
  case round =>
    clear HO1 HF2
    obtain ⟨k, hk, rfl, HO, HB⟩ := hrel
    obtain ⟨p, uc, rfl, _⟩ := HO.out.rd
    by_cases hlt : k < 8
    · have i0 : (0 : Int) ≤ (k : Int) := by omega
      have i1 : (k : Int) < 8 := by omega
      have hix := HIX.out k hlt
      have HE := hidd (HCF.out k hlt)
      generalize [s0, s1, s2, s3, s4, s5, s6, s7].getD k 0 = z at *
      have fa := fresh_alloc wr (.cells #[.int .u8 (z % 256)] 5)
      have HN : Hid ((wr.alloc (.cells #[.int .u8 (z % 256)] 5)).cell? ⟨wr.heap.size, 0, none⟩ = some (bV (cfL s0 s1 s2 s3 s4 s5 s6 s7) k)) := by show _ = _; rw [new_cell, HE.out]
      have HO2 := hidd (HO.out.kept fa)
      have HB2 := hidd (fresh_trans HB.out fa)
      clear fa HE
      go_wp2_with (at_builtin; refine wpList_app1 _ rfl _ _ 35 rfl w.heap.size 5 (.int .u8 0) 1 Try.underlying35 infoU8 rfl _ k (bV (cfL s0 s1 s2 s3 s4 s5 s6 s7)) rfl HO2.out wr.heap.size 1 rfl HN.out rfl (by omega) (by omega) HB2.out.size ?_)
      rintro v' w4 hown happ
      have HO4 := hidd hown
      have HB4 := hidd (happ.below HB2.out HO2.out (Nat.le_refl _) HB2.out.size)
      clear hown happ HN HO2 HB2 hix
      go_wp2
      go_roundw
      case rel => exact ⟨k + 1, by omega, by go_num, HO4.out, HB4.out⟩
      case measure => simp [intOf]; omega
    · obtain rfl : k = 8 := by omega
      go_wp2
      go_ret
      exact ⟨_, rfl, HO.out, HB.out⟩
end Go.Proofs.Ytilghknalbhacaa
