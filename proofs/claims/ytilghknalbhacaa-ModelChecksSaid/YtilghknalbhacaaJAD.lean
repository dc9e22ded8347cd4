import Derived.Test.YtilghknalbhacaaJAC
import Derived.Deep.DeepCutAuto
namespace Go.Proofs.Ytilghknalbhacaa
open Go.RowKit
/-! The reference's section; the last section; measures; turns. -/
theorem own_nilB (w : World) (b : Nat) : OwB w b (.slice none 0 0) [] := own_nil _ _ _ _ _
set_option maxRecDepth 20000 in
set_option maxHeartbeats 4000000 in
theorem refsec_any {w : World} {b0 : Nat} {v : Value} {L : List Int} (hv : OwB w b0 v L) (hb : b0 ≤ w.heap.size) (hL : L.length ≤ 536870912) (c : Int) {b1 : Nat} {bv : Value} {M : List Int} (hM : OwB w b1 bv M) (hM0 : 0 < M.length) (hM1 : M.length ≤ 536870912) (hoff : Off v bv) :
    Calls Try.prog 77 #[v, .int .u8 c, bv] w fun e w' => ∃ v', e = .returned v' ∧ OwB w' b0 v' (L ++ secL c M) ∧ App w w' v v' := by
  have HV := hidd hv
  have HM := hidd hM
  have HOF := hidd hoff
  obtain ⟨p, uc, rfl, _⟩ := hv.rd
  obtain ⟨mg, mc, rfl, hmc, hmt⟩ := hM.slice hM0
  have fa := fresh_alloc w (.cells #[.int .u8 c] 5)
  have HO1 : Hid (Own (w.alloc (.cells #[.int .u8 c] 5)) b0 5 1 (.slice p L.length uc) L.length (bV (L ++ [c]))) := (HV.out.kept fa).congr (fun j hj => bV_pre L _ (by omega))
  have HN1 : Hid ((w.alloc (.cells #[.int .u8 c] 5)).cell? ⟨w.heap.size, 0, none⟩ = some (bV (L ++ [c]) L.length)) := by
    show _ = _
    have h9 := bV_suf L [c] 0
    rw [Nat.add_zero] at h9
    rw [new_cell, h9]
    rfl
  have HS1 : Hid (b0 ≤ (w.alloc (.cells #[.int .u8 c] 5)).heap.size) := Nat.le_trans hb fa.size
  have HA1 := hidd (App.of fa (.slice p L.length uc))
  have HM1 := hidd (Own.kept HM.out fa)
  clear hv hM hoff fa
  go_enter Try.func77, Try.ntmps77
  go_wp2_with (at_builtin; refine wpList_app1 _ rfl _ _ 35 rfl b0 5 (.int .u8 0) 1 Try.underlying35 infoU8 rfl _ L.length (bV (L ++ [c])) rfl HO1.out w.heap.size 1 rfl HN1.out rfl (by omega) (by omega) HS1.out ?_)
  rintro v2 w2 ho2 ha2
  have HO2 : Hid (OwB w2 b0 v2 (L ++ [c])) := by unfold OwB; rw [List.length_append]; exact ho2
  have HA2 := hidd (HA1.out.trans ha2)
  have HM2 := hidd (ha2.own HM1.out HOF.out)
  have HF2 := hidd (ha2.off HM1.out HOF.out)
  have HS2 : Hid (b0 ≤ w2.heap.size) := Nat.le_trans HS1.out ha2.grown.size
  have HN := hidd (addnum_any HO2.out HS2.out (by rw [List.length_append]; show L.length + 1 ≤ _; omega) (n := M.length) (by omega) (k := 4) (by decide))
  obtain ⟨p2, uc2, e2, _⟩ := ho2.rd
  subst e2
  clear ho2 ha2 HO1 HN1 HS1 HA1 HM1
  go_wp2_with fail
  refine HN.out.mono ?_
  rintro e w3 ⟨v3, rfl, ho3, ha3⟩
  have HO3 : Hid (Own w3 b0 5 1 v3 (L.length + 5) (bV (L ++ secL c M))) := by
    have h9 : Own w3 b0 5 1 v3 (L.length + 5) (bV (L ++ [c] ++ num M.length 4)) := by
      have h8 := ho3
      unfold OwB at h8
      rw [List.length_append, List.length_append, num_len, show L.length + [c].length + 4 = L.length + 5 by rfl] at h8
      exact h8
    refine h9.congr (fun j hj => ?_)
    have e9 : L ++ secL c M = (L ++ [c] ++ num M.length 4) ++ M := by unfold secL; simp [List.append_assoc]
    rw [e9]
    refine bV_pre _ _ ?_
    rw [List.length_append, List.length_append, num_len]
    show j < L.length + 1 + 4
    omega
  have HA3 := hidd (HA2.out.trans ha3)
  have HM3 := hidd (ha3.own HM2.out HF2.out)
  have HF3 := hidd (ha3.off HM2.out HF2.out)
  have HS3 : Hid (b0 ≤ w3.heap.size) := Nat.le_trans HS2.out ha3.grown.size
  obtain ⟨p3, uc3, e3, _⟩ := ho3.rd
  clear ho3 ha3 HN HO2 HA2 HM2 HF2 HS2
  subst e3
  have hl5 : (L ++ [c] ++ num M.length 4).length = L.length + 5 := by rw [List.length_append, List.length_append, num_len]; rfl
  rw [hl5] at HO3 HA3 HF3 ⊢
  go_wp2
  go_loopw [0, 7] (fun v1 i wr => ∃ i' : Nat, i' ≤ M.length ∧ i = .int .i64 (i' : Int) ∧ Hid (Own wr b0 5 1 v1 (L.length + 5 + i') (bV (L ++ secL c M))) ∧ Hid (App w wr (.slice p L.length uc) v1) ∧ Hid (Own wr b1 5 1 (.slice (some ⟨mg, 0, none⟩) M.length mc) M.length (bV M)) ∧ Hid (Off v1 (.slice (some ⟨mg, 0, none⟩) M.length mc)) ∧ Hid (b0 ≤ wr.heap.size)) (fun _ i _ => M.length - (intOf i).toNat)
  case atStart => exact ⟨0, Nat.zero_le _, by simp, HO3.out, HA3.out, HM3.out, HF3.out, HS3.out⟩
  case round =>
    clear HO3 HA3 HM3 HF3 HS3
    obtain ⟨i, hi, rfl, HO, HA, HMr, HF, HS⟩ := hrel
    obtain ⟨p4, uc4, rfl, _⟩ := HO.out.rd
    by_cases hlt : i < M.length
    · have i0 : (0 : Int) ≤ (i : Int) := by omega
      have i1 : (i : Int) < (M.length : Int) := by omega
      obtain ⟨b9, o9, e9, hc⟩ := (Own.rdaE HMr.out).one (by omega)
      simp only [Option.some.injEq, Addr.mk.injEq, and_true] at e9
      obtain ⟨rfl, rfl⟩ := e9
      have ci := hc i hlt
      rw [Nat.zero_add] at ci
      unfold bV at ci
      have HE : Hid (bV (L ++ secL c M) (L.length + 5 + i) = .int .u8 (M.getD i 0)) := by
        show _ = _
        have e9 : L ++ secL c M = (L ++ [c] ++ num M.length 4) ++ M := by unfold secL; simp [List.append_assoc]
        rw [e9, ← hl5, bV_suf]
        rfl
      generalize M.getD i 0 = z at *
      have fa := fresh_alloc wr (.cells #[.int .u8 z] 5)
      have HN : Hid ((wr.alloc (.cells #[.int .u8 z] 5)).cell? ⟨wr.heap.size, 0, none⟩ = some (bV (L ++ secL c M) (L.length + 5 + i))) := by show _ = _; rw [new_cell, HE.out]
      have HO2 := hidd (HO.out.kept fa)
      have HA2 := hidd (HA.out.trans (App.of fa _))
      have HM2 := hidd (HMr.out.kept fa)
      have HSZ : Hid (b0 ≤ (wr.alloc (.cells #[.int .u8 z] 5)).heap.size) := Nat.le_trans HS.out fa.size
      clear fa HE hc HS
      go_wp2_with (at_builtin; refine wpList_app1 _ rfl _ _ 35 rfl b0 5 (.int .u8 0) 1 Try.underlying35 infoU8 rfl _ (L.length + 5 + i) (bV (L ++ secL c M)) rfl HO2.out wr.heap.size 1 rfl HN.out rfl (by omega) (by omega) HSZ.out ?_)
      rintro v' w4 hown happ
      have HO4 := hidd hown
      have HA4 := hidd (HA2.out.trans happ)
      have HM4 := hidd (happ.own HM2.out HF.out)
      have HF4 := hidd (happ.off HM2.out HF.out)
      have HS4 : Hid (b0 ≤ w4.heap.size) := Nat.le_trans HSZ.out happ.grown.size
      clear hown happ HN HO2 HA2 HSZ ci HM2
      go_wp2
      go_roundw
      case rel => exact ⟨i + 1, by omega, by go_num, HO4.out, HA4.out, HM4.out, HF4.out, HS4.out⟩
      case measure => simp [intOf]; omega
    · obtain rfl : i = M.length := by omega
      have hnl : ¬ ((M.length : Int) < (M.length : Int)) := by omega
      go_wp2
      go_ret
      exact ⟨_, rfl, by have h9 := HO.out; unfold OwB; rw [List.length_append, secL_len, show L.length + (M.length + 5) = L.length + 5 + M.length by omega]; exact h9, HA.out⟩
/-- the last section -/
def lastL (L : List Int) : List Int := secL 90 (num (dgF L L.length) 8)
set_option maxRecDepth 20000 in
theorem lastSec_any {w : World} {ao : Option Addr} {cap : Nat} {L : List Int} (hr : RdA w ao 1 L.length cap (bV L)) (hb : Byt L) :
    Calls Try.prog 34 #[.slice ao L.length cap] w fun e w' => ∃ v', e = .returned v' ∧ OwB w' w.heap.size v' (lastL L) ∧ Below w.heap.size w w' := by
  have HD := hidd (digest_any hr hb)
  have HL := hidd (little_any (own_nilB w w.heap.size) (Nat.le_refl _) (by decide) (dgF_lt L L.length) (k := 8) (by decide))
  clear hr hb
  go_enter Try.func34, Try.ntmps34
  go_wp2_with fail
  refine HD.out.mono ?_
  rintro e w1 ⟨rfl, hw1⟩
  rw [hw1]
  clear hw1 w1
  obtain ⟨d, hd⟩ : ∃ d, d = dgF L L.length := ⟨_, rfl⟩
  rw [← hd] at HL ⊢
  have HDD := hidd hd
  clear hd
  go_wp2_with fail
  refine HL.out.mono ?_
  rintro e w2 ⟨v2, rfl, ho, ha⟩
  have HB := hidd (ha.below (Below.refl _ _) (own_nilB w w.heap.size) (Nat.le_refl _) (Nat.le_refl _))
  rw [List.nil_append] at ho
  have HS := hidd (section_any (own_nilB w2 w.heap.size) HB.out.size (by decide) 90 ho (by rw [num_len]; decide) (by rw [num_len]; decide) (off_nil _))
  clear ho ha HL HD
  go_wp2_with fail
  refine HS.out.mono ?_
  rintro e w3 ⟨v3, rfl, ho3, ha3⟩
  have HB3 := hidd (ha3.below HB.out (own_nilB w2 w.heap.size) (Nat.le_refl _) HB.out.size)
  rw [List.nil_append] at ho3
  have HO3 := hidd ho3
  obtain ⟨p3, uc3, rfl, _⟩ := ho3.rd
  clear ho3 ha3 HS
  go_wp2
  go_ret
  exact ⟨_, rfl, by unfold lastL; rw [← HDD.out]; exact HO3.out, HB3.out⟩
/-- turns as bytes -/
def u64of (x : Int) : Nat := (x % 18446744073709551616).toNat
def trL (C S : Nat → Int) : Nat → List Int
  | 0 => []
  | n + 1 => trL C S n ++ num (u64of (C n)) 2 ++ num (u64of (S n)) 2
theorem trL_succ (C S : Nat → Int) (n : Nat) : trL C S (n + 1) = trL C S n ++ num (u64of (C n)) 2 ++ num (u64of (S n)) 2 := rfl
theorem trL_len (C S : Nat → Int) : ∀ n, (trL C S n).length = n * 4
  | 0 => rfl
  | n + 1 => by show (trL C S n ++ num (u64of (C n)) 2 ++ num (u64of (S n)) 2).length = _; rw [List.length_append, List.length_append, num_len, num_len, trL_len C S n]; omega
theorem trL_byt (C S : Nat → Int) : ∀ n, Byt (trL C S n)
  | 0 => fun x hx => absurd hx (by show ¬ x ∈ []; simp)
  | n + 1 => ((trL_byt C S n).app (num_byt _ _)).app (num_byt _ _)
theorem u64of_wrap (x : Int) : IntKind.u64.wrap x = (u64of x : Int) := by rw [IntKind.wrap_u64]; unfold u64of; omega
theorem u64of_lt (x : Int) : u64of x < 18446744073709551616 := by unfold u64of; omega
end Go.Proofs.Ytilghknalbhacaa
namespace Go.Proofs.Ytilghknalbhacaa
open Go.RowKit
/-! Measures and turns as bytes, on both sides. -/
theorem row_keep {w w' : World} {g n : Nat} {t : TypeId} {f : Nat → Value} (h : w.rowIs g t n f) (k : Below w.heap.size w w') : w'.rowIs g t n f := h.of_block (k.block _ h.lt)
theorem own_newL (w : World) (L : List Int) (base : Nat) (hb : base ≤ w.heap.size) (hL : L.length ≤ 1073741824) : OwB (w.alloc (.cells (L.map (fun x => Value.int .u8 x)).toArray 5)) base (.slice (some ⟨w.heap.size, 0, none⟩) L.length L.length) L := by
  refine ⟨by simp, .inr ⟨w.heap.size, L.length, (L.map (fun x => Value.int .u8 x)).toArray, rfl, hb, ?_, Nat.le_refl _, by unfold maxLen; omega, by simp, ?_⟩⟩
  · show (w.heap.push _)[w.heap.size]? = _
    simp
  · refine List.ext_getElem? (fun i => ?_)
    by_cases hi : i < L.length
    · simp [hi, bV, List.getD_eq_getElem?_getD]
    · simp [hi]
def cfL (s0 s1 s2 s3 s4 s5 s6 s7 : Int) : List Int := [s0 % 256, s1 % 256, s2 % 256, s3 % 256, s4 % 256, s5 % 256, s6 % 256, s7 % 256]
theorem cfL_byt (s0 s1 s2 s3 s4 s5 s6 s7 : Int) : Byt (cfL s0 s1 s2 s3 s4 s5 s6 s7) := fun x hx => by
  simp only [cfL, List.mem_cons, List.not_mem_nil, or_false] at hx
  omega
set_option maxRecDepth 20000 in
set_option maxHeartbeats 4000000 in
theorem measures_any (w : World) (s0 s1 s2 s3 s4 s5 s6 s7 : Int) : Calls Try.prog 78 #[.agg #[.int .i64 s0, .int .i64 s1, .int .i64 s2, .int .i64 s3, .int .i64 s4, .int .i64 s5, .int .i64 s6, .int .i64 s7]] w fun e w' => ∃ v', e = .returned v' ∧ OwB w' w.heap.size v' (cfL s0 s1 s2 s3 s4 s5 s6 s7) ∧ Below w.heap.size w w' := by
  have f1 := fresh_alloc w (.cells #[.int .i64 s0, .int .i64 s1, .int .i64 s2, .int .i64 s3, .int .i64 s4, .int .i64 s5, .int .i64 s6, .int .i64 s7] 23)
  have f2 := fresh_alloc (w.alloc (.cells #[.int .i64 s0, .int .i64 s1, .int .i64 s2, .int .i64 s3, .int .i64 s4, .int .i64 s5, .int .i64 s6, .int .i64 s7] 23)) (.cells #[.int .u8 (s0 % 256), .int .u8 (s1 % 256), .int .u8 (s2 % 256), .int .u8 (s3 % 256), .int .u8 (s4 % 256), .int .u8 (s5 % 256), .int .u8 (s6 % 256), .int .u8 (s7 % 256)] 5)
  have hs : (w.alloc (.cells #[.int .i64 s0, .int .i64 s1, .int .i64 s2, .int .i64 s3, .int .i64 s4, .int .i64 s5, .int .i64 s6, .int .i64 s7] 23)).heap.size = w.heap.size + 1 := by simp
  have HO : Hid (OwB ((w.alloc (.cells #[.int .i64 s0, .int .i64 s1, .int .i64 s2, .int .i64 s3, .int .i64 s4, .int .i64 s5, .int .i64 s6, .int .i64 s7] 23)).alloc (.cells #[.int .u8 (s0 % 256), .int .u8 (s1 % 256), .int .u8 (s2 % 256), .int .u8 (s3 % 256), .int .u8 (s4 % 256), .int .u8 (s5 % 256), .int .u8 (s6 % 256), .int .u8 (s7 % 256)] 5)) w.heap.size (.slice (some ⟨w.heap.size + 1, 0, none⟩) 8 8) (cfL s0 s1 s2 s3 s4 s5 s6 s7)) := by
    have h9 := own_newL (w.alloc (.cells #[.int .i64 s0, .int .i64 s1, .int .i64 s2, .int .i64 s3, .int .i64 s4, .int .i64 s5, .int .i64 s6, .int .i64 s7] 23)) (cfL s0 s1 s2 s3 s4 s5 s6 s7) w.heap.size f1.size (by show 8 ≤ _; decide)
    rw [hs] at h9
    exact h9
  have HF := hidd (fresh_trans f1 f2)
  clear f1 f2 hs
  go_enter Try.func78, Try.ntmps78
  go_wp2
  go_ret
  exact ⟨_, rfl, HO.out, HF.out⟩
theorem idx8 (s0 s1 s2 s3 s4 s5 s6 s7 : Int) {k : Nat} (hk : k < 8) (w : World) : (Instr.index 100 (.agg #[.int .i64 s0, .int .i64 s1, .int .i64 s2, .int .i64 s3, .int .i64 s4, .int .i64 s5, .int .i64 s6, .int .i64 s7]) (.int .i64 (k : Int))).run Try.prog w = .ok (.int .i64 ([s0, s1, s2, s3, s4, s5, s6, s7].getD k 0)) w := by
  match k, hk with
  | 0, _ => exact (show (Instr.index 100 (.agg #[.int .i64 s0, .int .i64 s1, .int .i64 s2, .int .i64 s3, .int .i64 s4, .int .i64 s5, .int .i64 s6, .int .i64 s7]) (.int .i64 0)).run Try.prog w = .ok (.int .i64 s0) w by kernel_rfl)
  | 1, _ => exact (show (Instr.index 100 (.agg #[.int .i64 s0, .int .i64 s1, .int .i64 s2, .int .i64 s3, .int .i64 s4, .int .i64 s5, .int .i64 s6, .int .i64 s7]) (.int .i64 1)).run Try.prog w = .ok (.int .i64 s1) w by kernel_rfl)
  | 2, _ => exact (show (Instr.index 100 (.agg #[.int .i64 s0, .int .i64 s1, .int .i64 s2, .int .i64 s3, .int .i64 s4, .int .i64 s5, .int .i64 s6, .int .i64 s7]) (.int .i64 2)).run Try.prog w = .ok (.int .i64 s2) w by kernel_rfl)
  | 3, _ => exact (show (Instr.index 100 (.agg #[.int .i64 s0, .int .i64 s1, .int .i64 s2, .int .i64 s3, .int .i64 s4, .int .i64 s5, .int .i64 s6, .int .i64 s7]) (.int .i64 3)).run Try.prog w = .ok (.int .i64 s3) w by kernel_rfl)
  | 4, _ => exact (show (Instr.index 100 (.agg #[.int .i64 s0, .int .i64 s1, .int .i64 s2, .int .i64 s3, .int .i64 s4, .int .i64 s5, .int .i64 s6, .int .i64 s7]) (.int .i64 4)).run Try.prog w = .ok (.int .i64 s4) w by kernel_rfl)
  | 5, _ => exact (show (Instr.index 100 (.agg #[.int .i64 s0, .int .i64 s1, .int .i64 s2, .int .i64 s3, .int .i64 s4, .int .i64 s5, .int .i64 s6, .int .i64 s7]) (.int .i64 5)).run Try.prog w = .ok (.int .i64 s5) w by kernel_rfl)
  | 6, _ => exact (show (Instr.index 100 (.agg #[.int .i64 s0, .int .i64 s1, .int .i64 s2, .int .i64 s3, .int .i64 s4, .int .i64 s5, .int .i64 s6, .int .i64 s7]) (.int .i64 6)).run Try.prog w = .ok (.int .i64 s6) w by kernel_rfl)
  | 7, _ => exact (show (Instr.index 100 (.agg #[.int .i64 s0, .int .i64 s1, .int .i64 s2, .int .i64 s3, .int .i64 s4, .int .i64 s5, .int .i64 s6, .int .i64 s7]) (.int .i64 7)).run Try.prog w = .ok (.int .i64 s7) w by kernel_rfl)
set_option maxRecDepth 20000 in
set_option maxHeartbeats 4000000 in
theorem cfgB_any (w : World) (s0 s1 s2 s3 s4 s5 s6 s7 : Int) : Calls Try.prog 30 #[.agg #[.int .i64 s0, .int .i64 s1, .int .i64 s2, .int .i64 s3, .int .i64 s4, .int .i64 s5, .int .i64 s6, .int .i64 s7]] w fun e w' => ∃ v', e = .returned v' ∧ OwB w' w.heap.size v' (cfL s0 s1 s2 s3 s4 s5 s6 s7) ∧ Below w.heap.size w w' := by
  have f1 := fresh_alloc w (.cells #[.int .i64 s0, .int .i64 s1, .int .i64 s2, .int .i64 s3, .int .i64 s4, .int .i64 s5, .int .i64 s6, .int .i64 s7] 23)
  have HR : Hid ((w.alloc (.cells #[.int .i64 s0, .int .i64 s1, .int .i64 s2, .int .i64 s3, .int .i64 s4, .int .i64 s5, .int .i64 s6, .int .i64 s7] 23)).rowIs w.heap.size 23 8 (fun i => [.int .i64 s0, .int .i64 s1, .int .i64 s2, .int .i64 s3, .int .i64 s4, .int .i64 s5, .int .i64 s6, .int .i64 s7].getD i undef)) := by
    refine World.rowIs_alloc w #[.int .i64 s0, .int .i64 s1, .int .i64 s2, .int .i64 s3, .int .i64 s4, .int .i64 s5, .int .i64 s6, .int .i64 s7] 23 _ (fun i hi => ?_)
    match i, hi with
    | 0, _ => rfl
    | 1, _ => rfl
    | 2, _ => rfl
    | 3, _ => rfl
    | 4, _ => rfl
    | 5, _ => rfl
    | 6, _ => rfl
    | 7, _ => rfl
  have HIX : Hid (∀ (k : Nat), k < 8 → ∀ w : World, (Instr.index 100 (.agg #[.int .i64 s0, .int .i64 s1, .int .i64 s2, .int .i64 s3, .int .i64 s4, .int .i64 s5, .int .i64 s6, .int .i64 s7]) (.int .i64 (k : Int))).run Try.prog w = .ok (.int .i64 ([s0, s1, s2, s3, s4, s5, s6, s7].getD k 0)) w) := fun k hk w => idx8 s0 s1 s2 s3 s4 s5 s6 s7 hk w
  have HCF : Hid (∀ k, k < 8 → bV (cfL s0 s1 s2 s3 s4 s5 s6 s7) k = .int .u8 ([s0, s1, s2, s3, s4, s5, s6, s7].getD k 0 % 256)) := fun k hk => by
    match k, hk with
    | 0, _ => rfl
    | 1, _ => rfl
    | 2, _ => rfl
    | 3, _ => rfl
    | 4, _ => rfl
    | 5, _ => rfl
    | 6, _ => rfl
    | 7, _ => rfl
  obtain ⟨iu, hi, hz0, hz1, hz2⟩ := info_parts infoU8
  have HI := hidd hi
  have HZ0 := hidd hz0
  have HZ1 := hidd hz1
  have HZ2 := hidd hz2
  clear hi hz0 hz1 hz2
  go_enter Try.func30, Try.ntmps30
  go_upto_region 1 with fail
  generalize hwa : w.alloc (.cells #[.int .i64 s0, .int .i64 s1, .int .i64 s2, .int .i64 s3, .int .i64 s4, .int .i64 s5, .int .i64 s6, .int .i64 s7] 23) = wa at *
  clear hwa
  have HS := hidd f1.size
  go_upto_region 2 with (refine wpList_make_own wa rfl _ _ 35 rfl w.heap.size 5 iu (.int .u8 0) 1 Try.underlying35 HI.out HZ0.out HZ1.out .i64 .i64 8 8 rfl rfl rfl (by rw [HZ2.out]; decide) (by unfold maxLen; decide) HS.out ?_; intro w1 ho1 hg1)
  have f2 := (Below.refl wa.heap.size wa).grown hg1 (Nat.le_refl _) (fun k e => by cases e)
  have hr1 := row_keep HR.out f2
  have c0 : w1.cell? ⟨w.heap.size, 0, none⟩ = some (.int .i64 s0) := hr1.cell (i := 0) (by decide)
  have c1 : w1.cell? ⟨w.heap.size, 1, none⟩ = some (.int .i64 s1) := hr1.cell (i := 1) (by decide)
  have c2 : w1.cell? ⟨w.heap.size, 2, none⟩ = some (.int .i64 s2) := hr1.cell (i := 2) (by decide)
  have c3 : w1.cell? ⟨w.heap.size, 3, none⟩ = some (.int .i64 s3) := hr1.cell (i := 3) (by decide)
  have c4 : w1.cell? ⟨w.heap.size, 4, none⟩ = some (.int .i64 s4) := hr1.cell (i := 4) (by decide)
  have c5 : w1.cell? ⟨w.heap.size, 5, none⟩ = some (.int .i64 s5) := hr1.cell (i := 5) (by decide)
  have c6 : w1.cell? ⟨w.heap.size, 6, none⟩ = some (.int .i64 s6) := hr1.cell (i := 6) (by decide)
  have c7 : w1.cell? ⟨w.heap.size, 7, none⟩ = some (.int .i64 s7) := hr1.cell (i := 7) (by decide)
  have ho9 : Own w1 w.heap.size 5 1 (.slice (some ⟨wa.heap.size, 0, none⟩) 0 8) 0 (bV (cfL s0 s1 s2 s3 s4 s5 s6 s7)) := by unfold Own; simpa using ho1
  have HO1 := hidd ho9
  have HF2 := hidd (fresh_trans f1 f2)
  clear ho1 ho9 hg1 hr1 f1 f2 HR
  go_wp2
  clear c0 c1 c2 c3 c4 c5 c6 c7
  go_loopw [3, 5, 24] (fun v _ i wr => ∃ k : Nat, k ≤ 8 ∧ i = .int .i64 (k : Int) ∧ Hid (Own wr w.heap.size 5 1 v k (bV (cfL s0 s1 s2 s3 s4 s5 s6 s7))) ∧ Hid (Below w.heap.size w wr)) (fun _ _ i _ => 8 - (intOf i).toNat)
  case atStart => exact ⟨0, Nat.zero_le _, by simp, HO1.out, HF2.out⟩
  case round =>
    clear HO1 HF2
    obtain ⟨k, hk, rfl, HO, HB⟩ := hrel
    obtain ⟨p, uc, rfl, _⟩ := HO.out.rd
    by_cases hlt : k < 8
    · have i0 : (0 : Int) ≤ (k : Int) := by omega
      have i1 : (k : Int) < 8 := by omega
      have hix := HIX.out k hlt
      have HE := hidd (HCF.out k hlt)
      generalize [s0, s1, s2, s3, s4, s5, s6, s7].getD k 0 = z at *
      have fa := fresh_alloc wr (.cells #[.int .u8 (z % 256)] 5)
      have HN : Hid ((wr.alloc (.cells #[.int .u8 (z % 256)] 5)).cell? ⟨wr.heap.size, 0, none⟩ = some (bV (cfL s0 s1 s2 s3 s4 s5 s6 s7) k)) := by show _ = _; rw [new_cell, HE.out]
      have HO2 := hidd (HO.out.kept fa)
      have HB2 := hidd (fresh_trans HB.out fa)
      clear fa HE
      go_wp2_with (at_builtin; refine wpList_app1 _ rfl _ _ 35 rfl w.heap.size 5 (.int .u8 0) 1 Try.underlying35 infoU8 rfl _ k (bV (cfL s0 s1 s2 s3 s4 s5 s6 s7)) rfl HO2.out wr.heap.size 1 rfl HN.out rfl (by omega) (by omega) HB2.out.size ?_)
      rintro v' w4 hown happ
      have HO4 := hidd hown
      have HB4 := hidd (happ.below HB2.out HO2.out (Nat.le_refl _) HB2.out.size)
      clear hown happ HN HO2 HB2 hix
      go_wp2
      go_roundw
      case rel => exact ⟨k + 1, by omega, by go_num, HO4.out, HB4.out⟩
      case measure => simp [intOf]; omega
    · obtain rfl : k = 8 := by omega
      go_wp2
      go_ret
      exact ⟨_, rfl, HO.out, HB.out⟩
end Go.Proofs.Ytilghknalbhacaa
