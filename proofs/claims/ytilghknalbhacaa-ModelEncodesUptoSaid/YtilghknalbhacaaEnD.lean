import Derived.Test.YtilghknalbhacaaEnC
import Derived.Test.YtilghknalbhacaaEqs
namespace Go.Proofs.Ytilghknalbhacaa
open Go.RowKit
/-! The reference's section; the last section; measures; turns. -/
theorem own_nilB (w : World) (b : Nat) : OwB w b (.slice none 0 0) [] := own_nil _ _ _ _ _
set_option maxRecDepth 20000 in
set_option maxHeartbeats 4000000 in
theorem refsec_any {w : World} {b0 : Nat} {v : Value} {L : List Int} (hv : OwB w b0 v L) (hb : b0 ≤ w.heap.size) (hL : L.length ≤ 536870912) (c : Int) {b1 : Nat} {bv : Value} {M : List Int} (hM : OwB w b1 bv M) (hM0 : 0 < M.length) (hM1 : M.length ≤ 536870912) (hoff : Off v bv) :
    Calls Try.prog 77 #[v, .int .u8 c, bv] w fun e w' => ∃ v', e = .returned v' ∧ OwB w' b0 v' (L ++ secL c M) ∧ App w w' v v' := by
  have HV := hidd hv
  have HM := hidd hM
  have HOF := hidd hoff
  obtain ⟨p, uc, rfl, _⟩ := hv.rd
  obtain ⟨mg, mc, rfl, hmc, hmt⟩ := hM.slice hM0
  have fa := fresh_alloc w (.cells #[.int .u8 c] 5)
  have HO1 : Hid (Own (w.alloc (.cells #[.int .u8 c] 5)) b0 5 1 (.slice p L.length uc) L.length (bV (L ++ [c]))) := (HV.out.kept fa).congr (fun j hj => bV_pre L _ (by omega))
  have HN1 : Hid ((w.alloc (.cells #[.int .u8 c] 5)).cell? ⟨w.heap.size, 0, none⟩ = some (bV (L ++ [c]) L.length)) := by
    show _ = _
    have h9 := bV_suf L [c] 0
    rw [Nat.add_zero] at h9
    rw [new_cell, h9]
    rfl
  have HS1 : Hid (b0 ≤ (w.alloc (.cells #[.int .u8 c] 5)).heap.size) := Nat.le_trans hb fa.size
  have HA1 := hidd (App.of fa (.slice p L.length uc))
  have HM1 := hidd (Own.kept HM.out fa)
  clear hv hM hoff fa
  go_enter Try.func77, Try.ntmps77
  go_wp2_with (at_builtin; refine wpList_app1 _ rfl _ _ 35 rfl b0 5 (.int .u8 0) 1 Try.underlying35 infoU8 rfl _ L.length (bV (L ++ [c])) rfl HO1.out w.heap.size 1 rfl HN1.out rfl (by omega) (by omega) HS1.out ?_)
  rintro v2 w2 ho2 ha2
  have HO2 : Hid (OwB w2 b0 v2 (L ++ [c])) := by unfold OwB; rw [List.length_append]; exact ho2
  have HA2 := hidd (HA1.out.trans ha2)
  have HM2 := hidd (ha2.own HM1.out HOF.out)
  have HF2 := hidd (ha2.off HM1.out HOF.out)
  have HS2 : Hid (b0 ≤ w2.heap.size) := Nat.le_trans HS1.out ha2.grown.size
  have HN := hidd (addnum_any HO2.out HS2.out (by rw [List.length_append]; show L.length + 1 ≤ _; omega) (n := M.length) (by omega) (k := 4) (by decide))
  obtain ⟨p2, uc2, e2, _⟩ := ho2.rd
  subst e2
  clear ho2 ha2 HO1 HN1 HS1 HA1 HM1
  go_wp2_with fail
  refine HN.out.mono ?_
  rintro e w3 ⟨v3, rfl, ho3, ha3⟩
  have HO3 : Hid (Own w3 b0 5 1 v3 (L.length + 5) (bV (L ++ secL c M))) := by
    have h9 : Own w3 b0 5 1 v3 (L.length + 5) (bV (L ++ [c] ++ num M.length 4)) := by
      have h8 := ho3
      unfold OwB at h8
      rw [List.length_append, List.length_append, num_len, show L.length + [c].length + 4 = L.length + 5 by rfl] at h8
      exact h8
    refine h9.congr (fun j hj => ?_)
    have e9 : L ++ secL c M = (L ++ [c] ++ num M.length 4) ++ M := by unfold secL; simp [List.append_assoc]
    rw [e9]
    refine bV_pre _ _ ?_
    rw [List.length_append, List.length_append, num_len]
    show j < L.length + 1 + 4
    omega
  have HA3 := hidd (HA2.out.trans ha3)
  have HM3 := hidd (ha3.own HM2.out HF2.out)
  have HF3 := hidd (ha3.off HM2.out HF2.out)
  have HS3 : Hid (b0 ≤ w3.heap.size) := Nat.le_trans HS2.out ha3.grown.size
  obtain ⟨p3, uc3, e3, _⟩ := ho3.rd
  clear ho3 ha3 HN HO2 HA2 HM2 HF2 HS2
  subst e3
  have hl5 : (L ++ [c] ++ num M.length 4).length = L.length + 5 := by rw [List.length_append, List.length_append, num_len]; rfl
  rw [hl5] at HO3 HA3 HF3 ⊢
  go_wp2
  go_loopw [0, 7] (fun v1 i wr => ∃ i' : Nat, i' ≤ M.length ∧ i = .int .i64 (i' : Int) ∧ Hid (Own wr b0 5 1 v1 (L.length + 5 + i') (bV (L ++ secL c M))) ∧ Hid (App w wr (.slice p L.length uc) v1) ∧ Hid (Own wr b1 5 1 (.slice (some ⟨mg, 0, none⟩) M.length mc) M.length (bV M)) ∧ Hid (Off v1 (.slice (some ⟨mg, 0, none⟩) M.length mc)) ∧ Hid (b0 ≤ wr.heap.size)) (fun _ i _ => M.length - (intOf i).toNat)
  case atStart => exact ⟨0, Nat.zero_le _, by simp, HO3.out, HA3.out, HM3.out, HF3.out, HS3.out⟩
  case round =>
    clear HO3 HA3 HM3 HF3 HS3
    obtain ⟨i, hi, rfl, HO, HA, HMr, HF, HS⟩ := hrel
    obtain ⟨p4, uc4, rfl, _⟩ := HO.out.rd
    by_cases hlt : i < M.length
    · have i0 : (0 : Int) ≤ (i : Int) := by omega
      have i1 : (i : Int) < (M.length : Int) := by omega
      obtain ⟨b9, o9, e9, hc⟩ := (Own.rdaE HMr.out).one (by omega)
      simp only [Option.some.injEq, Addr.mk.injEq, and_true] at e9
      obtain ⟨rfl, rfl⟩ := e9
      have ci := hc i hlt
      rw [Nat.zero_add] at ci
      unfold bV at ci
      have HE : Hid (bV (L ++ secL c M) (L.length + 5 + i) = .int .u8 (M.getD i 0)) := by
        show _ = _
        have e9 : L ++ secL c M = (L ++ [c] ++ num M.length 4) ++ M := by unfold secL; simp [List.append_assoc]
        rw [e9, ← hl5, bV_suf]
        rfl
      generalize M.getD i 0 = z at *
      have fa := fresh_alloc wr (.cells #[.int .u8 z] 5)
      have HN : Hid ((wr.alloc (.cells #[.int .u8 z] 5)).cell? ⟨wr.heap.size, 0, none⟩ = some (bV (L ++ secL c M) (L.length + 5 + i))) := by show _ = _; rw [new_cell, HE.out]
      have HO2 := hidd (HO.out.kept fa)
      have HA2 := hidd (HA.out.trans (App.of fa _))
      have HM2 := hidd (HMr.out.kept fa)
      have HSZ : Hid (b0 ≤ (wr.alloc (.cells #[.int .u8 z] 5)).heap.size) := Nat.le_trans HS.out fa.size
      clear fa HE hc HS
      go_wp2_with (at_builtin; refine wpList_app1 _ rfl _ _ 35 rfl b0 5 (.int .u8 0) 1 Try.underlying35 infoU8 rfl _ (L.length + 5 + i) (bV (L ++ secL c M)) rfl HO2.out wr.heap.size 1 rfl HN.out rfl (by omega) (by omega) HSZ.out ?_)
      rintro v' w4 hown happ
      have HO4 := hidd hown
      have HA4 := hidd (HA2.out.trans happ)
      have HM4 := hidd (happ.own HM2.out HF.out)
      have HF4 := hidd (happ.off HM2.out HF.out)
      have HS4 : Hid (b0 ≤ w4.heap.size) := Nat.le_trans HSZ.out happ.grown.size
      clear hown happ HN HO2 HA2 HSZ ci HM2
      go_wp2
      go_roundw
      case rel => exact ⟨i + 1, by omega, by go_num, HO4.out, HA4.out, HM4.out, HF4.out, HS4.out⟩
      case measure => simp [intOf]; omega
    · obtain rfl : i = M.length := by omega
      have hnl : ¬ ((M.length : Int) < (M.length : Int)) := by omega
      go_wp2
      go_ret
      exact ⟨_, rfl, by have h9 := HO.out; unfold OwB; rw [List.length_append, secL_len, show L.length + (M.length + 5) = L.length + 5 + M.length by omega]; exact h9, HA.out⟩
/-- the last section -/
def lastL (L : List Int) : List Int := secL 90 (num (dgF L L.length) 8)
set_option maxRecDepth 20000 in
theorem lastSec_any {w : World} {ao : Option Addr} {cap : Nat} {L : List Int} (hr : RdA w ao 1 L.length cap (bV L)) (hb : Byt L) :
    Calls Try.prog 34 #[.slice ao L.length cap] w fun e w' => ∃ v', e = .returned v' ∧ OwB w' w.heap.size v' (lastL L) ∧ Below w.heap.size w w' := by
  have HD := hidd (digest_any hr hb)
  have HL := hidd (little_any (own_nilB w w.heap.size) (Nat.le_refl _) (by decide) (dgF_lt L L.length) (k := 8) (by decide))
  clear hr hb
  go_enter Try.func34, Try.ntmps34
  go_wp2_with fail
  refine HD.out.mono ?_
  rintro e w1 ⟨rfl, hw1⟩
  rw [hw1]
  clear hw1 w1
  obtain ⟨d, hd⟩ : ∃ d, d = dgF L L.length := ⟨_, rfl⟩
  rw [← hd] at HL ⊢
  have HDD := hidd hd
  clear hd
  go_wp2_with fail
  refine HL.out.mono ?_
  rintro e w2 ⟨v2, rfl, ho, ha⟩
  have HB := hidd (ha.below (Below.refl _ _) (own_nilB w w.heap.size) (Nat.le_refl _) (Nat.le_refl _))
  rw [List.nil_append] at ho
  have HS := hidd (section_any (own_nilB w2 w.heap.size) HB.out.size (by decide) 90 ho (by rw [num_len]; decide) (by rw [num_len]; decide) (off_nil _))
  clear ho ha HL HD
  go_wp2_with fail
  refine HS.out.mono ?_
  rintro e w3 ⟨v3, rfl, ho3, ha3⟩
  have HB3 := hidd (ha3.below HB.out (own_nilB w2 w.heap.size) (Nat.le_refl _) HB.out.size)
  rw [List.nil_append] at ho3
  have HO3 := hidd ho3
  obtain ⟨p3, uc3, rfl, _⟩ := ho3.rd
  clear ho3 ha3 HS
  go_wp2
  go_ret
  exact ⟨_, rfl, by unfold lastL; rw [← HDD.out]; exact HO3.out, HB3.out⟩
/-- turns as bytes -/
def u64of (x : Int) : Nat := (x % 18446744073709551616).toNat
def trL (C S : Nat → Int) : Nat → List Int
  | 0 => []
  | n + 1 => trL C S n ++ num (u64of (C n)) 2 ++ num (u64of (S n)) 2
theorem trL_succ (C S : Nat → Int) (n : Nat) : trL C S (n + 1) = trL C S n ++ num (u64of (C n)) 2 ++ num (u64of (S n)) 2 := rfl
theorem trL_len (C S : Nat → Int) : ∀ n, (trL C S n).length = n * 4
  | 0 => rfl
  | n + 1 => by show (trL C S n ++ num (u64of (C n)) 2 ++ num (u64of (S n)) 2).length = _; rw [List.length_append, List.length_append, num_len, num_len, trL_len C S n]; omega
theorem trL_byt (C S : Nat → Int) : ∀ n, Byt (trL C S n)
  | 0 => fun x hx => absurd hx (by show ¬ x ∈ []; simp)
  | n + 1 => ((trL_byt C S n).app (num_byt _ _)).app (num_byt _ _)
theorem u64of_wrap (x : Int) : IntKind.u64.wrap x = (u64of x : Int) := by rw [IntKind.wrap_u64]; unfold u64of; omega
theorem u64of_lt (x : Int) : u64of x < 18446744073709551616 := by unfold u64of; omega
end Go.Proofs.Ytilghknalbhacaa
