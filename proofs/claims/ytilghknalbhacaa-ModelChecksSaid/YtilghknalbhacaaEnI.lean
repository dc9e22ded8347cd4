import Derived.Test.YtilghknalbhacaaJAP
namespace Go.Proofs.Ytilghknalbhacaa
open Go.RowKit
/-! layerBody. -/
set_option maxRecDepth 100000 in
set_option maxHeartbeats 8000000 in
theorem layR_any {w : World} {l : LyD} (h : LyR w l) (hB : LyB l) (b1 : l.n1.n ≤ 1048576) (b2 : l.n2.n ≤ 1048576) :
    Calls Try.prog 81 #[.agg #[.slice l.n1.O l.n1.n l.n1.c, .slice l.n2.O l.n2.n l.n2.c, .int .i64 l.q.R, .int .i64 l.q.C, .slice l.q.O l.q.n l.q.c, .int .i64 l.k.R, .int .i64 l.k.C, .slice l.k.O l.k.n l.k.c, .int .i64 l.v.R, .int .i64 l.v.C, .slice l.v.O l.v.n l.v.c, .int .i64 l.o.R, .int .i64 l.o.C, .slice l.o.O l.o.n l.o.c, .int .i64 l.g.R, .int .i64 l.g.C, .slice l.g.O l.g.n l.g.c, .int .i64 l.u.R, .int .i64 l.u.C, .slice l.u.O l.u.n l.u.c, .int .i64 l.d.R, .int .i64 l.d.C, .slice l.d.O l.d.n l.d.c, .int .i64 (l.sh 0), .int .i64 (l.sh 1), .int .i64 (l.sh 2), .int .i64 (l.sh 3), .int .i64 (l.sh 4), .int .i64 (l.sh 5), .int .i64 (l.sh 6)]] w fun e w' => ∃ v', e = .returned v' ∧ OwB w' (w.heap.size + 1) v' (lyB l) ∧ Below w.heap.size w w' := by
  have hr : (w.alloc (.cells #[.slice l.n1.O l.n1.n l.n1.c, .slice l.n2.O l.n2.n l.n2.c, .int .i64 l.q.R, .int .i64 l.q.C, .slice l.q.O l.q.n l.q.c, .int .i64 l.k.R, .int .i64 l.k.C, .slice l.k.O l.k.n l.k.c, .int .i64 l.v.R, .int .i64 l.v.C, .slice l.v.O l.v.n l.v.c, .int .i64 l.o.R, .int .i64 l.o.C, .slice l.o.O l.o.n l.o.c, .int .i64 l.g.R, .int .i64 l.g.C, .slice l.g.O l.g.n l.g.c, .int .i64 l.u.R, .int .i64 l.u.C, .slice l.u.O l.u.n l.u.c, .int .i64 l.d.R, .int .i64 l.d.C, .slice l.d.O l.d.n l.d.c, .int .i64 (l.sh 0), .int .i64 (l.sh 1), .int .i64 (l.sh 2), .int .i64 (l.sh 3), .int .i64 (l.sh 4), .int .i64 (l.sh 5), .int .i64 (l.sh 6)] 67)).rowIs w.heap.size 67 30 (fun i => (lyL l).getD i undef) := World.rowIs_list w (lyL l) 67
  have f1 := fresh_alloc w (.cells #[.slice l.n1.O l.n1.n l.n1.c, .slice l.n2.O l.n2.n l.n2.c, .int .i64 l.q.R, .int .i64 l.q.C, .slice l.q.O l.q.n l.q.c, .int .i64 l.k.R, .int .i64 l.k.C, .slice l.k.O l.k.n l.k.c, .int .i64 l.v.R, .int .i64 l.v.C, .slice l.v.O l.v.n l.v.c, .int .i64 l.o.R, .int .i64 l.o.C, .slice l.o.O l.o.n l.o.c, .int .i64 l.g.R, .int .i64 l.g.C, .slice l.g.O l.g.n l.g.c, .int .i64 l.u.R, .int .i64 l.u.C, .slice l.u.O l.u.n l.u.c, .int .i64 l.d.R, .int .i64 l.d.C, .slice l.d.O l.d.n l.d.c, .int .i64 (l.sh 0), .int .i64 (l.sh 1), .int .i64 (l.sh 2), .int .i64 (l.sh 3), .int .i64 (l.sh 4), .int .i64 (l.sh 5), .int .i64 (l.sh 6)] 67)
  have hs : (w.alloc (.cells #[.slice l.n1.O l.n1.n l.n1.c, .slice l.n2.O l.n2.n l.n2.c, .int .i64 l.q.R, .int .i64 l.q.C, .slice l.q.O l.q.n l.q.c, .int .i64 l.k.R, .int .i64 l.k.C, .slice l.k.O l.k.n l.k.c, .int .i64 l.v.R, .int .i64 l.v.C, .slice l.v.O l.v.n l.v.c, .int .i64 l.o.R, .int .i64 l.o.C, .slice l.o.O l.o.n l.o.c, .int .i64 l.g.R, .int .i64 l.g.C, .slice l.g.O l.g.n l.g.c, .int .i64 l.u.R, .int .i64 l.u.C, .slice l.u.O l.u.n l.u.c, .int .i64 l.d.R, .int .i64 l.d.C, .slice l.d.O l.d.n l.d.c, .int .i64 (l.sh 0), .int .i64 (l.sh 1), .int .i64 (l.sh 2), .int .i64 (l.sh 3), .int .i64 (l.sh 4), .int .i64 (l.sh 5), .int .i64 (l.sh 6)] 67)).heap.size = w.heap.size + 1 := by simp
  have HML := hidd (mB_len hB b1 b2)
  have HLB := hidd hB
  have HR := hidd h
  clear h
  go_enter Try.func81, Try.ntmps81
  go_upto_region 1 with fail
  generalize w.alloc (.cells #[.slice l.n1.O l.n1.n l.n1.c, .slice l.n2.O l.n2.n l.n2.c, .int .i64 l.q.R, .int .i64 l.q.C, .slice l.q.O l.q.n l.q.c, .int .i64 l.k.R, .int .i64 l.k.C, .slice l.k.O l.k.n l.k.c, .int .i64 l.v.R, .int .i64 l.v.C, .slice l.v.O l.v.n l.v.c, .int .i64 l.o.R, .int .i64 l.o.C, .slice l.o.O l.o.n l.o.c, .int .i64 l.g.R, .int .i64 l.g.C, .slice l.g.O l.g.n l.g.c, .int .i64 l.u.R, .int .i64 l.u.C, .slice l.u.O l.u.n l.u.c, .int .i64 l.d.R, .int .i64 l.d.C, .slice l.d.O l.d.n l.d.c, .int .i64 (l.sh 0), .int .i64 (l.sh 1), .int .i64 (l.sh 2), .int .i64 (l.sh 3), .int .i64 (l.sh 4), .int .i64 (l.sh 5), .int .i64 (l.sh 6)] 67) = wa at *
  have HRW : Hid (∀ z, Below (w.heap.size + 1) wa z → z.rowIs w.heap.size 67 30 (fun i => (lyL l).getD i undef)) := fun z hz => hr.of_block (hz.block _ (by omega))
  have F0 := hidd (Below.refl (w.heap.size + 1) wa)
  have HF1 := hidd f1
  have HS := hidd hs
  clear hr f1 hs
  have O0 := hidd (own_nilB wa (w.heap.size + 1))
  have c0 : wa.cell? ⟨w.heap.size, 0, none⟩ = some (.slice l.n1.O l.n1.n l.n1.c) := (HRW.out _ F0.out).cell (i := 0) (by decide)
  have HC0 := hidd (addN_in (HF1.out.trans (F0.out.mono (by omega))) (Nat.le_succ _) (by have := F0.out.size; have := HS.out; omega) O0.out (by show 0 ≤ _; omega) HR.out.n1.rd b1 HR.out.n1.bd)
  go_wp2_with fail
  clear c0
  refine HC0.out.mono ?_
  rintro e w1 ⟨v1, rfl, ho1, f1⟩
  have F1 := hidd (F0.out.trans f1)
  have O1 : Hid (OwB w1 (w.heap.size + 1) v1 (nbL l.n1.f l.n1.n)) := ho1
  clear ho1 f1 HC0 O0 F0
  have c1 : w1.cell? ⟨w.heap.size, 1, none⟩ = some (.slice l.n2.O l.n2.n l.n2.c) := (HRW.out _ F1.out).cell (i := 1) (by decide)
  have HC1 := hidd (addN_in (HF1.out.trans (F1.out.mono (by omega))) (Nat.le_succ _) (by have := F1.out.size; have := HS.out; omega) O1.out (by rw [nbL_len]; omega) HR.out.n2.rd b2 HR.out.n2.bd)
  go_wp2_with fail
  clear c1
  refine HC1.out.mono ?_
  rintro e w2 ⟨v2, rfl, ho2, f2⟩
  have F2 := hidd (F1.out.trans f2)
  have O2 : Hid (OwB w2 (w.heap.size + 1) v2 (mB l 0)) := ho2
  clear ho2 f2 HC1 O1 F1
  have c2 : w2.cell? ⟨w.heap.size, 4, none⟩ = some (.slice l.q.O l.q.n l.q.c) := (HRW.out _ F2.out).cell (i := 4) (by decide)
  have HC2 := hidd (addN_in (HF1.out.trans (F2.out.mono (by omega))) (Nat.le_succ _) (by have := F2.out.size; have := HS.out; omega) O2.out (Nat.le_trans (HML.out 0) (by decide)) HR.out.q.rd HLB.out.q HR.out.q.bd)
  go_wp2_with fail
  clear c2
  refine HC2.out.mono ?_
  rintro e w3 ⟨v3, rfl, ho3, f3⟩
  have F3 := hidd (F2.out.trans f3)
  have O3 : Hid (OwB w3 (w.heap.size + 1) v3 (mB l 1)) := ho3
  clear ho3 f3 HC2 O2 F2
  have c3 : w3.cell? ⟨w.heap.size, 7, none⟩ = some (.slice l.k.O l.k.n l.k.c) := (HRW.out _ F3.out).cell (i := 7) (by decide)
  have HC3 := hidd (addN_in (HF1.out.trans (F3.out.mono (by omega))) (Nat.le_succ _) (by have := F3.out.size; have := HS.out; omega) O3.out (Nat.le_trans (HML.out 1) (by decide)) HR.out.k.rd HLB.out.k HR.out.k.bd)
  go_wp2_with fail
  clear c3
  refine HC3.out.mono ?_
  rintro e w4 ⟨v4, rfl, ho4, f4⟩
  have F4 := hidd (F3.out.trans f4)
  have O4 : Hid (OwB w4 (w.heap.size + 1) v4 (mB l 2)) := ho4
  clear ho4 f4 HC3 O3 F3
  have c4 : w4.cell? ⟨w.heap.size, 10, none⟩ = some (.slice l.v.O l.v.n l.v.c) := (HRW.out _ F4.out).cell (i := 10) (by decide)
  have HC4 := hidd (addN_in (HF1.out.trans (F4.out.mono (by omega))) (Nat.le_succ _) (by have := F4.out.size; have := HS.out; omega) O4.out (Nat.le_trans (HML.out 2) (by decide)) HR.out.v.rd HLB.out.v HR.out.v.bd)
  go_wp2_with fail
  clear c4
  refine HC4.out.mono ?_
  rintro e w5 ⟨v5, rfl, ho5, f5⟩
  have F5 := hidd (F4.out.trans f5)
  have O5 : Hid (OwB w5 (w.heap.size + 1) v5 (mB l 3)) := ho5
  clear ho5 f5 HC4 O4 F4
  have c5 : w5.cell? ⟨w.heap.size, 13, none⟩ = some (.slice l.o.O l.o.n l.o.c) := (HRW.out _ F5.out).cell (i := 13) (by decide)
  have HC5 := hidd (addN_in (HF1.out.trans (F5.out.mono (by omega))) (Nat.le_succ _) (by have := F5.out.size; have := HS.out; omega) O5.out (Nat.le_trans (HML.out 3) (by decide)) HR.out.o.rd HLB.out.o HR.out.o.bd)
  go_wp2_with fail
  clear c5
  refine HC5.out.mono ?_
  rintro e w6 ⟨v6, rfl, ho6, f6⟩
  have F6 := hidd (F5.out.trans f6)
  have O6 : Hid (OwB w6 (w.heap.size + 1) v6 (mB l 4)) := ho6
  clear ho6 f6 HC5 O5 F5
  have c6 : w6.cell? ⟨w.heap.size, 16, none⟩ = some (.slice l.g.O l.g.n l.g.c) := (HRW.out _ F6.out).cell (i := 16) (by decide)
  have HC6 := hidd (addN_in (HF1.out.trans (F6.out.mono (by omega))) (Nat.le_succ _) (by have := F6.out.size; have := HS.out; omega) O6.out (Nat.le_trans (HML.out 4) (by decide)) HR.out.g.rd HLB.out.g HR.out.g.bd)
  go_wp2_with fail
  clear c6
  refine HC6.out.mono ?_
  rintro e w7 ⟨v7, rfl, ho7, f7⟩
  have F7 := hidd (F6.out.trans f7)
  have O7 : Hid (OwB w7 (w.heap.size + 1) v7 (mB l 5)) := ho7
  clear ho7 f7 HC6 O6 F6
  have c7 : w7.cell? ⟨w.heap.size, 19, none⟩ = some (.slice l.u.O l.u.n l.u.c) := (HRW.out _ F7.out).cell (i := 19) (by decide)
  have HC7 := hidd (addN_in (HF1.out.trans (F7.out.mono (by omega))) (Nat.le_succ _) (by have := F7.out.size; have := HS.out; omega) O7.out (Nat.le_trans (HML.out 5) (by decide)) HR.out.u.rd HLB.out.u HR.out.u.bd)
  go_wp2_with fail
  clear c7
  refine HC7.out.mono ?_
  rintro e w8 ⟨v8, rfl, ho8, f8⟩
  have F8 := hidd (F7.out.trans f8)
  have O8 : Hid (OwB w8 (w.heap.size + 1) v8 (mB l 6)) := ho8
  clear ho8 f8 HC7 O7 F7
  have c8 : w8.cell? ⟨w.heap.size, 22, none⟩ = some (.slice l.d.O l.d.n l.d.c) := (HRW.out _ F8.out).cell (i := 22) (by decide)
  have HC8 := hidd (addN_in (HF1.out.trans (F8.out.mono (by omega))) (Nat.le_succ _) (by have := F8.out.size; have := HS.out; omega) O8.out (Nat.le_trans (HML.out 6) (by decide)) HR.out.d.rd HLB.out.d HR.out.d.bd)
  go_wp2_with fail
  clear c8
  refine HC8.out.mono ?_
  rintro e w9 ⟨v9, rfl, ho9, f9⟩
  have F9 := hidd (F8.out.trans f9)
  have O9 : Hid (OwB w9 (w.heap.size + 1) v9 (mB l 7)) := ho9
  clear ho9 f9 HC8 O8 F8
  have HO9 : Hid (Own w9 (w.heap.size + 1) 5 1 v9 ((mB l 7).length + 0) (bV (lyB l))) := Own.congr O9.out (fun j hj => bV_pre (mB l 7) _ (by omega))
  have hl7 := HML.out 7
  obtain ⟨q9, hq9⟩ : ∃ q, q = (mB l 7).length := ⟨_, rfl⟩
  rw [← hq9] at HO9 hl7
  have HQ9 := hidd hq9
  clear O9 HR HLB HML hq9 b1 b2 hB
  go_wp2
  go_loopw [3, 4] (fun v i wr => ∃ k : Nat, k ≤ 7 ∧ i = .int .i64 (k : Int) ∧ Hid (Own wr (w.heap.size + 1) 5 1 v (q9 + k) (bV (lyB l))) ∧ Hid (Below (w.heap.size + 1) wa wr)) (fun _ i _ => 7 - (intOf i).toNat)
  case atStart => exact ⟨0, Nat.zero_le _, by simp, HO9.out, F9.out⟩
  case round =>
    clear HO9 F9
    obtain ⟨k, hk, rfl, HO, HB⟩ := hrel
    obtain ⟨p, uc, rfl, _⟩ := HO.out.rd
    by_cases hlt : k < 7
    · have i0 : (0 : Int) ≤ (k : Int) := by omega
      have i1 : (k : Int) < 7 := by omega
      have ck : wr.cell? ⟨w.heap.size, 23 + k, none⟩ = some (.int .i64 (l.sh k)) := by
        have h9 := (HRW.out _ HB.out).cell (i := 23 + k) (by omega)
        rw [h9]
        match k, hlt with
        | 0, _ => rfl
        | 1, _ => rfl
        | 2, _ => rfl
        | 3, _ => rfl
        | 4, _ => rfl
        | 5, _ => rfl
        | 6, _ => rfl
      have HE : Hid (bV (lyB l) (q9 + k) = .int .u8 (l.sh k % 256)) := by
        show _ = _
        unfold lyB
        rw [HQ9.out, bV_suf, nbL_at hlt]
      generalize l.sh k = z at *
      have fa := fresh_alloc wr (.cells #[.int .u8 (z % 256)] 5)
      have HN : Hid ((wr.alloc (.cells #[.int .u8 (z % 256)] 5)).cell? ⟨wr.heap.size, 0, none⟩ = some (bV (lyB l) (q9 + k))) := by show _ = _; rw [new_cell, HE.out]
      have HO2 := hidd (HO.out.kept fa)
      have hsz : w.heap.size + 1 ≤ wr.heap.size := by have := HB.out.size; have := HS.out; omega
      have HB2 := hidd (HB.out.trans (fa.mono hsz))
      have HSZ : Hid (w.heap.size + 1 ≤ (wr.alloc (.cells #[.int .u8 (z % 256)] 5)).heap.size) := Nat.le_trans hsz fa.size
      clear fa HE hsz
      go_wp2_with (at_builtin; refine wpList_app1 _ rfl _ _ 35 rfl (w.heap.size + 1) 5 (.int .u8 0) 1 Try.underlying35 infoU8 rfl _ (q9 + k) (bV (lyB l)) rfl HO2.out wr.heap.size 1 rfl HN.out rfl (by omega) (by omega) HSZ.out ?_)
      rintro v' w4 hown happ
      have HO4 := hidd hown
      have HB4 := hidd (happ.below HB2.out HO2.out (Nat.le_refl _) HSZ.out)
      clear hown happ HN HO2 HB2 HSZ ck
      go_wp2
      go_roundw
      case rel => exact ⟨k + 1, by omega, by go_num, HO4.out, HB4.out⟩
      case measure => simp [intOf]; omega
    · obtain rfl : k = 7 := by omega
      go_wp2
      go_ret
      exact ⟨_, rfl, by have h9 := HO.out; unfold OwB; rw [show (lyB l).length = q9 + 7 by unfold lyB; rw [List.length_append, nbL_len, HQ9.out]]; exact h9, HF1.out.trans (HB.out.mono (by omega))⟩
end Go.Proofs.Ytilghknalbhacaa
