import Derived.Test.YtilghknalbhacaaJAP
import Derived.Test.YtilghknalbhacaaJAD
import Derived.Test.YtilghknalbhacaaCpE
namespace Go.Proofs.Ytilghknalbhacaa
open Go.RowKit
/-! layerBytes. -/
theorem idx7 (l : LyD) {k : Nat} (hk : k < 7) (w : World) : (Instr.index 65 (.agg #[.int .i64 (l.sh 0), .int .i64 (l.sh 1), .int .i64 (l.sh 2), .int .i64 (l.sh 3), .int .i64 (l.sh 4), .int .i64 (l.sh 5), .int .i64 (l.sh 6)]) (.int .i64 (k : Int))).run Try.prog w = .ok (.int .i64 (l.sh k)) w := by
  match k, hk with
  | 0, _ => exact (show (Instr.index 65 (.agg #[.int .i64 (l.sh 0), .int .i64 (l.sh 1), .int .i64 (l.sh 2), .int .i64 (l.sh 3), .int .i64 (l.sh 4), .int .i64 (l.sh 5), .int .i64 (l.sh 6)]) (.int .i64 0)).run Try.prog w = .ok (.int .i64 (l.sh 0)) w by kernel_rfl)
  | 1, _ => exact (show (Instr.index 65 (.agg #[.int .i64 (l.sh 0), .int .i64 (l.sh 1), .int .i64 (l.sh 2), .int .i64 (l.sh 3), .int .i64 (l.sh 4), .int .i64 (l.sh 5), .int .i64 (l.sh 6)]) (.int .i64 1)).run Try.prog w = .ok (.int .i64 (l.sh 1)) w by kernel_rfl)
  | 2, _ => exact (show (Instr.index 65 (.agg #[.int .i64 (l.sh 0), .int .i64 (l.sh 1), .int .i64 (l.sh 2), .int .i64 (l.sh 3), .int .i64 (l.sh 4), .int .i64 (l.sh 5), .int .i64 (l.sh 6)]) (.int .i64 2)).run Try.prog w = .ok (.int .i64 (l.sh 2)) w by kernel_rfl)
  | 3, _ => exact (show (Instr.index 65 (.agg #[.int .i64 (l.sh 0), .int .i64 (l.sh 1), .int .i64 (l.sh 2), .int .i64 (l.sh 3), .int .i64 (l.sh 4), .int .i64 (l.sh 5), .int .i64 (l.sh 6)]) (.int .i64 3)).run Try.prog w = .ok (.int .i64 (l.sh 3)) w by kernel_rfl)
  | 4, _ => exact (show (Instr.index 65 (.agg #[.int .i64 (l.sh 0), .int .i64 (l.sh 1), .int .i64 (l.sh 2), .int .i64 (l.sh 3), .int .i64 (l.sh 4), .int .i64 (l.sh 5), .int .i64 (l.sh 6)]) (.int .i64 4)).run Try.prog w = .ok (.int .i64 (l.sh 4)) w by kernel_rfl)
  | 5, _ => exact (show (Instr.index 65 (.agg #[.int .i64 (l.sh 0), .int .i64 (l.sh 1), .int .i64 (l.sh 2), .int .i64 (l.sh 3), .int .i64 (l.sh 4), .int .i64 (l.sh 5), .int .i64 (l.sh 6)]) (.int .i64 5)).run Try.prog w = .ok (.int .i64 (l.sh 5)) w by kernel_rfl)
  | 6, _ => exact (show (Instr.index 65 (.agg #[.int .i64 (l.sh 0), .int .i64 (l.sh 1), .int .i64 (l.sh 2), .int .i64 (l.sh 3), .int .i64 (l.sh 4), .int .i64 (l.sh 5), .int .i64 (l.sh 6)]) (.int .i64 6)).run Try.prog w = .ok (.int .i64 (l.sh 6)) w by kernel_rfl)
set_option maxRecDepth 100000 in
set_option maxHeartbeats 8000000 in
theorem layB_any {w : World} {l : LyD} (h : LyR w l) (hB : LyB l) (b1 : l.n1.n ≤ 1048576) (b2 : l.n2.n ≤ 1048576) :
    Calls Try.prog 33 #[.agg #[.slice l.n1.O l.n1.n l.n1.c, .slice l.n2.O l.n2.n l.n2.c, .int .i64 l.q.R, .int .i64 l.q.C, .slice l.q.O l.q.n l.q.c, .int .i64 l.k.R, .int .i64 l.k.C, .slice l.k.O l.k.n l.k.c, .int .i64 l.v.R, .int .i64 l.v.C, .slice l.v.O l.v.n l.v.c, .int .i64 l.o.R, .int .i64 l.o.C, .slice l.o.O l.o.n l.o.c, .int .i64 l.g.R, .int .i64 l.g.C, .slice l.g.O l.g.n l.g.c, .int .i64 l.u.R, .int .i64 l.u.C, .slice l.u.O l.u.n l.u.c, .int .i64 l.d.R, .int .i64 l.d.C, .slice l.d.O l.d.n l.d.c, .int .i64 (l.sh 0), .int .i64 (l.sh 1), .int .i64 (l.sh 2), .int .i64 (l.sh 3), .int .i64 (l.sh 4), .int .i64 (l.sh 5), .int .i64 (l.sh 6)]] w fun e w' => ∃ v', e = .returned v' ∧ OwB w' (w.heap.size + 1) v' (lyB l) ∧ Below w.heap.size w w' := by
  have hr : (w.alloc (.cells #[.slice l.n1.O l.n1.n l.n1.c, .slice l.n2.O l.n2.n l.n2.c, .int .i64 l.q.R, .int .i64 l.q.C, .slice l.q.O l.q.n l.q.c, .int .i64 l.k.R, .int .i64 l.k.C, .slice l.k.O l.k.n l.k.c, .int .i64 l.v.R, .int .i64 l.v.C, .slice l.v.O l.v.n l.v.c, .int .i64 l.o.R, .int .i64 l.o.C, .slice l.o.O l.o.n l.o.c, .int .i64 l.g.R, .int .i64 l.g.C, .slice l.g.O l.g.n l.g.c, .int .i64 l.u.R, .int .i64 l.u.C, .slice l.u.O l.u.n l.u.c, .int .i64 l.d.R, .int .i64 l.d.C, .slice l.d.O l.d.n l.d.c, .int .i64 (l.sh 0), .int .i64 (l.sh 1), .int .i64 (l.sh 2), .int .i64 (l.sh 3), .int .i64 (l.sh 4), .int .i64 (l.sh 5), .int .i64 (l.sh 6)] 67)).rowIs w.heap.size 67 30 (fun i => (lyL l).getD i undef) := World.rowIs_list w (lyL l) 67
  have f1 := fresh_alloc w (.cells #[.slice l.n1.O l.n1.n l.n1.c, .slice l.n2.O l.n2.n l.n2.c, .int .i64 l.q.R, .int .i64 l.q.C, .slice l.q.O l.q.n l.q.c, .int .i64 l.k.R, .int .i64 l.k.C, .slice l.k.O l.k.n l.k.c, .int .i64 l.v.R, .int .i64 l.v.C, .slice l.v.O l.v.n l.v.c, .int .i64 l.o.R, .int .i64 l.o.C, .slice l.o.O l.o.n l.o.c, .int .i64 l.g.R, .int .i64 l.g.C, .slice l.g.O l.g.n l.g.c, .int .i64 l.u.R, .int .i64 l.u.C, .slice l.u.O l.u.n l.u.c, .int .i64 l.d.R, .int .i64 l.d.C, .slice l.d.O l.d.n l.d.c, .int .i64 (l.sh 0), .int .i64 (l.sh 1), .int .i64 (l.sh 2), .int .i64 (l.sh 3), .int .i64 (l.sh 4), .int .i64 (l.sh 5), .int .i64 (l.sh 6)] 67)
  have hs : (w.alloc (.cells #[.slice l.n1.O l.n1.n l.n1.c, .slice l.n2.O l.n2.n l.n2.c, .int .i64 l.q.R, .int .i64 l.q.C, .slice l.q.O l.q.n l.q.c, .int .i64 l.k.R, .int .i64 l.k.C, .slice l.k.O l.k.n l.k.c, .int .i64 l.v.R, .int .i64 l.v.C, .slice l.v.O l.v.n l.v.c, .int .i64 l.o.R, .int .i64 l.o.C, .slice l.o.O l.o.n l.o.c, .int .i64 l.g.R, .int .i64 l.g.C, .slice l.g.O l.g.n l.g.c, .int .i64 l.u.R, .int .i64 l.u.C, .slice l.u.O l.u.n l.u.c, .int .i64 l.d.R, .int .i64 l.d.C, .slice l.d.O l.d.n l.d.c, .int .i64 (l.sh 0), .int .i64 (l.sh 1), .int .i64 (l.sh 2), .int .i64 (l.sh 3), .int .i64 (l.sh 4), .int .i64 (l.sh 5), .int .i64 (l.sh 6)] 67)).heap.size = w.heap.size + 1 := by simp
  have HML := hidd (mB_len hB b1 b2)
  have HLB := hidd hB
  have HR := hidd h
  clear h
  go_enter Try.func33, Try.ntmps33
  go_upto_region 1 with fail
  generalize w.alloc (.cells #[.slice l.n1.O l.n1.n l.n1.c, .slice l.n2.O l.n2.n l.n2.c, .int .i64 l.q.R, .int .i64 l.q.C, .slice l.q.O l.q.n l.q.c, .int .i64 l.k.R, .int .i64 l.k.C, .slice l.k.O l.k.n l.k.c, .int .i64 l.v.R, .int .i64 l.v.C, .slice l.v.O l.v.n l.v.c, .int .i64 l.o.R, .int .i64 l.o.C, .slice l.o.O l.o.n l.o.c, .int .i64 l.g.R, .int .i64 l.g.C, .slice l.g.O l.g.n l.g.c, .int .i64 l.u.R, .int .i64 l.u.C, .slice l.u.O l.u.n l.u.c, .int .i64 l.d.R, .int .i64 l.d.C, .slice l.d.O l.d.n l.d.c, .int .i64 (l.sh 0), .int .i64 (l.sh 1), .int .i64 (l.sh 2), .int .i64 (l.sh 3), .int .i64 (l.sh 4), .int .i64 (l.sh 5), .int .i64 (l.sh 6)] 67) = wa at *
  have HRW : Hid (∀ z, Below (w.heap.size + 1) wa z → z.rowIs w.heap.size 67 30 (fun i => (lyL l).getD i undef)) := fun z hz => hr.of_block (hz.block _ (by omega))
  have HF1 := hidd f1
  have HS := hidd hs
  have HRC : Hid (∀ z, Below (w.heap.size + 1) wa z → z.cell? ⟨w.heap.size, 0, none⟩ = some (.slice l.n1.O l.n1.n l.n1.c) ∧ z.cell? ⟨w.heap.size, 1, none⟩ = some (.slice l.n2.O l.n2.n l.n2.c)) := fun z hz => ⟨(HRW.out z hz).cell (i := 0) (by decide), (HRW.out z hz).cell (i := 1) (by decide)⟩
  have HCA : Hid (∀ z, Below (w.heap.size + 1) wa z → Calls Try.prog 31 #[.slice none 0 0, .slice l.n1.O l.n1.n l.n1.c] z fun e w' => ∃ v', e = .returned v' ∧ OwB w' (w.heap.size + 1) v' (nbL l.n1.f l.n1.n) ∧ Below (w.heap.size + 1) wa w') := fun z hz => (narB_in (HF1.out.trans (hz.mono (by omega))) (Nat.le_succ _) (by have := hz.size; have := HS.out; omega) (own_nilB z (w.heap.size + 1)) (by show 0 ≤ _; omega) HR.out.n1.rd b1 HR.out.n1.bd).mono fun e w' ⟨v', h1, h2, h3⟩ => ⟨v', h1, h2, hz.trans h3⟩
  have HCB : Hid (∀ z v, OwB z (w.heap.size + 1) v (nbL l.n1.f l.n1.n) → Below (w.heap.size + 1) wa z → Calls Try.prog 31 #[v, .slice l.n2.O l.n2.n l.n2.c] z fun e w' => ∃ v', e = .returned v' ∧ OwB w' (w.heap.size + 1) v' (mB l 0) ∧ Below (w.heap.size + 1) wa w') := fun z v hv hz => (narB_in (HF1.out.trans (hz.mono (by omega))) (Nat.le_succ _) (by have := hz.size; have := HS.out; omega) hv (by rw [nbL_len]; omega) HR.out.n2.rd b2 HR.out.n2.bd).mono fun e w' ⟨v', h1, h2, h3⟩ => ⟨v', h1, h2, hz.trans h3⟩
  have hd : Below (w.heap.size + 1) wa wa.drew := (Below.refl _ _).drew
  obtain ⟨c0, c1⟩ := HRC.out _ hd
  clear hr f1 hs
  go_cut [3, 8, 9, 10, 11, 12, 13] (fun v _ _ _ _ _ _ wx => OwB wx (w.heap.size + 1) v (mB l 0) ∧ Below (w.heap.size + 1) wa wx)
  case first =>
    go_region_with (first
      | (go_at_call 31; (with_reducible refine (HCA.out _ hd).mono ?_); rintro e w1 ⟨v1, rfl, o1, g1⟩; obtain ⟨d0, d1⟩ := HRC.out _ g1)
      | (go_at_call 31; (with_reducible refine (HCB.out _ _ o1 g1).mono ?_); rintro e w2 ⟨v2, rfl, o2, g2⟩; obtain ⟨x0, x1⟩ := HRC.out _ g2))
    all_goals
      go_wp2
      go_meet
      case rel => exact ⟨o2, g2⟩
  case rest =>
    obtain ⟨ho, hb⟩ := hcut
    have HO0 := hidd ho
    have HB0 := hidd hb
    clear ho hb hd c0 c1 HCA HCB HRC
    go_wp2_with fail
    refine (matsOf_any _ w.heap.size 0).mono ?_
    rintro e w3 ⟨rfl, f3⟩
    have HO3 := hidd (Own.kept HO0.out f3)
    have HB3 := hidd (HB0.out.trans (f3.mono (by have := HB0.out.size; have := HS.out; omega)))
    clear f3 HO0 HB0
    go_wp2
    go_loopw [3, 5, 15] (fun v _ i wr => ∃ r : Nat, r ≤ 7 ∧ i = .int .i64 (r : Int) ∧ Hid (OwB wr (w.heap.size + 1) v (mB l r)) ∧ Hid (Below (w.heap.size + 1) wa wr)) (fun _ _ i _ => 7 - (intOf i).toNat)
    case atStart => exact ⟨0, Nat.zero_le _, by simp, HO3.out, HB3.out⟩
    case round =>
      clear HO3 HB3
      obtain ⟨r, hr7, rfl, HO, HB⟩ := hrel
      by_cases hlt : r < 7
      · have i0 : (0 : Int) ≤ (r : Int) := by omega
        have i1 : (r : Int) < 7 := by omega
        have hpm := pm7_at w.heap.size 0 r hlt
        simp only [Nat.zero_add] at hpm
        have cr : wr.cell? ⟨w.heap.size, 2 + 3 * r + 2, none⟩ = some (.slice (mtI l r).O (mtI l r).n (mtI l r).c) := by
          rw [(HRW.out _ HB.out).cell (i := 2 + 3 * r + 2) (by omega)]
          exact congrArg some (lyL_mt l r hlt).2.2
        have HC := hidd (narB_in (HF1.out.trans (HB.out.mono (by omega))) (Nat.le_succ _) (by have := HB.out.size; have := HS.out; omega) HO.out (Nat.le_trans (HML.out r) (by omega)) (HR.out.mat r).rd (HLB.out.mat r) (HR.out.mat r).bd)
        go_wp2_with fail
        refine HC.out.mono ?_
        rintro e w4 ⟨v4, rfl, ho4, f4⟩
        have ho9 : OwB w4 (w.heap.size + 1) v4 (mB l (r + 1)) := by rw [mB_succ]; exact ho4
        have HO4 := hidd ho9
        have HB4 := hidd (HB.out.trans f4)
        clear ho4 ho9 f4 HC cr hpm
        go_wp2
        go_roundw
        case rel => exact ⟨r + 1, by omega, by go_num, HO4.out, HB4.out⟩
        case measure => simp [intOf]; omega
      · have er : r = 7 := by omega
        have hnl : ¬ ((r : Int) < 7) := by omega
        rw [er] at HO
        clear er
        have HO9 : Hid (Own wr (w.heap.size + 1) 5 1 _ ((mB l 7).length + 0) (bV (lyB l))) := Own.congr HO.out (fun j hj => bV_pre (mB l 7) _ (by omega))
        have hl7 := HML.out 7
        obtain ⟨q9, hq9⟩ : ∃ q, q = (mB l 7).length := ⟨_, rfl⟩
        rw [← hq9] at HO9 hl7
        have HQ9 := hidd hq9
        have HIX : Hid (∀ k : Nat, k < 7 → ∀ w : World, (Instr.index 65 (.agg #[.int .i64 (l.sh 0), .int .i64 (l.sh 1), .int .i64 (l.sh 2), .int .i64 (l.sh 3), .int .i64 (l.sh 4), .int .i64 (l.sh 5), .int .i64 (l.sh 6)]) (.int .i64 (k : Int))).run Try.prog w = .ok (.int .i64 (l.sh k)) w) := fun k hk w => idx7 l hk w
        have s0 : wr.cell? ⟨w.heap.size, 23, none⟩ = some (.int .i64 (l.sh 0)) := (HRW.out _ HB.out).cell (i := 23) (by decide)
        have s1 : wr.cell? ⟨w.heap.size, 24, none⟩ = some (.int .i64 (l.sh 1)) := (HRW.out _ HB.out).cell (i := 24) (by decide)
        have s2 : wr.cell? ⟨w.heap.size, 25, none⟩ = some (.int .i64 (l.sh 2)) := (HRW.out _ HB.out).cell (i := 25) (by decide)
        have s3 : wr.cell? ⟨w.heap.size, 26, none⟩ = some (.int .i64 (l.sh 3)) := (HRW.out _ HB.out).cell (i := 26) (by decide)
        have s4 : wr.cell? ⟨w.heap.size, 27, none⟩ = some (.int .i64 (l.sh 4)) := (HRW.out _ HB.out).cell (i := 27) (by decide)
        have s5 : wr.cell? ⟨w.heap.size, 28, none⟩ = some (.int .i64 (l.sh 5)) := (HRW.out _ HB.out).cell (i := 28) (by decide)
        have s6 : wr.cell? ⟨w.heap.size, 29, none⟩ = some (.int .i64 (l.sh 6)) := (HRW.out _ HB.out).cell (i := 29) (by decide)
        have HB9 := HB
        clear HO HR HLB HML hq9 b1 b2 hB HB
        go_wp2
        clear s0 s1 s2 s3 s4 s5 s6
        go_loopw [3, 7, 27] (fun v _ i wr => ∃ k : Nat, k ≤ 7 ∧ i = .int .i64 (k : Int) ∧ Hid (Own wr (w.heap.size + 1) 5 1 v (q9 + k) (bV (lyB l))) ∧ Hid (Below (w.heap.size + 1) wa wr)) (fun _ _ i _ => 7 - (intOf i).toNat)
        case atStart => exact ⟨0, Nat.zero_le _, by simp, HO9.out, HB9.out⟩
        case round =>
          clear HO9 HB9
          obtain ⟨k, hk, rfl, HO, HB⟩ := hrel
          obtain ⟨p, uc, rfl, _⟩ := HO.out.rd
          by_cases hlt : k < 7
          · have i0 : (0 : Int) ≤ (k : Int) := by omega
            have i1 : (k : Int) < 7 := by omega
            have hix := HIX.out k hlt
            have HE : Hid (bV (lyB l) (q9 + k) = .int .u8 (l.sh k % 256)) := by
              show _ = _
              unfold lyB
              rw [HQ9.out, bV_suf, nbL_at hlt]
            obtain ⟨z, hz⟩ : ∃ z, z = l.sh k := ⟨_, rfl⟩
            rw [← hz] at HE hix
            clear hz
            have fa := fresh_alloc wr (.cells #[.int .u8 (z % 256)] 5)
            have HN : Hid ((wr.alloc (.cells #[.int .u8 (z % 256)] 5)).cell? ⟨wr.heap.size, 0, none⟩ = some (bV (lyB l) (q9 + k))) := by show _ = _; rw [new_cell, HE.out]
            have HO2 := hidd (HO.out.kept fa)
            have hsz : w.heap.size + 1 ≤ wr.heap.size := by have := HB.out.size; have := HS.out; omega
            have HB2 := hidd (HB.out.trans (fa.mono hsz))
            have HSZ : Hid (w.heap.size + 1 ≤ (wr.alloc (.cells #[.int .u8 (z % 256)] 5)).heap.size) := Nat.le_trans hsz fa.size
            clear fa HE hsz
            go_wp2_with (at_builtin; refine wpList_app1 _ rfl _ _ 35 rfl (w.heap.size + 1) 5 (.int .u8 0) 1 Try.underlying35 infoU8 rfl _ (q9 + k) (bV (lyB l)) rfl HO2.out wr.heap.size 1 rfl HN.out rfl (by omega) (by omega) HSZ.out ?_)
            rintro v' w4 hown happ
            have HO4 := hidd hown
            have HB4 := hidd (happ.below HB2.out HO2.out (Nat.le_refl _) HSZ.out)
            clear hown happ HN HO2 HB2 HSZ hix
            go_wp2
            go_roundw
            case rel => exact ⟨k + 1, by omega, by go_num, HO4.out, HB4.out⟩
            case measure => simp [intOf]; omega
          · obtain rfl : k = 7 := by omega
            go_wp2
            go_ret
            exact ⟨_, rfl, by have h9 := HO.out; unfold OwB; rw [show (lyB l).length = q9 + 7 by unfold lyB; rw [List.length_append, nbL_len, HQ9.out]]; exact h9, HF1.out.trans (HB.out.mono (by omega))⟩
end Go.Proofs.Ytilghknalbhacaa
namespace Go.Proofs.Ytilghknalbhacaa
open Go.RowKit
/-! Turns as bytes. -/
set_option maxRecDepth 20000 in
set_option maxHeartbeats 4000000 in
theorem turnR_any {w : World} {ao : Option Addr} {n cap : Nat} {C S : Nat → Int} (hr : RdA w ao 2 n cap (tcs C S)) (hn : n ≤ 1048576) :
    Calls Try.prog 80 #[.slice ao n cap] w fun e w' => ∃ v', e = .returned v' ∧ OwB w' w.heap.size v' (trL C S n) ∧ Below w.heap.size w w' := by
  have HR := hidd hr
  have hrl := hr.le
  have hrt := hr.top
  unfold maxLen at hrt
  clear hr
  have HO0 : Hid (OwB w w.heap.size (.slice none 0 0) (trL C S 0)) := own_nilB w w.heap.size
  have HF0 := hidd (Below.refl w.heap.size w)
  go_enter Try.func80, Try.ntmps80
  go_wp2
  go_loopw [3, 4] (fun v1 i wr => ∃ k : Nat, k ≤ n ∧ i = .int .i64 (k : Int) ∧ Hid (OwB wr w.heap.size v1 (trL C S k)) ∧ Hid (Below w.heap.size w wr)) (fun v1 i _ => n - (intOf i).toNat)
  case atStart => exact ⟨0, Nat.zero_le _, by simp, HO0.out, HF0.out⟩
  case round =>
    clear HO0 HF0
    obtain ⟨k, hk, rfl, HO, HB⟩ := hrel
    obtain ⟨p, uc, ev, _⟩ := HO.out.rd
    by_cases hlt : k < n
    · have i0 : (0 : Int) ≤ (k : Int) := by omega
      have i1 : (k : Int) < (n : Int) := by omega
      obtain ⟨b1, o1, rfl, hc⟩ := (HR.out.fresh HB.out).two (by omega)
      obtain ⟨d0, d1⟩ := hc k hlt
      have hw0 := u64of_wrap (C k)
      have hw1 := u64of_wrap (S k)
      have hl4 : (trL C S k).length ≤ 4194304 := by rw [trL_len]; omega
      have HO1 := HO
      have HB1 := HB
      have g1 := HB1.out.size
      have HL1 := hidd (addnum_any HO1.out g1 (by omega) (u64of_lt (C k)) (k := 2) (by decide))
      clear hc
      subst ev
      go_wp2_with fail
      refine HL1.out.mono ?_
      rintro e w2 ⟨v2, rfl, ho2, ha2⟩
      have HO2 := hidd ho2
      have HB2 := hidd (ha2.below HB1.out HO1.out (Nat.le_refl _) g1)
      have g2 := HB2.out.size
      have HL2 := hidd (addnum_any (w := w2) HO2.out g2 (by rw [List.length_append, num_len]; omega) (u64of_lt (S k)) (k := 2) (by decide))
      have d2 : w2.cell? ⟨b1, o1 + k * 2 + 1, none⟩ = some (.int .i64 (S k)) := by
        have hlt9 := lt_of_cell d1
        have hb9 := ha2.grown.block b1 hlt9 (fun q => by
          obtain ⟨b7, o7, e7, h7⟩ := HR.out.two (by omega)
          have h8 := lt_of_cell (h7 0 (by omega)).1
          injection e7 with e7
          injection e7 with e7 _
          have := (HO.out.lt b1 q.symm).1
          omega)
        exact (World.cell?_of_block (w := wr) (a := ⟨b1, o1 + k * 2 + 1, none⟩) hb9).trans d1
      clear ho2 ha2 HL1 HO1 HB1 d0 d1 hw0
      go_wp2_with fail
      refine HL2.out.mono ?_
      rintro e w3 ⟨v3, rfl, ho3, ha3⟩
      have ho9 : OwB w3 w.heap.size v3 (trL C S (k + 1)) := by rw [trL_succ]; exact ho3
      have HO3 := hidd ho9
      have HB3 := hidd (ha3.below HB2.out HO2.out (Nat.le_refl _) g2)
      clear ho3 ho9 ha3 HL2 HO2 HB2 d2 hw1
      go_wp2
      go_roundw
      case rel => exact ⟨k + 1, by omega, by go_num, HO3.out, HB3.out⟩
      case measure => simp [intOf]; omega
    · obtain rfl : k = n := by omega
      have hnl : ¬ ((k : Int) < (k : Int)) := by omega
      subst ev
      go_wp2
      go_ret
      exact ⟨_, rfl, HO.out, HB.out⟩
end Go.Proofs.Ytilghknalbhacaa
namespace Go.Proofs.Ytilghknalbhacaa
open Go.RowKit
/-! copied: its loops and their frames. -/
def loopsOf : Code → List Code
  | .loop c => [c]
  | .seq a b => loopsOf a ++ loopsOf b
  | .block _ c => loopsOf c
  | .scope c => loopsOf c
  | .cond _ a b => loopsOf a ++ loopsOf b
  | _ => []
noncomputable def loopM : Code := (loopsOf (Try.f39.body.getD .skip)).headD .skip
noncomputable def loopY : Code := ((loopsOf (Try.f39.body.getD .skip)).drop 1).headD .skip
theorem arr_lit (t : Array Value) (k : Nat) (h : t.size = k) : t = ((List.range k).map (fun i => t.getD i undef)).toArray := by
  apply Array.ext
  · simp [h]
  · intro i h1 h2
    simp [Array.getD, h1]
theorem loop_invP {P : Program} {Q : Exit → Act → World → Prop} {a : Act} {w : World} {c : Code} (Inv : Nat → Act → World → Prop) (N : Nat) (h0 : Inv N a w)
    (h : ∀ m a w, Inv m a w → c.wp P (Exit.then (fun a' w' => ∃ m', m = m' + 1 ∧ Inv m' a' w') Q) a w) : (Code.loop c).wp P Q a w := by
  refine wp_loop_rounds (N + 1) ?_
  have key : ∀ m a w, Inv m a w → Code.rounds P c Q (m + 1) a w := by
    intro m
    induction m with
    | zero =>
      intro a w hi
      rw [rounds_succ]
      refine Code.wp_mono ?_ (h 0 a w hi)
      intro e a' w' hq
      cases e with
      | normal => obtain ⟨m', e, _⟩ := hq; omega
      | _ => exact hq
    | succ m ih =>
      intro a w hi
      rw [rounds_succ]
      refine Code.wp_mono ?_ (h (m + 1) a w hi)
      intro e a' w' hq
      cases e with
      | normal =>
        obtain ⟨m', e, hi'⟩ := hq
        obtain rfl : m' = m := by omega
        exact ih a' w' hi'
      | _ => exact hq
  exact key N a w h0
theorem then_only {P : Program} {c : Code} {R R' : Act → World → Prop} {Q : Exit → Act → World → Prop} {a : Act} {w : World} (h : ∀ a w, R a w → R' a w) (k : c.wp P (Exit.then R (fun _ _ _ => False)) a w) : c.wp P (Exit.then R' Q) a w := by
  refine Code.wp_mono ?_ k
  intro e a' w' hq
  cases e with
  | normal => exact h _ _ hq
  | _ => exact hq.elim
def LF1 (B : Nat) (uM : Option Addr) (n cM k : Nat) (a : Act) : Prop := ∃ u : Nat → Value, u 1 = .pointer (some ⟨B, 0, none⟩) ∧ u 2 = .pointer (some ⟨B + 1, 0, none⟩) ∧ u 34 = .slice uM n cM ∧ u 35 = .int .i64 (n : Int) ∧ u 36 = .int .i64 (k : Int) ∧ a = { tmps := #[u 0, u 1, u 2, u 3, u 4, u 5, u 6, u 7, u 8, u 9, u 10, u 11, u 12, u 13, u 14, u 15, u 16, u 17, u 18, u 19, u 20, u 21, u 22, u 23, u 24, u 25, u 26, u 27, u 28, u 29, u 30, u 31, u 32, u 33, u 34, u 35, u 36, u 37, u 38, u 39, u 40, u 41, u 42, u 43, u 44, u 45, u 46, u 47, u 48, u 49, u 50, u 51, u 52, u 53, u 54, u 55, u 56, u 57, u 58, u 59, u 60, u 61, u 62, u 63, u 64, u 65, u 66, u 67, u 68, u 69, u 70, u 71, u 72, u 73, u 74, u 75, u 76, u 77, u 78, u 79, u 80, u 81, u 82, u 83, u 84, u 85, u 86, u 87], defers := [] }
set_option maxRecDepth 10000 in
theorem LF1.of {B : Nat} {uM : Option Addr} {n cM k : Nat} {t : Array Value} (h : t.size = 88) (h1 : t.getD 1 undef = .pointer (some ⟨B, 0, none⟩)) (h2 : t.getD 2 undef = .pointer (some ⟨B + 1, 0, none⟩)) (h34 : t.getD 34 undef = .slice uM n cM) (h35 : t.getD 35 undef = .int .i64 (n : Int)) (h36 : t.getD 36 undef = .int .i64 (k : Int)) : LF1 B uM n cM k { tmps := t, defers := [] } :=
  ⟨fun i => t.getD i undef, h1, h2, h34, h35, h36, congrArg (fun x => Act.mk x []) (arr_lit t 88 h)⟩
def LF2 (B n k : Nat) (a : Act) : Prop := ∃ u : Nat → Value, u 1 = .pointer (some ⟨B, 0, none⟩) ∧ u 2 = .pointer (some ⟨B + 1, 0, none⟩) ∧ u 50 = .int .i64 (n : Int) ∧ u 51 = .int .i64 (k : Int) ∧ a = { tmps := #[u 0, u 1, u 2, u 3, u 4, u 5, u 6, u 7, u 8, u 9, u 10, u 11, u 12, u 13, u 14, u 15, u 16, u 17, u 18, u 19, u 20, u 21, u 22, u 23, u 24, u 25, u 26, u 27, u 28, u 29, u 30, u 31, u 32, u 33, u 34, u 35, u 36, u 37, u 38, u 39, u 40, u 41, u 42, u 43, u 44, u 45, u 46, u 47, u 48, u 49, u 50, u 51, u 52, u 53, u 54, u 55, u 56, u 57, u 58, u 59, u 60, u 61, u 62, u 63, u 64, u 65, u 66, u 67, u 68, u 69, u 70, u 71, u 72, u 73, u 74, u 75, u 76, u 77, u 78, u 79, u 80, u 81, u 82, u 83, u 84, u 85, u 86, u 87], defers := [] }
set_option maxRecDepth 10000 in
theorem LF2.of {B n k : Nat} {t : Array Value} (h : t.size = 88) (h1 : t.getD 1 undef = .pointer (some ⟨B, 0, none⟩)) (h2 : t.getD 2 undef = .pointer (some ⟨B + 1, 0, none⟩)) (h50 : t.getD 50 undef = .int .i64 (n : Int)) (h51 : t.getD 51 undef = .int .i64 (k : Int)) : LF2 B n k { tmps := t, defers := [] } :=
  ⟨fun i => t.getD i undef, h1, h2, h50, h51, congrArg (fun x => Act.mk x []) (arr_lit t 88 h)⟩
end Go.Proofs.Ytilghknalbhacaa
