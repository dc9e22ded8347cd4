import Derived.Test.YtilghknalbhacaaEnH
namespace Go.Proofs.Ytilghknalbhacaa
open Go.RowKit
/-! layerBytes. -/
theorem idx7 (l : LyD) {k : Nat} (hk : k < 7) (w : World) : (Instr.index 65 (.agg #[.int .i64 (l.sh 0), .int .i64 (l.sh 1), .int .i64 (l.sh 2), .int .i64 (l.sh 3), .int .i64 (l.sh 4), .int .i64 (l.sh 5), .int .i64 (l.sh 6)]) (.int .i64 (k : Int))).run Try.prog w = .ok (.int .i64 (l.sh k)) w := by
  match k, hk with
  | 0, _ => exact (show (Instr.index 65 (.agg #[.int .i64 (l.sh 0), .int .i64 (l.sh 1), .int .i64 (l.sh 2), .int .i64 (l.sh 3), .int .i64 (l.sh 4), .int .i64 (l.sh 5), .int .i64 (l.sh 6)]) (.int .i64 0)).run Try.prog w = .ok (.int .i64 (l.sh 0)) w by kernel_rfl)
  | 1, _ => exact (show (Instr.index 65 (.agg #[.int .i64 (l.sh 0), .int .i64 (l.sh 1), .int .i64 (l.sh 2), .int .i64 (l.sh 3), .int .i64 (l.sh 4), .int .i64 (l.sh 5), .int .i64 (l.sh 6)]) (.int .i64 1)).run Try.prog w = .ok (.int .i64 (l.sh 1)) w by kernel_rfl)
  | 2, _ => exact (show (Instr.index 65 (.agg #[.int .i64 (l.sh 0), .int .i64 (l.sh 1), .int .i64 (l.sh 2), .int .i64 (l.sh 3), .int .i64 (l.sh 4), .int .i64 (l.sh 5), .int .i64 (l.sh 6)]) (.int .i64 2)).run Try.prog w = .ok (.int .i64 (l.sh 2)) w by kernel_rfl)
  | 3, _ => exact (show (Instr.index 65 (.agg #[.int .i64 (l.sh 0), .int .i64 (l.sh 1), .int .i64 (l.sh 2), .int .i64 (l.sh 3), .int .i64 (l.sh 4), .int .i64 (l.sh 5), .int .i64 (l.sh 6)]) (.int .i64 3)).run Try.prog w = .ok (.int .i64 (l.sh 3)) w by kernel_rfl)
  | 4, _ => exact (show (Instr.index 65 (.agg #[.int .i64 (l.sh 0), .int .i64 (l.sh 1), .int .i64 (l.sh 2), .int .i64 (l.sh 3), .int .i64 (l.sh 4), .int .i64 (l.sh 5), .int .i64 (l.sh 6)]) (.int .i64 4)).run Try.prog w = .ok (.int .i64 (l.sh 4)) w by kernel_rfl)
  | 5, _ => exact (show (Instr.index 65 (.agg #[.int .i64 (l.sh 0), .int .i64 (l.sh 1), .int .i64 (l.sh 2), .int .i64 (l.sh 3), .int .i64 (l.sh 4), .int .i64 (l.sh 5), .int .i64 (l.sh 6)]) (.int .i64 5)).run Try.prog w = .ok (.int .i64 (l.sh 5)) w by kernel_rfl)
  | 6, _ => exact (show (Instr.index 65 (.agg #[.int .i64 (l.sh 0), .int .i64 (l.sh 1), .int .i64 (l.sh 2), .int .i64 (l.sh 3), .int .i64 (l.sh 4), .int .i64 (l.sh 5), .int .i64 (l.sh 6)]) (.int .i64 6)).run Try.prog w = .ok (.int .i64 (l.sh 6)) w by kernel_rfl)
set_option maxRecDepth 100000 in
set_option maxHeartbeats 8000000 in
theorem layB_any {w : World} {l : LyD} (h : LyR w l) (hB : LyB l) (b1 : l.n1.n ≤ 1048576) (b2 : l.n2.n ≤ 1048576) :
    Calls Try.prog 33 #[.agg #[.slice l.n1.O l.n1.n l.n1.c, .slice l.n2.O l.n2.n l.n2.c, .int .i64 l.q.R, .int .i64 l.q.C, .slice l.q.O l.q.n l.q.c, .int .i64 l.k.R, .int .i64 l.k.C, .slice l.k.O l.k.n l.k.c, .int .i64 l.v.R, .int .i64 l.v.C, .slice l.v.O l.v.n l.v.c, .int .i64 l.o.R, .int .i64 l.o.C, .slice l.o.O l.o.n l.o.c, .int .i64 l.g.R, .int .i64 l.g.C, .slice l.g.O l.g.n l.g.c, .int .i64 l.u.R, .int .i64 l.u.C, .slice l.u.O l.u.n l.u.c, .int .i64 l.d.R, .int .i64 l.d.C, .slice l.d.O l.d.n l.d.c, .int .i64 (l.sh 0), .int .i64 (l.sh 1), .int .i64 (l.sh 2), .int .i64 (l.sh 3), .int .i64 (l.sh 4), .int .i64 (l.sh 5), .int .i64 (l.sh 6)]] w fun e w' => ∃ v', e = .returned v' ∧ OwB w' (w.heap.size + 1) v' (lyB l) ∧ Below w.heap.size w w' := by
  have hr : (w.alloc (.cells #[.slice l.n1.O l.n1.n l.n1.c, .slice l.n2.O l.n2.n l.n2.c, .int .i64 l.q.R, .int .i64 l.q.C, .slice l.q.O l.q.n l.q.c, .int .i64 l.k.R, .int .i64 l.k.C, .slice l.k.O l.k.n l.k.c, .int .i64 l.v.R, .int .i64 l.v.C, .slice l.v.O l.v.n l.v.c, .int .i64 l.o.R, .int .i64 l.o.C, .slice l.o.O l.o.n l.o.c, .int .i64 l.g.R, .int .i64 l.g.C, .slice l.g.O l.g.n l.g.c, .int .i64 l.u.R, .int .i64 l.u.C, .slice l.u.O l.u.n l.u.c, .int .i64 l.d.R, .int .i64 l.d.C, .slice l.d.O l.d.n l.d.c, .int .i64 (l.sh 0), .int .i64 (l.sh 1), .int .i64 (l.sh 2), .int .i64 (l.sh 3), .int .i64 (l.sh 4), .int .i64 (l.sh 5), .int .i64 (l.sh 6)] 67)).rowIs w.heap.size 67 30 (fun i => (lyL l).getD i undef) := World.rowIs_list w (lyL l) 67
  have f1 := fresh_alloc w (.cells #[.slice l.n1.O l.n1.n l.n1.c, .slice l.n2.O l.n2.n l.n2.c, .int .i64 l.q.R, .int .i64 l.q.C, .slice l.q.O l.q.n l.q.c, .int .i64 l.k.R, .int .i64 l.k.C, .slice l.k.O l.k.n l.k.c, .int .i64 l.v.R, .int .i64 l.v.C, .slice l.v.O l.v.n l.v.c, .int .i64 l.o.R, .int .i64 l.o.C, .slice l.o.O l.o.n l.o.c, .int .i64 l.g.R, .int .i64 l.g.C, .slice l.g.O l.g.n l.g.c, .int .i64 l.u.R, .int .i64 l.u.C, .slice l.u.O l.u.n l.u.c, .int .i64 l.d.R, .int .i64 l.d.C, .slice l.d.O l.d.n l.d.c, .int .i64 (l.sh 0), .int .i64 (l.sh 1), .int .i64 (l.sh 2), .int .i64 (l.sh 3), .int .i64 (l.sh 4), .int .i64 (l.sh 5), .int .i64 (l.sh 6)] 67)
  have hs : (w.alloc (.cells #[.slice l.n1.O l.n1.n l.n1.c, .slice l.n2.O l.n2.n l.n2.c, .int .i64 l.q.R, .int .i64 l.q.C, .slice l.q.O l.q.n l.q.c, .int .i64 l.k.R, .int .i64 l.k.C, .slice l.k.O l.k.n l.k.c, .int .i64 l.v.R, .int .i64 l.v.C, .slice l.v.O l.v.n l.v.c, .int .i64 l.o.R, .int .i64 l.o.C, .slice l.o.O l.o.n l.o.c, .int .i64 l.g.R, .int .i64 l.g.C, .slice l.g.O l.g.n l.g.c, .int .i64 l.u.R, .int .i64 l.u.C, .slice l.u.O l.u.n l.u.c, .int .i64 l.d.R, .int .i64 l.d.C, .slice l.d.O l.d.n l.d.c, .int .i64 (l.sh 0), .int .i64 (l.sh 1), .int .i64 (l.sh 2), .int .i64 (l.sh 3), .int .i64 (l.sh 4), .int .i64 (l.sh 5), .int .i64 (l.sh 6)] 67)).heap.size = w.heap.size + 1 := by simp
  have HML := hidd (mB_len hB b1 b2)
  have HLB := hidd hB
  have HR := hidd h
  clear h
  go_enter Try.func33, Try.ntmps33
  go_upto_region 1 with fail
  generalize w.alloc (.cells #[.slice l.n1.O l.n1.n l.n1.c, .slice l.n2.O l.n2.n l.n2.c, .int .i64 l.q.R, .int .i64 l.q.C, .slice l.q.O l.q.n l.q.c, .int .i64 l.k.R, .int .i64 l.k.C, .slice l.k.O l.k.n l.k.c, .int .i64 l.v.R, .int .i64 l.v.C, .slice l.v.O l.v.n l.v.c, .int .i64 l.o.R, .int .i64 l.o.C, .slice l.o.O l.o.n l.o.c, .int .i64 l.g.R, .int .i64 l.g.C, .slice l.g.O l.g.n l.g.c, .int .i64 l.u.R, .int .i64 l.u.C, .slice l.u.O l.u.n l.u.c, .int .i64 l.d.R, .int .i64 l.d.C, .slice l.d.O l.d.n l.d.c, .int .i64 (l.sh 0), .int .i64 (l.sh 1), .int .i64 (l.sh 2), .int .i64 (l.sh 3), .int .i64 (l.sh 4), .int .i64 (l.sh 5), .int .i64 (l.sh 6)] 67) = wa at *
  have HRW : Hid (∀ z, Below (w.heap.size + 1) wa z → z.rowIs w.heap.size 67 30 (fun i => (lyL l).getD i undef)) := fun z hz => hr.of_block (hz.block _ (by omega))
  have HF1 := hidd f1
  have HS := hidd hs
  have HRC : Hid (∀ z, Below (w.heap.size + 1) wa z → z.cell? ⟨w.heap.size, 0, none⟩ = some (.slice l.n1.O l.n1.n l.n1.c) ∧ z.cell? ⟨w.heap.size, 1, none⟩ = some (.slice l.n2.O l.n2.n l.n2.c)) := fun z hz => ⟨(HRW.out z hz).cell (i := 0) (by decide), (HRW.out z hz).cell (i := 1) (by decide)⟩
  have HCA : Hid (∀ z, Below (w.heap.size + 1) wa z → Calls Try.prog 31 #[.slice none 0 0, .slice l.n1.O l.n1.n l.n1.c] z fun e w' => ∃ v', e = .returned v' ∧ OwB w' (w.heap.size + 1) v' (nbL l.n1.f l.n1.n) ∧ Below (w.heap.size + 1) wa w') := fun z hz => (narB_in (HF1.out.trans (hz.mono (by omega))) (Nat.le_succ _) (by have := hz.size; have := HS.out; omega) (own_nilB z (w.heap.size + 1)) (by show 0 ≤ _; omega) HR.out.n1.rd b1 HR.out.n1.bd).mono fun e w' ⟨v', h1, h2, h3⟩ => ⟨v', h1, h2, hz.trans h3⟩
  have HCB : Hid (∀ z v, OwB z (w.heap.size + 1) v (nbL l.n1.f l.n1.n) → Below (w.heap.size + 1) wa z → Calls Try.prog 31 #[v, .slice l.n2.O l.n2.n l.n2.c] z fun e w' => ∃ v', e = .returned v' ∧ OwB w' (w.heap.size + 1) v' (mB l 0) ∧ Below (w.heap.size + 1) wa w') := fun z v hv hz => (narB_in (HF1.out.trans (hz.mono (by omega))) (Nat.le_succ _) (by have := hz.size; have := HS.out; omega) hv (by rw [nbL_len]; omega) HR.out.n2.rd b2 HR.out.n2.bd).mono fun e w' ⟨v', h1, h2, h3⟩ => ⟨v', h1, h2, hz.trans h3⟩
  have hd : Below (w.heap.size + 1) wa wa.drew := (Below.refl _ _).drew
  obtain ⟨c0, c1⟩ := HRC.out _ hd
  clear hr f1 hs
  go_cut [3, 8, 9, 10, 11, 12, 13] (fun v _ _ _ _ _ _ wx => OwB wx (w.heap.size + 1) v (mB l 0) ∧ Below (w.heap.size + 1) wa wx)
  case first =>
    go_region_with (first
      | (go_at_call 31; (with_reducible refine (HCA.out _ hd).mono ?_); rintro e w1 ⟨v1, rfl, o1, g1⟩; obtain ⟨d0, d1⟩ := HRC.out _ g1)
      | (go_at_call 31; (with_reducible refine (HCB.out _ _ o1 g1).mono ?_); rintro e w2 ⟨v2, rfl, o2, g2⟩; obtain ⟨x0, x1⟩ := HRC.out _ g2))
    all_goals
      go_wp2
      go_meet
      case rel => exact ⟨o2, g2⟩
  case rest =>
    obtain ⟨ho, hb⟩ := hcut
    have HO0 := hidd ho
    have HB0 := hidd hb
    clear ho hb hd c0 c1 HCA HCB HRC
    go_wp2_with fail
    refine (matsOf_any _ w.heap.size 0).mono ?_
    rintro e w3 ⟨rfl, f3⟩
    have HO3 := hidd (Own.kept HO0.out f3)
    have HB3 := hidd (HB0.out.trans (f3.mono (by have := HB0.out.size; have := HS.out; omega)))
    clear f3 HO0 HB0
    go_wp2
    go_loopw [3, 5, 15] (fun v _ i wr => ∃ r : Nat, r ≤ 7 ∧ i = .int .i64 (r : Int) ∧ Hid (OwB wr (w.heap.size + 1) v (mB l r)) ∧ Hid (Below (w.heap.size + 1) wa wr)) (fun _ _ i _ => 7 - (intOf i).toNat)
    case atStart => exact ⟨0, Nat.zero_le _, by simp, HO3.out, HB3.out⟩
    case round =>
      clear HO3 HB3
      obtain ⟨r, hr7, rfl, HO, HB⟩ := hrel
      by_cases hlt : r < 7
      · have i0 : (0 : Int) ≤ (r : Int) := by omega
        have i1 : (r : Int) < 7 := by omega
        have hpm := pm7_at w.heap.size 0 r hlt
        simp only [Nat.zero_add] at hpm
        have cr : wr.cell? ⟨w.heap.size, 2 + 3 * r + 2, none⟩ = some (.slice (mtI l r).O (mtI l r).n (mtI l r).c) := by
          rw [(HRW.out _ HB.out).cell (i := 2 + 3 * r + 2) (by omega)]
          exact congrArg some (lyL_mt l r hlt).2.2
        have HC := hidd (narB_in (HF1.out.trans (HB.out.mono (by omega))) (Nat.le_succ _) (by have := HB.out.size; have := HS.out; omega) HO.out (Nat.le_trans (HML.out r) (by omega)) (HR.out.mat r).rd (HLB.out.mat r) (HR.out.mat r).bd)
        go_wp2_with fail
        refine HC.out.mono ?_
        rintro e w4 ⟨v4, rfl, ho4, f4⟩
        have ho9 : OwB w4 (w.heap.size + 1) v4 (mB l (r + 1)) := by rw [mB_succ]; exact ho4
        have HO4 := hidd ho9
        have HB4 := hidd (HB.out.trans f4)
        clear ho4 ho9 f4 HC cr hpm
        go_wp2
        go_roundw
        case rel => exact ⟨r + 1, by omega, by go_num, HO4.out, HB4.out⟩
        case measure => simp [intOf]; omega
      · have er : r = 7 := by omega
        have hnl : ¬ ((r : Int) < 7) := by omega
        rw [er] at HO
        clear er
        have HO9 : Hid (Own wr (w.heap.size + 1) 5 1 _ ((mB l 7).length + 0) (bV (lyB l))) := Own.congr HO.out (fun j hj => bV_pre (mB l 7) _ (by omega))
        have hl7 := HML.out 7
        obtain ⟨q9, hq9⟩ : ∃ q, q = (mB l 7).length := ⟨_, rfl⟩
        rw [← hq9] at HO9 hl7
        have HQ9 := hidd hq9
        have HIX : Hid (∀ k : Nat, k < 7 → ∀ w : World, (Instr.index 65 (.agg #[.int .i64 (l.sh 0), .int .i64 (l.sh 1), .int .i64 (l.sh 2), .int .i64 (l.sh 3), .int .i64 (l.sh 4), .int .i64 (l.sh 5), .int .i64 (l.sh 6)]) (.int .i64 (k : Int))).run Try.prog w = .ok (.int .i64 (l.sh k)) w) := fun k hk w => idx7 l hk w
        have s0 : wr.cell? ⟨w.heap.size, 23, none⟩ = some (.int .i64 (l.sh 0)) := (HRW.out _ HB.out).cell (i := 23) (by decide)
        have s1 : wr.cell? ⟨w.heap.size, 24, none⟩ = some (.int .i64 (l.sh 1)) := (HRW.out _ HB.out).cell (i := 24) (by decide)
        have s2 : wr.cell? ⟨w.heap.size, 25, none⟩ = some (.int .i64 (l.sh 2)) := (HRW.out _ HB.out).cell (i := 25) (by decide)
        have s3 : wr.cell? ⟨w.heap.size, 26, none⟩ = some (.int .i64 (l.sh 3)) := (HRW.out _ HB.out).cell (i := 26) (by decide)
        have s4 : wr.cell? ⟨w.heap.size, 27, none⟩ = some (.int .i64 (l.sh 4)) := (HRW.out _ HB.out).cell (i := 27) (by decide)
        have s5 : wr.cell? ⟨w.heap.size, 28, none⟩ = some (.int .i64 (l.sh 5)) := (HRW.out _ HB.out).cell (i := 28) (by decide)
        have s6 : wr.cell? ⟨w.heap.size, 29, none⟩ = some (.int .i64 (l.sh 6)) := (HRW.out _ HB.out).cell (i := 29) (by decide)
        have HB9 := HB
        clear HO HR HLB HML hq9 b1 b2 hB HB
        go_wp2
        clear s0 s1 s2 s3 s4 s5 s6
        go_loopw [3, 7, 27] (fun v _ i wr => ∃ k : Nat, k ≤ 7 ∧ i = .int .i64 (k : Int) ∧ Hid (Own wr (w.heap.size + 1) 5 1 v (q9 + k) (bV (lyB l))) ∧ Hid (Below (w.heap.size + 1) wa wr)) (fun _ _ i _ => 7 - (intOf i).toNat)
        case atStart => exact ⟨0, Nat.zero_le _, by simp, HO9.out, HB9.out⟩
        case round =>
          clear HO9 HB9
          obtain ⟨k, hk, rfl, HO, HB⟩ := hrel
          obtain ⟨p, uc, rfl, _⟩ := HO.out.rd
          by_cases hlt : k < 7
          · have i0 : (0 : Int) ≤ (k : Int) := by omega
            have i1 : (k : Int) < 7 := by omega
            have hix := HIX.out k hlt
            have HE : Hid (bV (lyB l) (q9 + k) = .int .u8 (l.sh k % 256)) := by
              show _ = _
              unfold lyB
              rw [HQ9.out, bV_suf, nbL_at hlt]
            obtain ⟨z, hz⟩ : ∃ z, z = l.sh k := ⟨_, rfl⟩
            rw [← hz] at HE hix
            clear hz
            have fa := fresh_alloc wr (.cells #[.int .u8 (z % 256)] 5)
            have HN : Hid ((wr.alloc (.cells #[.int .u8 (z % 256)] 5)).cell? ⟨wr.heap.size, 0, none⟩ = some (bV (lyB l) (q9 + k))) := by show _ = _; rw [new_cell, HE.out]
            have HO2 := hidd (HO.out.kept fa)
            have hsz : w.heap.size + 1 ≤ wr.heap.size := by have := HB.out.size; have := HS.out; omega
            have HB2 := hidd (HB.out.trans (fa.mono hsz))
            have HSZ : Hid (w.heap.size + 1 ≤ (wr.alloc (.cells #[.int .u8 (z % 256)] 5)).heap.size) := Nat.le_trans hsz fa.size
            clear fa HE hsz
            go_wp2_with (at_builtin; refine wpList_app1 _ rfl _ _ 35 rfl (w.heap.size + 1) 5 (.int .u8 0) 1 Try.underlying35 infoU8 rfl _ (q9 + k) (bV (lyB l)) rfl HO2.out wr.heap.size 1 rfl HN.out rfl (by omega) (by omega) HSZ.out ?_)
            rintro v' w4 hown happ
            have HO4 := hidd hown
            have HB4 := hidd (happ.below HB2.out HO2.out (Nat.le_refl _) HSZ.out)
            clear hown happ HN HO2 HB2 HSZ hix
            go_wp2
            go_roundw
            case rel => exact ⟨k + 1, by omega, by go_num, HO4.out, HB4.out⟩
            case measure => simp [intOf]; omega
          · obtain rfl : k = 7 := by omega
            go_wp2
            go_ret
            exact ⟨_, rfl, by have h9 := HO.out; unfold OwB; rw [show (lyB l).length = q9 + 7 by unfold lyB; rw [List.length_append, nbL_len, HQ9.out]]; exact h9, HF1.out.trans (HB.out.mono (by omega))⟩
end Go.Proofs.Ytilghknalbhacaa
