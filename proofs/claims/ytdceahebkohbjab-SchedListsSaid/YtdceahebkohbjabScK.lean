import Derived.Test.YtdceahebkohbjabScJ
import Derived.Test.YtdceahebkohbjabScR
namespace Go.Proofs.Ytdceahebkohbjab
open Go.RowKit
/-! look. -/
theorem vict_room {c : Me} {S : Nat → Se} {n : Nat} {g : Int} {p : Nat} {l : Int} : ∀ {y : Nat} {out : Nat → Bool} {ids : List Nat} {ot : Nat → Bool} {js : List Nat}, vict c S n g p l y out ids = some (ot, js) → l ≤ rom c S n g p ot := by
  intro y
  induction y with
  | zero =>
    intro out ids ot js h
    unfold vict at h
    split at h
    · next q => cases h; exact q
    · cases h
  | succ y ih =>
    intro out ids ot js h
    unfold vict at h
    split at h
    · next q => cases h; exact q
    · split at h
      · cases h
      · split at h
        · exact ih h
        · exact ih h
theorem mst_bd {c : Me} {s : Se} {left : Int} (hc : okM c 1) (h : 1 ≤ left) : 1 ≤ mst c s left ∧ mst c s left ≤ left := by
  have := hc.2.2.2.2.2.2.2.1
  have := hc.2.2.2.2.2.2.2.2.2.2.1
  unfold mst
  split <;> omega
theorem lst_bd {c : Me} {s : Se} {left : Int} (hc : okM c 1) (h : 1 ≤ left) : 1 ≤ lst c s left ∧ lst c s left ≤ mst c s left := by
  have := hc.2.2.2.2.2.2.2.1
  have := hc.2.2.2.2.2.2.2.2.2.2.1
  unfold mst lst
  split <;> omega
theorem need_bd {c : Me} {x : Int} (h1 : 1 ≤ c.bl) (h0 : 0 ≤ x) (h2 : x ≤ 100000) : 0 ≤ need c x ∧ need c x ≤ 100000 := by
  unfold need
  have a : 0 ≤ (x + c.bl - 1) / c.bl := Int.ediv_nonneg (by omega) (by omega)
  have e := (need_iff h1 x 100000).2 (by
    have : 100000 * 1 ≤ 100000 * c.bl := Int.mul_le_mul_of_nonneg_left h1 (by omega)
    omega)
  unfold need at e
  exact ⟨a, e⟩
def tri (a b c : Int) (j : Nat) : Value := if j = 0 then .int .i64 a else if j = 1 then .int .i64 b else .int .i64 c
theorem tri_new (w : World) (a b c : Int) : (w.alloc (.cells #[.int .i64 a, .int .i64 b, .int .i64 c] 45)).rowIs w.heap.size 45 3 (tri a b c) :=
  World.rowIs_alloc w #[.int .i64 a, .int .i64 b, .int .i64 c] 45 (tri a b c) (fun i hi => by
    simp at hi
    have : i = 0 ∨ i = 1 ∨ i = 2 := by omega
    rcases this with rfl | rfl | rfl <;> rfl)
set_option maxRecDepth 100000 in
set_option maxHeartbeats 4000000 in
theorem look_any {W w : World} {c : Me} {u : Option Addr} {n cp : Nat} {L : Nat → Se} {b : Nat} {st : Pn} (hS : ∀ z, Chg W z (fun x => x = b) → SeA z u n cp L) (hn : n ≤ 16) (hc : okM c 1) (hk : ∀ i, i < n → okS c (L i)) (hg0 : 0 ≤ st.given) (hg1 : st.given ≤ 100000) (hO : st.O.length ≤ 900) (hZ : st.Z.length ≤ 900) (hl0 : 1 ≤ st.left) (hl1 : st.left ≤ 1024)
    (h : Dsk W c u n cp L b w st) {p : Nat} (hp : p < n) :
    Calls Try.prog 28 #[.pointer (some ⟨b, 0, none⟩), .int .i64 p] w fun e w' => e = .returned (.tuple #[]) ∧ w.heap.size ≤ w'.heap.size ∧ Dsk W c u n cp L b w' (lok c L n p st) := by
  obtain ⟨vO, vZ, h1, h2, h3⟩ := h.ex
  have HSE := hidd (hS w h.low)
  have HSW := hidd hS
  have HC := hidd hc
  have HK := hidd hk
  have hkp := hk p hp
  obtain ⟨b1, o1, hu, hcell⟩ := HSE.out.rd.seat (by omega)
  subst hu
  obtain ⟨x1, x2, x3, x4, x5⟩ := hcell p hp
  have k1 : (p : Int) < (n : Int) := by omega
  have c5 := h1.cells.c5
  have HWA : Hid (∀ z, Below w.heap.size w z → Calls Try.prog 41 #[.pointer (some ⟨b, 0, none⟩), seV (L p)] z fun e w' => e = .returned (.tuple #[.int .i64 (mst c (L p) st.left), .int .i64 (lst c (L p) st.left)]) ∧ Below z.heap.size z w') := fun z hz => wants_any (h1.fresh hz) (L p) hc hkp
  have HPU : Hid (∀ z, Below w.heap.size w z → Calls Try.prog 42 #[.pointer (some ⟨b, 0, none⟩), .int .i64 p, .int .i64 (lst c (L p) st.left)] z (MrP W c (some ⟨b1, o1, none⟩) n cp L b st (vict c L n st.given p (lst c (L p) st.left) (n - 1) st.out []) z)) := fun z hz => putOut_any hS hn hc hk hg0 (by omega) (by omega) (h.fresh hz) hp _
  obtain ⟨m1, m2⟩ := mst_bd (s := L p) hc hl0
  obtain ⟨n1, n2⟩ := lst_bd (s := L p) hc hl0
  obtain ⟨m, HM⟩ : ∃ x, Hid (x = mst c (L p) st.left) := ⟨_, rfl⟩
  obtain ⟨l, HL⟩ : ∃ x, Hid (x = lst c (L p) st.left) := ⟨_, rfl⟩
  obtain ⟨R, HR⟩ : ∃ x, Hid (x = vict c L n st.given p (lst c (L p) st.left) (n - 1) st.out []) := ⟨_, rfl⟩
  have HLN : Hid (R = none → lok c L n p st = st) := fun e => by
    unfold lok
    rw [← HR.out, e]
  have HLS : Hid (∀ ot ids, R = some (ot, ids) → lok c L n p st = ⟨ot, st.left - min m (rom c L n st.given p ot), st.given + bey c (L p) (min m (rom c L n st.given p ot)), st.O ++ ids, st.Z ++ [(p, min m (rom c L n st.given p ot))]⟩) := fun ot ids e => by
    unfold lok
    rw [← HR.out, e, HM.out]
  have HVR : Hid (∀ ot js, R = some (ot, js) → l ≤ rom c L n st.given p ot) := fun ot js e => by rw [HL.out]; exact vict_room (HR.out.symm.trans e)
  rw [← HM.out] at HWA m1 m2 n2
  rw [← HL.out] at HWA HPU n1 n2
  rw [← HL.out] at HR
  rw [← HR.out] at HPU
  obtain ⟨Q, HQ⟩ : ∃ x, Hid (x = lok c L n p st) := ⟨_, rfl⟩
  rw [← HQ.out] at HLN HLS ⊢
  have HSV : Hid (seV (L p) = .agg #[.int .i64 (L p).id, .int .i64 (L p).kn, .int .i64 (L p).ca, .int .i64 (L p).wa, .slice (L p).ho (L p).hn (L p).hc]) := rfl
  rw [HSV.out] at HWA
  have HFI := hidd (fun r hr => fills_any (L p) hkp.1 hkp.2.1 hkp.2.2.1 hkp.2.2.2.1 r hr)
  rw [HSV.out] at HFI
  have HDSK := hidd h
  have a1 := hkp.2.2.1
  have a2 : (L p).ca ≤ 63 := by have := hkp.2.2.2.1; have := hkp.2.1; omega
  have HHB := okB_le hkp.2.2.2.2.2 hc.2.2.2.1 hc.2.2.1
  have a3 : ((L p).hn : Int) ≤ 256 := by have := hc.2.2.2.1; omega
  clear HHB hcell hS hc hk hkp h1 h2 h3 h
  obtain ⟨y0, HY0⟩ : ∃ y, Hid (y = (L p).id) := ⟨_, rfl⟩
  obtain ⟨y1, HY1⟩ : ∃ y, Hid (y = (L p).kn) := ⟨_, rfl⟩
  obtain ⟨y2, HY2⟩ : ∃ y, Hid (y = (L p).ca) := ⟨_, rfl⟩
  obtain ⟨y3, HY3⟩ : ∃ y, Hid (y = (L p).wa) := ⟨_, rfl⟩
  obtain ⟨hn0, HHN⟩ : ∃ y, Hid (y = (L p).hn) := ⟨_, rfl⟩
  obtain ⟨hc0, HHC⟩ : ∃ y, Hid (y = (L p).hc) := ⟨_, rfl⟩
  obtain ⟨ho, HHO⟩ : ∃ y, Hid (y = (L p).ho) := ⟨_, rfl⟩
  rw [← HHN.out, ← HHC.out, ← HHO.out] at x5
  rw [← HY0.out] at x1
  rw [← HY1.out] at x2
  rw [← HY2.out] at x3 a1 a2
  rw [← HY3.out] at x4
  rw [← HHN.out] at a3
  rw [← HY0.out, ← HY1.out, ← HY2.out, ← HY3.out, ← HHN.out, ← HHC.out, ← HHO.out] at HWA HFI
  have HFA := hidd (fresh_alloc w (.cells #[.int .i64 y0, .int .i64 y1, .int .i64 y2, .int .i64 y3, .slice ho hn0 hc0] 32))
  have HBX := hidd (box5 w (.int .i64 y0) (.int .i64 y1) (.int .i64 y2) (.int .i64 y3) (.slice ho hn0 hc0) 32)
  simp only at HBX
  go_enter Try.func28, Try.ntmps28
  go_upto_region 1 with fail
  obtain ⟨w1, HW1⟩ : ∃ w1, Hid (w1 = w.alloc (.cells #[.int .i64 y0, .int .i64 y1, .int .i64 y2, .int .i64 y3, .slice ho hn0 hc0] 32)) := ⟨_, rfl⟩
  rw [← HW1.out] at HFA HBX ⊢
  obtain ⟨e0, e1, e2, e3, e4⟩ := HBX.out
  clear x1 x2 x3 x4 x5 c5
  go_upto_region 2 with (go_at_call 41; with_reducible refine (HWA.out _ HFA.out).mono ?_; rintro e w2 ⟨rfl, hb2⟩)
  have HB2 := hidd (HFA.out.trans (hb2.mono HFA.out.size))
  have HRW : Hid (w2.rowIs w.heap.size 32 5 (seC (L p))) := by
    have := World.rowIs_alloc w #[.int .i64 y0, .int .i64 y1, .int .i64 y2, .int .i64 y3, .slice ho hn0 hc0] 32 (seC (L p)) (fun i hi => by
      rw [HY0.out, HY1.out, HY2.out, HY3.out, HHN.out, HHC.out, HHO.out]
      simp at hi
      have : i = 0 ∨ i = 1 ∨ i = 2 ∨ i = 3 ∨ i = 4 := by omega
      rcases this with rfl | rfl | rfl | rfl | rfl <;> rfl)
    rw [← HW1.out] at this
    exact this.of_block (hb2.block _ this.lt)
  clear hb2 e0 e1 e2 e3 e4 HBX HFA HWA HW1
  cases R with
  | none =>
    have HPX : Hid (Calls Try.prog 42 #[.pointer (some ⟨b, 0, none⟩), .int .i64 p, .int .i64 l] w2 fun e w' => e = .returned (.bool false) ∧ w2.heap.size ≤ w'.heap.size ∧ Dsk W c (some ⟨b1, o1, none⟩) n cp L b w' st) := (HPU.out w2 HB2.out).mono (fun e w' q => by
      obtain ⟨q1, q2, q3⟩ := q
      rcases q3 with ⟨_, e1, q4⟩ | ⟨_, _, e1, _⟩
      · exact ⟨e1, q1, q4⟩
      · cases e1)
    go_wp2_with (go_at_call 42; with_reducible refine HPX.out.mono ?_; rintro e w3 ⟨rfl, hs3, hd3⟩; have HD3 := hidd hd3; have HS3 := hidd hs3; clear hd3 hs3)
    (try simp only [Exit.inBlock, Exit.then]); refine bodyPost_ret (results_none rfl _ _ _) rfl ?_
    refine ⟨rfl, Nat.le_trans HB2.out.size HS3.out, ?_⟩
    rw [HLN.out (by trivial)]
    exact HD3.out
  | some oi =>
    obtain ⟨ot, ids⟩ := oi
    have HPX : Hid (Calls Try.prog 42 #[.pointer (some ⟨b, 0, none⟩), .int .i64 p, .int .i64 l] w2 fun e w' => e = .returned (.bool true) ∧ w2.heap.size ≤ w'.heap.size ∧ Kp w2 w' ∧ Dsk W c (some ⟨b1, o1, none⟩) n cp L b w' ⟨ot, st.left, st.given, st.O ++ ids, st.Z⟩) := (HPU.out w2 HB2.out).mono (fun e w' q => by
      obtain ⟨q1, q2, q3⟩ := q
      rcases q3 with ⟨e1, _⟩ | ⟨ot', ids', e1, e2, q4⟩
      · cases e1
      · cases e1
        exact ⟨e2, q1, q2, q4⟩)
    go_upto_region 3 with (go_at_call 42; with_reducible refine HPX.out.mono ?_; rintro e w3 ⟨rfl, hs3, kp3, hd3⟩)
    have HS3 := hidd (Nat.le_trans HB2.out.size hs3)
    have HRW3 := hidd (kp3 _ _ _ _ HRW.out (by decide) (by decide))
    have HD3 := hidd hd3
    obtain ⟨vO3, vZ3, q1, q2, q3⟩ := hd3.ex
    obtain ⟨A, hA⟩ := isO_ex ot
    have RG := hidd (q1.out_range hA)
    have SL := hidd hA.size
    have HSE3 := hidd (HSW.out w3 hd3.low)
    have HRM := hidd (room_any q1 HSE3.out hn HC.out HK.out hg0 (show st.given ≤ 1000000 by omega) hA hp)
    obtain ⟨rm, HRMO⟩ : ∃ x, Hid (x = rom c L n st.given p ot) := ⟨_, rfl⟩
    have hlr : l ≤ rm := by rw [HRMO.out]; exact HVR.out ot ids rfl
    simp only at HRM
    rw [← HRMO.out] at HRM
    obtain ⟨kk, hkk⟩ : ∃ x, x = min m rm := ⟨_, rfl⟩
    have hmin := fun ats ty w => min2 hkk ats ty w
    have v1 : 1 ≤ kk := by omega
    have v2 : kk ≤ 1024 := by omega
    have HKK : Hid (kk = min m (rom c L n st.given p ot)) := by rw [← HRMO.out]; exact hkk
    have HQQ := hidd (HLS.out ot ids rfl)
    rw [← HKK.out] at HQQ
    clear hs3 kp3 hd3 q1 q2 q3 hA hkk hlr HVR HLN HLS
    go_upto_region 4 with (first
      | refine wpList_load_mid rfl 51 _ rfl b 6 rfl A.toList _ RG.out Try.underlying51 rfl SL.out ?_
      | (go_at_call 43; with_reducible refine HRM.out.mono ?_; rintro e w4 ⟨rfl, hb4⟩))
    have HD4 := hidd (HD3.out.fresh hb4)
    have HRW4 := hidd (HRW3.out.of_block (hb4.block _ HRW3.out.lt))
    have HS4 := hidd (Nat.le_trans HS3.out hb4.size)
    obtain ⟨vO4, vZ4, q4, _, _⟩ := HD4.out.ex
    have c22 := q4.cells.c22
    have fr4 := q4.frozen
    simp only at c22
    clear q4 hb4 hmin
    go_upto_region 5 with fail
    have HD5 : Hid (Dsk W c (some ⟨b1, o1, none⟩) n cp L b (w4.setCell ⟨b, 22, none⟩ (.int .i64 (st.left - kk))) ⟨ot, st.left - kk, st.given, st.O ++ ids, st.Z⟩) := HD4.out.put rfl rfl (fun vO vZ q => q.setLeft _)
    have HRW5 := hidd (HRW4.out.setOther (a := ⟨b, 22, none⟩) (fun e => by
      obtain ⟨vO4, vZ4, q4, _, _⟩ := HD4.out.ex
      have := type_apart HRW4.out (by rw [e]; exact q4)
      exact absurd this (by decide)) (.int .i64 (st.left - kk)))
    have HS5 := hidd (Nat.le_trans HS4.out (Chg.of_set w4 b 22 (.int .i64 (st.left - kk))).size)
    generalize w4.setCell ⟨b, 22, none⟩ (.int .i64 (st.left - kk)) = w5 at *
    clear c22 fr4
    obtain ⟨vO5, vZ5, q5, _, _⟩ := HD5.out.ex
    have c23 := q5.cells.c23
    have c1 := q5.cells.c1
    have fr5 := q5.frozen
    simp only at c23
    have s2 := HRW5.out.cell (i := 2) (by decide)
    have s4 := HRW5.out.cell (i := 4) (by decide)
    have s2' : w5.cell? ⟨w.heap.size, 2, none⟩ = some (.int .i64 y2) := by rw [s2, HY2.out]; rfl
    have s4' : w5.cell? ⟨w.heap.size, 4, none⟩ = some (.slice ho hn0 hc0) := by rw [s4, HHN.out, HHC.out, HHO.out]; rfl
    obtain ⟨sm, hsm⟩ : ∃ x, x = y2 + kk := ⟨_, rfl⟩
    have wr1 : IntKind.i64.wrap (y2 + kk) = sm := by rw [IntKind.wrap_i64]; omega
    have HND := hidd (fun z => needed_any c sm HC.out.2.2.2.2.1 HC.out.2.2.2.2.2.1 (by omega) (by omega) z)
    obtain ⟨nd1, nd2⟩ := need_bd (c := c) (x := sm) HC.out.2.2.2.2.1 (by omega) (by omega)
    obtain ⟨nd, HNE⟩ : ∃ x, Hid (x = need c sm) := ⟨_, rfl⟩
    rw [← HNE.out] at HND nd1 nd2
    obtain ⟨bl, HBL⟩ : ∃ x, Hid (x = c.bl) := ⟨_, rfl⟩
    rw [← HBL.out] at HND c1
    obtain ⟨df, hdf⟩ : ∃ x, x = nd - (hn0 : Int) := ⟨_, rfl⟩
    have wr2 : IntKind.i64.wrap (nd - (hn0 : Int)) = df := by rw [IntKind.wrap_i64]; omega
    obtain ⟨by_, hby⟩ : ∃ x, x = max df 0 := ⟨_, rfl⟩
    have hmax := fun ats ty w => max2 hby ats ty w
    have HBY : Hid (bey c (L p) kk = by_) := by
      unfold bey
      rw [← HY2.out, ← HHN.out, ← hsm, ← HNE.out, hby, hdf]
      rfl
    have b3 : 0 ≤ by_ := by omega
    have b4 : by_ ≤ 100000 := by omega
    obtain ⟨gv, hgv⟩ : ∃ x, x = st.given + by_ := ⟨_, rfl⟩
    have wr3 : IntKind.i64.wrap (st.given + by_) = gv := by rw [IntKind.wrap_i64]; omega
    have HGV : Hid (gv = st.given + bey c (L p) kk) := by rw [HBY.out]; exact hgv
    clear hby s2 s4 hsm hdf hgv
    have HQ5 := hidd q5
    clear q5
    have hbw : ¬ b = w.heap.size := fun e => by
      have := type_apart HRW5.out (by rw [← e]; exact HQ5.out)
      exact absurd this (by decide)
    have hbw2 : ¬ w.heap.size = b := fun e => hbw e.symm
    obtain ⟨gi, HGI⟩ : ∃ x, Hid (x = st.given) := ⟨_, rfl⟩
    rw [← HGI.out] at c23 wr3
    have HZL := hidd hZ
    clear hg0 hg1 hl0 hl1 m1 m2 n1 n2 v1 v2 a1 a2 a3 b3 b4 nd1 nd2 hO hZ hn hp k1
    have l1 := later_cell c1
    have l2 := later_cell s2'
    have l4 := later_cell s4'
    have l23 := later_cell c23
    have ne := later_some w5
    refine wp_region_lastL (C := fun w' => ∃ x : Later w5, w' = x.val) (by simp) (by kernel_rfl) (by kernel_rfl) (by kernel_rfl) ⟨⟨w5.drew, (Below.refl _ _).drew⟩, rfl⟩ ?_
    simp only [List.dropLast_cons_cons, List.dropLast_singleton, List.getLast_cons_cons, List.getLast_singleton]
    repeat (go_big_quiet_step (fail))
    go_big_quiet_step (exact later_same (HND.out _))
    repeat (go_big_quiet_step (fail))
    refine wpQuiet_nil ?_
    rintro _ ⟨z, rfl⟩
    have HD6 := hidd (HD5.out.fresh z.fresh)
    have HRW6 := hidd (HRW5.out.of_block (z.fresh.block _ HRW5.out.lt))
    have HS6 := hidd (Nat.le_trans HS5.out z.fresh.size)
    obtain ⟨vO6, vZ6, q6, _, _⟩ := HD6.out.ex
    have c23 := q6.cells.c23
    have fr6 := q6.frozen
    simp only at c23
    have hap : ¬ w.heap.size = b := hbw2
    clear l1 l2 l4 l23 ne q6 c1 s2' s4' fr5 hmax wr1 wr2
    generalize z.val = w6 at *
    go_upto_region 6 with fail
    have HD7 : Hid (Dsk W c (some ⟨b1, o1, none⟩) n cp L b (w6.setCell ⟨b, 23, none⟩ (.int .i64 gv)) ⟨ot, st.left - kk, gv, st.O ++ ids, st.Z⟩) := HD6.out.put rfl rfl (fun vO vZ q => q.setGiven _)
    have HRW7 := hidd (HRW6.out.setOther (a := ⟨b, 23, none⟩) hap (.int .i64 gv))
    have HS7 := hidd (Nat.le_trans HS6.out (Chg.of_set w6 b 23 (.int .i64 gv)).size)
    generalize w6.setCell ⟨b, 23, none⟩ (.int .i64 gv) = w7 at *
    clear c23 fr6 wr3
    have s0 : w7.cell? ⟨w.heap.size, 0, none⟩ = some (.int .i64 y0) := by rw [HRW7.out.cell (i := 0) (by decide), HY0.out]; rfl
    obtain ⟨vO7, vZ7, q71, q72, q73⟩ := HD7.out.ex
    have HQ1 := hidd q71
    have HQ2 := hidd q72
    have HQ3 := hidd q73
    have HQL := hidd HD7.out.low
    obtain ⟨az, kz, rfl, _⟩ := q73.rd
    clear q71 q72 q73
    go_upto_region 7 with fail
    have HF78 := hidd (fresh_alloc w7 (.cells #[.int .i64 y0, .int .i64 0, .int .i64 0] 45))
    have HD8 := hidd (HD7.out.fresh (fresh_alloc w7 (.cells #[.int .i64 y0, .int .i64 0, .int .i64 0] 45)))
    have HRW8 := hidd (HRW7.out.alloc (.cells #[.int .i64 y0, .int .i64 0, .int .i64 0] 45))
    have HRS8 : Hid ((w7.alloc (.cells #[.int .i64 y0, .int .i64 0, .int .i64 0] 45)).rowIs w7.heap.size 45 3 (tri y0 0 0)) := tri_new _ _ _ _
    have HS8 : Hid (w.heap.size ≤ (w7.alloc (.cells #[.int .i64 y0, .int .i64 0, .int .i64 0] 45)).heap.size) := by simp; have := HS7.out; show _ ≤ _; omega
    clear s0
    generalize w7.alloc (.cells #[.int .i64 y0, .int .i64 0, .int .i64 0] 45) = w8 at *
    obtain ⟨sb, HSB⟩ : ∃ x, Hid (x = w7.heap.size) := ⟨_, rfl⟩
    rw [← HSB.out] at HRS8 ⊢
    have s0 : w8.cell? ⟨w.heap.size, 0, none⟩ = some (.int .i64 y0) := by rw [HRW8.out.cell (i := 0) (by decide), HY0.out]; rfl
    have s1 : w8.cell? ⟨w.heap.size, 1, none⟩ = some (.int .i64 y1) := by rw [HRW8.out.cell (i := 1) (by decide), HY1.out]; rfl
    have s2 : w8.cell? ⟨w.heap.size, 2, none⟩ = some (.int .i64 y2) := by rw [HRW8.out.cell (i := 2) (by decide), HY2.out]; rfl
    have s3 : w8.cell? ⟨w.heap.size, 3, none⟩ = some (.int .i64 y3) := by rw [HRW8.out.cell (i := 3) (by decide), HY3.out]; rfl
    have s4 : w8.cell? ⟨w.heap.size, 4, none⟩ = some (.slice ho hn0 hc0) := by rw [HRW8.out.cell (i := 4) (by decide), HHN.out, HHC.out, HHO.out]; rfl
    obtain ⟨r, hr⟩ : ∃ r : Bool, r = true ↔ 0 < rst (L p) := ⟨decide (0 < rst (L p)), by simp⟩
    have HFR := hidd (HFI.out r hr)
    have HRR := hidd hr
    clear hr HFI
    have HEND : Hid (∀ (x1 x2 : Int), (r = true → x1 = kk ∧ x2 = 0) → (r = false → x1 = 0 ∧ x2 = kk) → slc L (p, kk) = (y0, x1, x2)) := fun x1 x2 h1 h2 => by
      unfold slc
      by_cases e : 0 < rst (L p)
      · rw [if_pos e, ← HY0.out]
        obtain ⟨rfl, rfl⟩ := h1 (HRR.out.2 e)
        rfl
      · rw [if_neg e, ← HY0.out]
        obtain ⟨rfl, rfl⟩ := h2 (by rw [Bool.eq_false_iff]; exact fun q => e (HRR.out.1 q))
        rfl
    cases r with
    | true =>
      have HSC : Hid (slc L (p, kk) = (y0, kk, 0)) := HEND.out kk 0 (fun _ => ⟨rfl, rfl⟩) (fun e => by cases e)
      go_upto_region 8 with (go_at_call 44; with_reducible refine (HFR.out _).mono ?_; rintro e w9 ⟨rfl, hb9⟩)
      have HB79 := hidd (HF78.out.trans (hb9.mono HF78.out.size))
      have HRS9 := hidd (HRS8.out.of_block (hb9.block _ HRS8.out.lt))
      have HS9 := hidd (Nat.le_trans HS8.out hb9.size)
      have t1 := HRS9.out.cell (i := 1) (by decide)
      have tf := HRS9.out.frozen
      clear s0 s1 s2 s3 s4 hb9 HFR HEND HRR
      go_upto_region 10 with fail
      have HC10 := hidd (Chg.of_set w9 sb 1 (.int .i64 kk))
      have HRS10 : Hid ((w9.setCell ⟨sb, 1, none⟩ (.int .i64 kk)).rowIs sb 45 3 (tri y0 kk 0)) := (HRS9.out.set 1 (.int .i64 kk)).congr (fun j hj => by
        have : j = 0 ∨ j = 1 ∨ j = 2 := by omega
        rcases this with rfl | rfl | rfl <;> rfl)
      have HD10 : Hid (DkA (w9.setCell ⟨sb, 1, none⟩ (.int .i64 kk)) b c (.slice (some ⟨b1, o1, none⟩) n cp) ot (st.left - kk) gv vO7 (.slice az st.Z.length kz)) := HC10.out.row (HQ1.out.fresh HB79.out) (fun e => by
        have := type_apart HRS9.out (by rw [← e]; exact HQ1.out.fresh HB79.out)
        exact absurd this (by decide))
      have HO10 := hidd ((HQ2.out.kept HB79.out).chg HC10.out (fun x hx e => (HQ2.out.kept HB79.out).apart HRS9.out (by decide) (by rw [hx, e])))
      have HZ10 := hidd ((HQ3.out.kept HB79.out).chg HC10.out (fun x hx e => by have := (HQ3.out.lt x hx).2; have := HSB.out; omega))
      have HL10 : Hid (Chg W (w9.setCell ⟨sb, 1, none⟩ (.int .i64 kk)) (fun x => x = b)) := (HQL.out.post HB79.out).trans HC10.out (fun x hx e => by have := HQL.out.size; have := HSB.out; omega)
      have HS10 := hidd (Nat.le_trans HS9.out HC10.out.size)
      clear t1 tf HRS9 HC10
      generalize w9.setCell ⟨sb, 1, none⟩ (.int .i64 kk) = w10 at *
      have t0 : w10.cell? ⟨sb, 0, none⟩ = some (.int .i64 y0) := HRS10.out.cell (i := 0) (by decide)
      have t1 : w10.cell? ⟨sb, 1, none⟩ = some (.int .i64 kk) := HRS10.out.cell (i := 1) (by decide)
      have t2 : w10.cell? ⟨sb, 2, none⟩ = some (.int .i64 0) := HRS10.out.cell (i := 2) (by decide)
      have c25 := HD10.out.cells.c25
      have c25a := fresh_cell (fresh_alloc w10 (.cells #[.int .i64 y0, .int .i64 kk, .int .i64 0] 45)) c25
      have HFG : Hid (Below w10.heap.size w10 (w10.alloc (.cells #[.int .i64 y0, .int .i64 kk, .int .i64 0] 45)).drew) := fresh_trans (fresh_alloc _ _) (Below.refl _ _).drew
      have HOa : Hid (Own (w10.alloc (.cells #[.int .i64 y0, .int .i64 kk, .int .i64 0] 45)).drew W.heap.size 45 3 (.slice az st.Z.length kz) st.Z.length (slF L (st.Z ++ [(p, kk)]))) := (HZ10.out.congr (fun j hj => (slF_app L st.Z _ hj).symm)).kept HFG.out
      have HN3 : Hid (∀ j, j < 1 * 3 → (w10.alloc (.cells #[.int .i64 y0, .int .i64 kk, .int .i64 0] 45)).drew.cell? ⟨w10.heap.size, j, none⟩ = some (slF L (st.Z ++ [(p, kk)]) (st.Z.length * 3 + j))) := fun j hj => by
        obtain ⟨f0, f1, f2⟩ := slF_new L st.Z (p, kk)
        rw [HSC.out] at f0 f1 f2
        have hc := fresh_cell (Below.refl _ (w10.alloc (.cells #[.int .i64 y0, .int .i64 kk, .int .i64 0] 45))).drew ((tri_new w10 y0 (kk) (0)).cell (i := j) (by omega))
        have : j = 0 ∨ j = 1 ∨ j = 2 := by omega
        rcases this with rfl | rfl | rfl
        · rw [f0]; exact hc
        · rw [f1]; exact hc
        · rw [f2]; exact hc
      have HRD := hidd (HD10.out.fresh HFG.out)
      have HFIN : Hid (∀ (g' cap' : Nat) (w11 : World), Own w11 W.heap.size 45 3 (.slice (some ⟨g', 0, none⟩) (st.Z.length + 1) cap') (st.Z.length + 1) (slF L (st.Z ++ [(p, kk)])) → App (w10.alloc (.cells #[.int .i64 y0, .int .i64 kk, .int .i64 0] 45)).drew w11 (.slice az st.Z.length kz) (.slice (some ⟨g', 0, none⟩) (st.Z.length + 1) cap') → w.heap.size ≤ (w11.setCell ⟨b, 25, none⟩ (.slice (some ⟨g', 0, none⟩) (st.Z.length + 1) cap')).heap.size ∧ Dsk W c (some ⟨b1, o1, none⟩) n cp L b (w11.setCell ⟨b, 25, none⟩ (.slice (some ⟨g', 0, none⟩) (st.Z.length + 1) cap')) Q) := fun g' cap' w11 ho ha => by
        have yr : DkA w11 b c (.slice (some ⟨b1, o1, none⟩) n cp) ot (st.left - kk) gv vO7 (.slice az st.Z.length kz) := ha.row HRD.out (HOa.out.apart HRD.out (by decide))
        have hC := Chg.of_set w11 b 25 (.slice (some ⟨g', 0, none⟩) (st.Z.length + 1) cap')
        have hO11 := ha.own (HO10.out.kept HFG.out) (HOa.out.offT (HO10.out.kept HFG.out) (by decide))
        have hlow := (HL10.out.post HFG.out).app ha HOa.out
        refine ⟨Nat.le_trans (Nat.le_trans (Nat.le_trans HS10.out HFG.out.size) ha.grown.size) hC.size, ?_⟩
        rw [HQQ.out]
        refine ⟨hlow.same hC, vO7, .slice (some ⟨g', 0, none⟩) (st.Z.length + 1) cap', ?_, ?_, ?_⟩
        · have := yr.setZ (.slice (some ⟨g', 0, none⟩) (st.Z.length + 1) cap')
          rw [HGV.out] at this
          exact this
        · exact hO11.chg hC (fun x hx e => hO11.apart yr (by decide) (by rw [hx, e]))
        · have h9 := ho.chg hC (fun x hx e => ho.apart yr (by decide) (by rw [hx, e]))
          simp only [List.length_append, List.length_singleton]
          exact h9
      have hzl : st.Z.length ≤ 900 := HZL.out
      have hwz := HL10.out.size
      clear hwz
      have hwz : W.heap.size ≤ w10.heap.size := HL10.out.size
      go_region_law ((refine step_app3 _ (by rfl) _ _ _ (by rfl) W.heap.size 45 (.agg #[.int .i64 0, .int .i64 0, .int .i64 0]) 24 Try.underlying26 infoSl rfl _ st.Z.length (slF L (st.Z ++ [(p, kk)])) (by rfl) HOa.out w10.heap.size 1 (by rfl) HN3.out (fun _ => slF_one _ _ _) (by omega) (by omega) (by simp; omega) ?_; intro g' cap' w11 hown' happ; have yr : DkA w11 b c (.slice (some ⟨b1, o1, none⟩) n cp) ot (st.left - kk) gv vO7 (.slice az st.Z.length kz) := happ.row HRD.out (HOa.out.apart HRD.out (by decide)); have yc := yr.cells.c25; have yf := yr.frozen))
      all_goals
        have HK2 := hidd (HFIN.out g' cap' w11 hown' happ)
        clear hown' happ yr yc yf HFIN HOa HN3 HRD t0 t1 t2 c25 c25a
        go_wp2
        (try simp only [Exit.inBlock, Exit.then])
        first
          | (refine bodyPost_ret (results_none rfl _ _ _) rfl ?_; exact ⟨rfl, HK2.out⟩)
          | (go_end0; exact ⟨rfl, HK2.out⟩)
    | false =>
      have HSC : Hid (slc L (p, kk) = (y0, 0, kk)) := HEND.out 0 kk (fun e => by cases e) (fun _ => ⟨rfl, rfl⟩)
      go_upto_region 9 with (go_at_call 44; with_reducible refine (HFR.out _).mono ?_; rintro e w9 ⟨rfl, hb9⟩)
      have HB79 := hidd (HF78.out.trans (hb9.mono HF78.out.size))
      have HRS9 := hidd (HRS8.out.of_block (hb9.block _ HRS8.out.lt))
      have HS9 := hidd (Nat.le_trans HS8.out hb9.size)
      have t1 := HRS9.out.cell (i := 2) (by decide)
      have tf := HRS9.out.frozen
      clear s0 s1 s2 s3 s4 hb9 HFR HEND HRR
      go_upto_region 10 with fail
      have HC10 := hidd (Chg.of_set w9 sb 2 (.int .i64 kk))
      have HRS10 : Hid ((w9.setCell ⟨sb, 2, none⟩ (.int .i64 kk)).rowIs sb 45 3 (tri y0 0 kk)) := (HRS9.out.set 2 (.int .i64 kk)).congr (fun j hj => by
        have : j = 0 ∨ j = 1 ∨ j = 2 := by omega
        rcases this with rfl | rfl | rfl <;> rfl)
      have HD10 : Hid (DkA (w9.setCell ⟨sb, 2, none⟩ (.int .i64 kk)) b c (.slice (some ⟨b1, o1, none⟩) n cp) ot (st.left - kk) gv vO7 (.slice az st.Z.length kz)) := HC10.out.row (HQ1.out.fresh HB79.out) (fun e => by
        have := type_apart HRS9.out (by rw [← e]; exact HQ1.out.fresh HB79.out)
        exact absurd this (by decide))
      have HO10 := hidd ((HQ2.out.kept HB79.out).chg HC10.out (fun x hx e => (HQ2.out.kept HB79.out).apart HRS9.out (by decide) (by rw [hx, e])))
      have HZ10 := hidd ((HQ3.out.kept HB79.out).chg HC10.out (fun x hx e => by have := (HQ3.out.lt x hx).2; have := HSB.out; omega))
      have HL10 : Hid (Chg W (w9.setCell ⟨sb, 2, none⟩ (.int .i64 kk)) (fun x => x = b)) := (HQL.out.post HB79.out).trans HC10.out (fun x hx e => by have := HQL.out.size; have := HSB.out; omega)
      have HS10 := hidd (Nat.le_trans HS9.out HC10.out.size)
      clear t1 tf HRS9 HC10
      generalize w9.setCell ⟨sb, 2, none⟩ (.int .i64 kk) = w10 at *
      have t0 : w10.cell? ⟨sb, 0, none⟩ = some (.int .i64 y0) := HRS10.out.cell (i := 0) (by decide)
      have t1 : w10.cell? ⟨sb, 1, none⟩ = some (.int .i64 0) := HRS10.out.cell (i := 1) (by decide)
      have t2 : w10.cell? ⟨sb, 2, none⟩ = some (.int .i64 kk) := HRS10.out.cell (i := 2) (by decide)
      have c25 := HD10.out.cells.c25
      have c25a := fresh_cell (fresh_alloc w10 (.cells #[.int .i64 y0, .int .i64 0, .int .i64 kk] 45)) c25
      have HFG : Hid (Below w10.heap.size w10 (w10.alloc (.cells #[.int .i64 y0, .int .i64 0, .int .i64 kk] 45)).drew) := fresh_trans (fresh_alloc _ _) (Below.refl _ _).drew
      have HOa : Hid (Own (w10.alloc (.cells #[.int .i64 y0, .int .i64 0, .int .i64 kk] 45)).drew W.heap.size 45 3 (.slice az st.Z.length kz) st.Z.length (slF L (st.Z ++ [(p, kk)]))) := (HZ10.out.congr (fun j hj => (slF_app L st.Z _ hj).symm)).kept HFG.out
      have HN3 : Hid (∀ j, j < 1 * 3 → (w10.alloc (.cells #[.int .i64 y0, .int .i64 0, .int .i64 kk] 45)).drew.cell? ⟨w10.heap.size, j, none⟩ = some (slF L (st.Z ++ [(p, kk)]) (st.Z.length * 3 + j))) := fun j hj => by
        obtain ⟨f0, f1, f2⟩ := slF_new L st.Z (p, kk)
        rw [HSC.out] at f0 f1 f2
        have hc := fresh_cell (Below.refl _ (w10.alloc (.cells #[.int .i64 y0, .int .i64 0, .int .i64 kk] 45))).drew ((tri_new w10 y0 (0) (kk)).cell (i := j) (by omega))
        have : j = 0 ∨ j = 1 ∨ j = 2 := by omega
        rcases this with rfl | rfl | rfl
        · rw [f0]; exact hc
        · rw [f1]; exact hc
        · rw [f2]; exact hc
      have HRD := hidd (HD10.out.fresh HFG.out)
      have HFIN : Hid (∀ (g' cap' : Nat) (w11 : World), Own w11 W.heap.size 45 3 (.slice (some ⟨g', 0, none⟩) (st.Z.length + 1) cap') (st.Z.length + 1) (slF L (st.Z ++ [(p, kk)])) → App (w10.alloc (.cells #[.int .i64 y0, .int .i64 0, .int .i64 kk] 45)).drew w11 (.slice az st.Z.length kz) (.slice (some ⟨g', 0, none⟩) (st.Z.length + 1) cap') → w.heap.size ≤ (w11.setCell ⟨b, 25, none⟩ (.slice (some ⟨g', 0, none⟩) (st.Z.length + 1) cap')).heap.size ∧ Dsk W c (some ⟨b1, o1, none⟩) n cp L b (w11.setCell ⟨b, 25, none⟩ (.slice (some ⟨g', 0, none⟩) (st.Z.length + 1) cap')) Q) := fun g' cap' w11 ho ha => by
        have yr : DkA w11 b c (.slice (some ⟨b1, o1, none⟩) n cp) ot (st.left - kk) gv vO7 (.slice az st.Z.length kz) := ha.row HRD.out (HOa.out.apart HRD.out (by decide))
        have hC := Chg.of_set w11 b 25 (.slice (some ⟨g', 0, none⟩) (st.Z.length + 1) cap')
        have hO11 := ha.own (HO10.out.kept HFG.out) (HOa.out.offT (HO10.out.kept HFG.out) (by decide))
        have hlow := (HL10.out.post HFG.out).app ha HOa.out
        refine ⟨Nat.le_trans (Nat.le_trans (Nat.le_trans HS10.out HFG.out.size) ha.grown.size) hC.size, ?_⟩
        rw [HQQ.out]
        refine ⟨hlow.same hC, vO7, .slice (some ⟨g', 0, none⟩) (st.Z.length + 1) cap', ?_, ?_, ?_⟩
        · have := yr.setZ (.slice (some ⟨g', 0, none⟩) (st.Z.length + 1) cap')
          rw [HGV.out] at this
          exact this
        · exact hO11.chg hC (fun x hx e => hO11.apart yr (by decide) (by rw [hx, e]))
        · have h9 := ho.chg hC (fun x hx e => ho.apart yr (by decide) (by rw [hx, e]))
          simp only [List.length_append, List.length_singleton]
          exact h9
      have hzl : st.Z.length ≤ 900 := HZL.out
      have hwz := HL10.out.size
      clear hwz
      have hwz : W.heap.size ≤ w10.heap.size := HL10.out.size
      go_region_law ((refine step_app3 _ (by rfl) _ _ _ (by rfl) W.heap.size 45 (.agg #[.int .i64 0, .int .i64 0, .int .i64 0]) 24 Try.underlying26 infoSl rfl _ st.Z.length (slF L (st.Z ++ [(p, kk)])) (by rfl) HOa.out w10.heap.size 1 (by rfl) HN3.out (fun _ => slF_one _ _ _) (by omega) (by omega) (by simp; omega) ?_; intro g' cap' w11 hown' happ; have yr : DkA w11 b c (.slice (some ⟨b1, o1, none⟩) n cp) ot (st.left - kk) gv vO7 (.slice az st.Z.length kz) := happ.row HRD.out (HOa.out.apart HRD.out (by decide)); have yc := yr.cells.c25; have yf := yr.frozen))
      all_goals
        have HK2 := hidd (HFIN.out g' cap' w11 hown' happ)
        clear hown' happ yr yc yf HFIN HOa HN3 HRD t0 t1 t2 c25 c25a
        go_wp2
        (try simp only [Exit.inBlock, Exit.then])
        first
          | (refine bodyPost_ret (results_none rfl _ _ _) rfl ?_; exact ⟨rfl, HK2.out⟩)
          | (go_end0; exact ⟨rfl, HK2.out⟩)
end Go.Proofs.Ytdceahebkohbjab
