import Derived.Test.YtlbmgknlbhakoaaTyD
namespace Go.Proofs.Ytlbmgknlbhakoaa
open Go.RowKit
/-! TextApart. -/
theorem row2_zero (w : World) : ((w.alloc (.cells #[.slice none 0 0, .slice none 0 0] 43)).alloc (.cells #[.slice none 0 0, .slice none 0 0] 43)).rowIs w.heap.size 43 2 (two (.slice none 0 0) (.slice none 0 0)) ∧ ((w.alloc (.cells #[.slice none 0 0, .slice none 0 0] 43)).alloc (.cells #[.slice none 0 0, .slice none 0 0] 43)).rowIs (w.heap.size + 1) 43 2 (two (.slice none 0 0) (.slice none 0 0)) := by
  refine ⟨(row2_new w 43 _ _).alloc _, ?_⟩
  have := row2_new (w.alloc (.cells #[.slice none 0 0, .slice none 0 0] 43)) 43 (.slice none 0 0) (.slice none 0 0)
  rwa [show (w.alloc (.cells #[.slice none 0 0, .slice none 0 0] 43)).heap.size = w.heap.size + 1 by simp] at this
theorem enp_cells {w0 : World} {gb wb : Nat} {S : Nat → Nat} {K : Nat → Nat → Prop} {d : VD} {sts : Nat → List (List Int)} {g0 g1 h0 h1 : Value} {V : Nat → Value} {L : Nat → List Int} {O : Nat → Bool} {j : Nat} {v : Value} {wx : World} (h : EnP w0 gb wb S K d sts g0 g1 h0 h1 V L O j v wx) : wx.cell? ⟨wb, 0, none⟩ = some h0 ∧ wx.cell? ⟨wb, 1, none⟩ = some h1 := by
  obtain ⟨_, _, _, hE, _⟩ := h
  exact ⟨hE.cells.2.2.1, hE.cells.2.2.2⟩
/-- at the very end -/
def Fin9 (w0 : World) (S : Nat → Nat) (K : Nat → Nat → Prop) (d : VD) (sts : Nat → List (List Int)) (wx : World) : Prop := ∃ V L O, Fam w0 4 8 S K d sts V L O wx ∧ O 0 = true ∧ O 1 = true
set_option maxRecDepth 100000 in
set_option maxHeartbeats 32000000 in
theorem apart_law {w : World} {d : VD} {bo po s1 s2 qo : Option Addr} {cb cp k1 k2 cq n : Nat} {sb1 sb2 : List ByteArray} {On : Nat → Bool} {xo : Nat → Option Addr} {tn tk : Nat → Nat} {T : Nat → Nat → Int} (hb : RdA w bo 1 d.nb cb (fun i => .int .u8 (d.B i))) (hp : RdA w po 2 d.np cp (tcs d.P d.Q)) (hB : ∀ i, i < d.nb → 0 ≤ d.B i ∧ d.B i ≤ 255)
    (hs1 : RdA w s1 1 sb1.length k1 (fun i => .string (sb1.getD i ByteArray.empty))) (hlen1 : ∀ i, i < sb1.length → (sb1.getD i ByteArray.empty).size ≤ 9223372036854775807)
    (hs2 : RdA w s2 1 sb2.length k2 (fun i => .string (sb2.getD i ByteArray.empty))) (hlen2 : ∀ i, i < sb2.length → (sb2.getD i ByteArray.empty).size ≤ 9223372036854775807)
    (hq : RdA w qo 2 n cq (pcF On xo tn tk)) (hts : ∀ i, i < n → RdA w (xo i) 1 (tn i) (tk i) (fun j => .int .i64 (T i j))) (hT : ∀ i, i < n → ∀ j, j < tn i → -9223372036854775808 ≤ T i j ∧ T i j ≤ 9223372036854775807) (hsum : sumN tn n ≤ 1048576) (hn : n ≤ 1048576) :
    Calls Try.prog 5 #[.agg #[.slice bo d.nb cb, .slice po d.np cp], .slice s1 sb1.length k1, .slice s2 sb2.length k2, .slice qo n cq] w fun e w' => e = .returned (.bool true) ∧ Below w.heap.size w w' := by
  have hf0 := fresh_alloc w (.cells #[.slice bo d.nb cb, .slice po d.np cp] 25)
  have q0 := row2_new w 25 (.slice bo d.nb cb) (.slice po d.np cp)
  have HL1 := hidd (fun w' => long_any n (by omega) w')
  rw [decide_eq_false (show ¬ 2147483647 < n by omega)] at HL1
  have HB := hidd hb
  have HP := hidd hp
  have HBB := hidd hB
  have HS1 := hidd hs1
  have HLEN1 := hidd hlen1
  have HS2 := hidd hs2
  have HLEN2 := hidd hlen2
  have HQ := hidd hq
  have HTS := hidd hts
  have HTT := hidd hT
  have HSUM := hidd hsum
  clear hb hp hB hs1 hlen1 hs2 hlen2 hq hts hT hsum
  obtain ⟨w0, ew0⟩ : ∃ w0, w0 = w.alloc (.cells #[.slice bo d.nb cb, .slice po d.np cp] 25) := ⟨_, rfl⟩
  obtain ⟨m1, em1⟩ : ∃ k, k = sb1.length := ⟨_, rfl⟩
  obtain ⟨m2, em2⟩ : ∃ k, k = sb2.length := ⟨_, rfl⟩
  have NOK1 : Hid (d.Right ∧ MaySt sb1 → ∀ w', Below w.heap.size w w' → Calls Try.prog 11 #[.agg #[.slice bo d.nb cb, .slice po d.np cp], .slice s1 m1 k1] w' fun e w'' => ∃ S K, e = .returned (.tuple #[.pointer (some ⟨S, 0, none⟩), .int .i64 0]) ∧ StA w'' S K d (sb1.map bys) (.slice none 0 0) [] false ∧ Below w'.heap.size w' w'' ∧ w'.heap.size ≤ S ∧ (∀ b, K b → w'.heap.size ≤ b)) := fun h w' f => by
    have := new_ok (HB.out.fresh f) (HP.out.fresh f) h.1 (HS1.out.fresh f) h.2
    rwa [← em1] at this
  have NOK2 : Hid (d.Right ∧ MaySt sb2 → ∀ w', Below w.heap.size w w' → Calls Try.prog 11 #[.agg #[.slice bo d.nb cb, .slice po d.np cp], .slice s2 m2 k2] w' fun e w'' => ∃ S K, e = .returned (.tuple #[.pointer (some ⟨S, 0, none⟩), .int .i64 0]) ∧ StA w'' S K d (sb2.map bys) (.slice none 0 0) [] false ∧ Below w'.heap.size w' w'' ∧ w'.heap.size ≤ S ∧ (∀ b, K b → w'.heap.size ≤ b)) := fun h w' f => by
    have := new_ok (HB.out.fresh f) (HP.out.fresh f) h.1 (HS2.out.fresh f) h.2
    rwa [← em2] at this
  have NBD1 : Hid (¬ (d.Right ∧ MaySt sb1) → ∀ w', Below w.heap.size w w' → Calls Try.prog 11 #[.agg #[.slice bo d.nb cb, .slice po d.np cp], .slice s1 m1 k1] w' fun e w'' => (∃ x, e = .returned (.tuple #[.pointer none, .int .i64 x]) ∧ x ≠ 0 ∧ (¬ d.Right → x = 50) ∧ (d.Right → x = 180)) ∧ Below w'.heap.size w' w'') := fun h w' f => by
    have := new_bad (HB.out.fresh f) (HP.out.fresh f) (HS1.out.fresh f) HLEN1.out h
    rwa [← em1] at this
  have NBD2 : Hid (¬ (d.Right ∧ MaySt sb2) → ∀ w', Below w.heap.size w w' → Calls Try.prog 11 #[.agg #[.slice bo d.nb cb, .slice po d.np cp], .slice s2 m2 k2] w' fun e w'' => (∃ x, e = .returned (.tuple #[.pointer none, .int .i64 x]) ∧ x ≠ 0 ∧ (¬ d.Right → x = 50) ∧ (d.Right → x = 180)) ∧ Below w'.heap.size w' w'') := fun h w' f => by
    have := new_bad (HB.out.fresh f) (HP.out.fresh f) (HS2.out.fresh f) HLEN2.out h
    rwa [← em2] at this
  rw [← em1, ← em2]
  clear em1 em2
  by_cases h1 : d.Right ∧ MaySt sb1
  · by_cases h2 : d.Right ∧ MaySt sb2
    · skip
      have HN1 := hidd (NOK1.out h1)
      have HN2 := hidd (NOK2.out h2)
      clear NOK1 NOK2 NBD1 NBD2
      have HR := hidd h1.1
      have HC1 : Hid (Cst d (sb1.map bys)) := ⟨h1.1, maySt_ok h1.2, vd_byt HBB.out⟩
      have HC2 : Hid (Cst d (sb2.map bys)) := ⟨h2.1, maySt_ok h2.2, vd_byt HBB.out⟩
      clear h1 h2
      go_enter Try.func5, Try.ntmps5
      go_wp2_with fail
      refine (HL1.out _).mono ?_
      rintro e w1 ⟨rfl, hw⟩
      rw [hw]
      clear hw
      go_wp2_with fail
      rw [← ew0] at hf0 q0 ⊢
      clear ew0
      refine (fixed_any w0).mono ?_
      rintro e w1 ⟨rfl, f1⟩
      have hF1 := fresh_trans hf0 f1
      have q1 := q0.of_block (f1.block _ q0.lt)
      clear q0 f1 hf0
      obtain ⟨y0, y1⟩ := row2 q1
      go_wp2_with fail
      refine (HN1.out w1 hF1).mono ?_
      rintro e w2 ⟨S1, K1, rfl, hS1, f2, hl1, hk1⟩
      have hF2 := fresh_trans hF1 f2
      have q2 := q1.of_block (f2.block _ q1.lt)
      clear y0 y1
      obtain ⟨y0, y1⟩ := row2 q2
      go_wp2_with fail
      refine (HN2.out w2 hF2).mono ?_
      rintro e w3 ⟨S2, K2, rfl, hS2, f3, hl2, hk2⟩
      have hF3 := fresh_trans hF2 f3
      have q3 := q2.of_block (f3.block _ q2.lt)
      clear y0 y1
      obtain ⟨y0, y1⟩ := row2 q3
      go_wp2_with fail
      refine (HN1.out w3 hF3).mono ?_
      rintro e w4 ⟨S3, K3, rfl, hS3, f4, hl3, hk3⟩
      have hF4 := fresh_trans hF3 f4
      have q4 := q3.of_block (f4.block _ q3.lt)
      clear y0 y1
      obtain ⟨y0, y1⟩ := row2 q4
      go_wp2_with fail
      refine (HN2.out w4 hF4).mono ?_
      rintro e w5 ⟨S4, K4, rfl, hS4, f5, hl4, hk4⟩
      have hF5 := fresh_trans hF4 f5
      have q5 := q4.of_block (f5.block _ q4.lt)
      clear y0 y1
      have z2 := f2.size
      have z3 := f3.size
      have z4 := f4.size
      have z5 := f5.size
      have l1 := hS1.p.lt
      have l2 := hS2.p.lt
      have l3 := hS3.p.lt
      have l4 := hS4.p.lt
      have lw : w.heap.size < w1.heap.size := q1.lt
      obtain ⟨sts, eHST⟩ : ∃ sts : Nat → List (List Int), sts = fun j => if j % 2 = 0 then sb1.map bys else sb2.map bys := ⟨_, rfl⟩
      have HST := hidd eHST
      clear eHST
      obtain ⟨S, eHSS⟩ : ∃ S : Nat → Nat, S = fun j => if j = 0 then S1 else if j = 1 then S2 else if j = 2 then S3 else S4 := ⟨_, rfl⟩
      have HSS := hidd eHSS
      clear eHSS
      obtain ⟨K, eHKK⟩ : ∃ K : Nat → Nat → Prop, K = fun j => if j = 0 then K1 else if j = 1 then K2 else if j = 2 then K3 else K4 := ⟨_, rfl⟩
      have HKK := hidd eHKK
      clear eHKK
      have HCS : Hid (∀ j, j < 4 → Cst d (sts j)) := fun j hj => by
        rw [HST.out]
        rcases four hj with rfl | rfl | rfl | rfl
        · exact HC1.out
        · exact HC2.out
        · exact HC1.out
        · exact HC2.out
      have HFM : Hid (Fam w5 4 8 S K d sts (fun _ => .slice none 0 0) (fun _ => []) (fun _ => false) w5) := by
        rw [HST.out, HSS.out, HKK.out]
        refine fam_many (fun j => if j = 0 then w1.heap.size else if j = 1 then w2.heap.size else if j = 2 then w3.heap.size else if j = 3 then w4.heap.size else w5.heap.size) (fun j hj => ?_) (fun j hj => ?_) (fun j b hj hk => ?_) (fun i j hij hj => ?_)
        · rcases four hj with rfl | rfl | rfl | rfl
          · exact ((hS1.fresh f3).fresh f4).fresh f5
          · exact (hS2.fresh f4).fresh f5
          · exact hS3.fresh f5
          · exact hS4
        · rcases four hj with rfl | rfl | rfl | rfl
          · exact ⟨hl1, l1⟩
          · exact ⟨hl2, l2⟩
          · exact ⟨hl3, l3⟩
          · exact ⟨hl4, l4⟩
        · rcases four hj with rfl | rfl | rfl | rfl
          · exact ⟨hk1 b hk, hS1.p.kl b hk⟩
          · exact ⟨hk2 b hk, hS2.p.kl b hk⟩
          · exact ⟨hk3 b hk, hS3.p.kl b hk⟩
          · exact ⟨hk4 b hk, hS4.p.kl b hk⟩
        · have hi5 : i = 0 ∨ i = 1 ∨ i = 2 ∨ i = 3 ∨ i = 4 := by omega
          have hj5 : j = 0 ∨ j = 1 ∨ j = 2 ∨ j = 3 ∨ j = 4 := by omega
          rcases hi5 with rfl | rfl | rfl | rfl | rfl <;> rcases hj5 with rfl | rfl | rfl | rfl | rfl <;> first | omega | (simp; omega) | simp
      have e0 : Hid (S 0 = S1) := by rw [HSS.out]; rfl
      have e1 : Hid (S 1 = S2) := by rw [HSS.out]; rfl
      have e2 : Hid (S 2 = S3) := by rw [HSS.out]; rfl
      have e3 : Hid (S 3 = S4) := by rw [HSS.out]; rfl
      have HSL : Hid (∀ j, j < 4 → w1.heap.size ≤ S j) := fun j hj => by
        rcases four hj with rfl | rfl | rfl | rfl
        · rw [e0.out]; omega
        · rw [e1.out]; omega
        · rw [e2.out]; omega
        · rw [e3.out]; omega
      have HW15 : Hid (w1.heap.size ≤ w5.heap.size) := by show _ ≤ _; omega
      have HLO : Hid (∀ wX V L O, Fam w5 4 8 S K d sts V L O wX → Below w1.heap.size w5 wX) := fun wX V L O hf => hf.chg.below (Below.refl _ _) HW15.out (fun b ⟨j, hj, e⟩ => by rw [e]; exact HSL.out j hj)
      have HQ5 := hidd q5
      have HF5 := hidd hF5
      have HLW := hidd lw
      have HVB : Hid (∀ wX V L O, Fam w5 4 8 S K d sts V L O wX → (wX.cell? ⟨w.heap.size, 0, none⟩ = some (.slice bo d.nb cb) ∧ wX.cell? ⟨w.heap.size, 1, none⟩ = some (.slice po d.np cp)) ∧ Below w.heap.size w wX) := fun wX V L O hf => ⟨row2 (HQ5.out.of_block ((HLO.out wX V L O hf).block _ HLW.out)), HF5.out.trans ((HLO.out wX V L O hf).mono (Nat.le_of_lt HLW.out))⟩
      obtain ⟨R, eHRR⟩ : ∃ R : Nat → List Nat, R = fun i => rtL d true (T i) (tn i) := ⟨_, rfl⟩
      have HRR := hidd eHRR
      clear eHRR
      have HRL : Hid (∀ i, (R i).length = tn i) := fun i => by rw [HRR.out]; exact rtL_len _ _ _ _
      have HRG : Hid (∀ i k, k < tn i → (R i).getD k 0 < d.nb + 1 + d.np) := fun i k hk => by rw [HRR.out]; exact rt_good HR.out true (T i) (tn i) k hk
      have HRM : Hid (∀ i t, t ∈ R i → (d.pc t).length ≤ 16) := fun i t ht => mem_good HR.out (ts := R i) (by rw [HRL.out]; exact HRG.out i) t ht
      have HTN : Hid (∀ i, i < n → tn i ≤ 1048576) := fun i hi => Nat.le_trans (sumN_one tn hi) HSUM.out
      have HRT : Hid (∀ i, i < n → ∀ wX V L O, Fam w5 4 8 S K d sts V L O wX → Calls Try.prog 13 #[.agg #[.slice bo d.nb cb, .slice po d.np cp], .slice (xo i) (tn i) (tk i), .bool true] wX.drew fun e w' => ∃ a c, e = .returned (.slice a (tn i) c) ∧ RtP wX w' a (tn i) c (R i)) := fun i hi wX V L O hf => by
        have hFr := (HVB.out wX V L O hf).2
        have fD : Below wX.heap.size wX wX.drew := (Below.refl _ _).drew
        refine (right_any ((HB.out.fresh hFr).fresh fD) ((HP.out.fresh hFr).fresh fD) HR.out (((HTS.out i hi).fresh hFr).fresh fD) (HTT.out i hi) (by have := HTN.out i hi; omega) true).mono ?_
        rintro e w' ⟨v, rfl, hO, hf'⟩
        obtain ⟨a, c, rfl, r⟩ := hO.rd
        rw [HRR.out]
        exact ⟨a, c, rfl, r, fun b off e => by subst e; exact (hO.lt b rfl).1, fresh_trans fD hf'⟩
      have HPC : Hid (∀ i, i < n → ∀ wX V L O, Fam w5 4 8 S K d sts V L O wX → ∃ b o, qo = some ⟨b, o, none⟩ ∧ wX.cell? ⟨b, o + i * 2, none⟩ = some (.bool (On i)) ∧ wX.cell? ⟨b, o + i * 2 + 1, none⟩ = some (.slice (xo i) (tn i) (tk i))) := fun i hi wX V L O hf => by
        obtain ⟨b, o, e, hc⟩ := (HQ.out.fresh (HVB.out wX V L O hf).2).piece (by omega)
        exact ⟨b, o, e, (hc i hi).1, (hc i hi).2⟩
      have HFD : Hid (∀ (p q : Nat → Nat) V L O wX j, ApX w5 w5.heap.size (w5.heap.size + 1) S K d sts On R p q V L O wX → j < 4 → On (p j) = bj j → p j < n → ∀ wx a c, RtP wX wx a (tn (p j)) c (R (p j)) → Calls Try.prog 12 #[.pointer (some ⟨S j, 0, none⟩), .slice a (tn (p j)) c] wx fun e w' => ∃ a' l' c', e = .returned (.tuple #[.slice a' l' c', .int .i64 0]) ∧ AfP w5 w5.heap.size (w5.heap.size + 1) S K d sts On R p q V j a' l' c' w') := fun p q V L O wX j h hj hon hpn wx a c hrt => feed_ap h hj (HCS.out j hj) hon (HRL.out _) (HRG.out _) (HTN.out _ hpn) hrt
      have HJN : Hid (∀ (p q : Nat → Nat) (V : Nat → Value) j a l c wx, j < 4 → q j = p j → p j < n → AfP w5 w5.heap.size (w5.heap.size + 1) S K d sts On R p q V j a l c wx → Calls Try.prog 17 #[V (4 + j), .slice a l c] wx fun e w' => ∃ a' l' c', e = .returned (.slice a' l' c') ∧ (j < 2 → JoP w5 w5.heap.size (w5.heap.size + 1) S K d sts On R p q j w' (w'.setCell ⟨w5.heap.size, j, none⟩ (.slice a' l' c'))) ∧ (2 ≤ j → JoP w5 w5.heap.size (w5.heap.size + 1) S K d sts On R p q j w' (w'.setCell ⟨w5.heap.size + 1, j - 2, none⟩ (.slice a' l' c')))) := fun p q V j a l c wx hj hqp hpn h => join_ap hj h hqp HRL.out HRM.out hpn HSUM.out
      have HEN : Hid (∀ V L O wX j, ApX w5 w5.heap.size (w5.heap.size + 1) S K d sts On R (pB n 4 0) (pB n 4 0) V L O wX → j < 4 → (L (4 + j)).length + (L j).length ≤ 1099511627776) := fun V L O wX j h hj => by
        have a1 := h.len HRL.out HRM.out hj
        have a2 : pB n 4 0 j = n := by unfold pB; rw [if_pos hj]
        rw [a2] at a1
        have a3 := h.stl (HCS.out j hj).byt hj
        have a4 := waN_18 (HCS.out j hj).ok (L j)
        have a5 := HSUM.out
        have a6 : (L j).length ≤ 18 := by
          unfold Stl at a3
          split at a3
          · rw [a3]; simp
          · omega
        omega
      have HSM : Hid (sts 2 = sts 0 ∧ sts 3 = sts 1) := by rw [HST.out]; exact ⟨rfl, rfl⟩
      have HA0 : Hid (ApX w5 w5.heap.size (w5.heap.size + 1) S K d sts On R (pA 0) (pA 0) (fun _ => .slice none 0 0) (fun _ => []) (fun _ => false) ((w5.alloc (.cells #[.slice none 0 0, .slice none 0 0] 43)).alloc (.cells #[.slice none 0 0, .slice none 0 0] 43))) := by
        have hz := row2_zero w5
        have hpz : ∀ j, pA 0 j = 0 := fun j => by unfold pA; split <;> rfl
        refine ⟨⟨HFM.out.fresh (fresh_trans (fresh_alloc _ _) (fresh_alloc _ _)), hz.1, hz.2, Nat.le_refl _, Nat.le_succ _, by omega⟩, fun j hj => ?_, fun j hj => ?_, fun j hj => ?_⟩ <;> rw [hpz]
        · exact (fd1_nil d (sts j)).x
        · exact (fd1_nil d (sts j)).e
        · exact (fd1_nil d (sts j)).o
      obtain ⟨gb, HGB⟩ : ∃ g, Hid (g = w5.heap.size) := ⟨_, rfl⟩
      clear q1 q2 q3 q4 q5 f2 f3 f4 f5 hF1 hF2 hF3 hF4 hF5 hS1 hS2 hS3 hS4 hl1 hl2 hl3 hl4 hk1 hk2 hk3 hk4 z2 z3 z4 z5 l1 l2 l3 l4 lw HFM HN1 HN2 HL1 HC1 HC2 HST HSS HKK HRR
      have hT2 : ((w5.alloc (.cells #[.slice none 0 0, .slice none 0 0] 43)).heap.size) = w5.heap.size + 1 := by simp
      go_upto_region 13 with fail
      generalize (w5.alloc (.cells #[.slice none 0 0, .slice none 0 0] 43)).alloc (.cells #[.slice none 0 0, .slice none 0 0] 43) = w6 at *
      (try rw [hT2])
      clear hT2
      rw [← HGB.out] at HFD HJN HEN HA0 ⊢
      go_wp2
      go_loopw [20] (fun i wr => ∃ (p : Nat) (V : Nat → Value) (L : Nat → List Int) (O : Nat → Bool), p ≤ n ∧ i = .int .i64 p ∧ Hid (ApX w5 gb (gb + 1) S K d sts On R (pA p) (pA p) V L O wr)) (fun i _ => n - (intOf i).toNat)
      case atStart => exact ⟨0, _, _, _, Nat.zero_le _, rfl, HA0⟩
      case round =>
        clear HA0
        obtain ⟨p, V, L, O, hp, rfl, HI⟩ := hrel
        by_cases hlt : p < n
        · obtain ⟨qb, qf, rfl, c0, c1⟩ := HPC.out p hlt wr V L O HI.out.i.fam
          obtain ⟨y0, y1⟩ := (HVB.out wr V L O HI.out.i.fam).1
          have HR1 := hidd (HRT.out p hlt wr V L O HI.out.i.fam)
          have i1 : (0 : Int) ≤ (p : Int) := Int.natCast_nonneg _
          have i2 : (p : Int) < (n : Int) := by omega
          go_upto_region 16 with fail
          go_cut [21] from 104 to 110 (fun v21 wx => ∃ a c, v21 = .slice a (tn p) c ∧ RtP wr wx a (tn p) c (R p))
          case first =>
            go_region_with (first | (go_at_call 13; refine HR1.out.mono ?_; rintro e w7 ⟨a7, c7, rfl, hrt⟩))
            all_goals
              go_wp2_with fail
              go_meet
              case rel => exact ⟨a7, c7, rfl, hrt⟩
          case rest =>
            obtain ⟨a7, c7, rfl, hrt⟩ := hcut
            generalize wc = w7 at *
            replace c0 := fresh_cell hrt.2.2 c0
            have HRP := hidd hrt
            clear hrt c1 y0 y1 HR1
            cases hon : On p with
            | false =>
              rw [hon] at c0
              have HF := hidd (HFD.out (pA p) (pA p) V L O wr 0 HI.out (by omega) hon hlt w7 a7 c7 HRP.out)
              rw [e0.out] at HF
              have HJ1 := hidd (fun a l c wx h => HJN.out (pA p) (pA p) V 0 a l c wx (by omega) rfl hlt h)
              go_upto_region 23 with (go_at_call 12; refine HF.out.mono ?_; rintro e w8 ⟨a8, l8, c8, rfl, haf⟩)
              obtain ⟨g0, g1, _, _⟩ := haf.cells
              have HJ := hidd (HJ1.out a8 l8 c8 w8 haf)
              clear haf HF HJ1 HRP c0
              go_wp2_with (go_at_call 17; refine HJ.out.mono ?_; rintro e w9 ⟨a9, l9, c9, rfl, hj9, _⟩; obtain ⟨⟨V9, L9, O9, hI9⟩, x9, y9, _, _, hg9, _⟩ := hj9 (by omega); obtain ⟨r0, r1⟩ := row2 hg9; have fz := hg9.frozen)
              have HI9 := hidd (hI9.stepA0 hon)
              clear hI9 hg9 hj9 r0 r1 fz HJ g0 g1
              go_roundw
              case rel => exact ⟨p + 1, V9, L9, O9, by omega, by go_num, HI9⟩
              case measure => simp [intOf]; omega
            | true =>
              rw [hon] at c0
              have HF := hidd (HFD.out (pA p) (pA p) V L O wr 1 HI.out (by omega) hon hlt w7 a7 c7 HRP.out)
              rw [e1.out] at HF
              have HJ1 := hidd (fun a l c wx h => HJN.out (pA p) (pA p) V 1 a l c wx (by omega) rfl hlt h)
              go_upto_region 23 with (go_at_call 12; refine HF.out.mono ?_; rintro e w8 ⟨a8, l8, c8, rfl, haf⟩)
              obtain ⟨g0, g1, _, _⟩ := haf.cells
              have HJ := hidd (HJ1.out a8 l8 c8 w8 haf)
              clear haf HF HJ1 HRP c0
              go_wp2_with (go_at_call 17; refine HJ.out.mono ?_; rintro e w9 ⟨a9, l9, c9, rfl, hj9, _⟩; obtain ⟨⟨V9, L9, O9, hI9⟩, x9, y9, _, _, hg9, _⟩ := hj9 (by omega); obtain ⟨r0, r1⟩ := row2 hg9; have fz := hg9.frozen)
              have HI9 := hidd (hI9.stepA1 hon)
              clear hI9 hg9 hj9 r0 r1 fz HJ g0 g1
              go_roundw
              case rel => exact ⟨p + 1, V9, L9, O9, by omega, by go_num, HI9⟩
              case measure => simp [intOf]; omega
        · obtain rfl : n = p := by omega
          have HIB := hidd HI.out.aB
          clear HI
          go_wp2
          go_loopw [26] (fun k wr => ∃ (m : Nat) (z : Int) (V : Nat → Value) (L : Nat → List Int) (O : Nat → Bool), m ≤ 2 ∧ z = (m : Int) ∧ k = .int .i64 z ∧ Hid (ApX w5 gb (gb + 1) S K d sts On R (pB n (2 + m) 0) (pB n (2 + m) 0) V L O wr)) (fun k _ => 2 - (intOf k).toNat)
          case atStart => exact ⟨0, 0, V, L, O, by omega, rfl, rfl, HIB⟩
          case round =>
            clear HIB
            clear V L O
            obtain ⟨m, z, V, L, O, hm, hz, rfl, HI⟩ := hrel
            obtain rfl | rfl | rfl : m = 0 ∨ m = 1 ∨ m = 2 := by omega
            · obtain rfl : z = 0 := by simpa using hz
              clear hz hm
              go_wp2
              go_loopw [28] (fun i wr => ∃ (p : Nat) (V : Nat → Value) (L : Nat → List Int) (O : Nat → Bool), p ≤ n ∧ i = .int .i64 p ∧ Hid (ApX w5 gb (gb + 1) S K d sts On R (pB n 2 p) (pB n 2 p) V L O wr)) (fun i _ => n - (intOf i).toNat)
              case atStart => exact ⟨0, V, L, O, Nat.zero_le _, rfl, HI⟩
              case round =>
                clear HI
                clear V L O
                obtain ⟨p, V, L, O, hp, rfl, HI⟩ := hrel
                by_cases hlt : p < n
                · obtain ⟨qb, qf, eq, c0, c1⟩ := HPC.out p hlt wr V L O HI.out.i.fam
                  subst eq
                  obtain ⟨y0, y1⟩ := (HVB.out wr V L O HI.out.i.fam).1
                  have HR1 := hidd (HRT.out p hlt wr V L O HI.out.i.fam)
                  have i1 : (0 : Int) ≤ (p : Int) := Int.natCast_nonneg _
                  have i2 : (p : Int) < (n : Int) := by omega
                  cases hon : On p with
                  | false =>
                    rw [hon] at c0
                    have HF1 : Hid (∀ wx a c, RtP wr wx a (tn p) c (R p) → Calls Try.prog 12 #[.pointer (some ⟨S3, 0, none⟩), .slice a (tn p) c] wx fun e w' => ∃ a' l' c', e = .returned (.tuple #[.slice a' l' c', .int .i64 0]) ∧ AfP w5 gb (gb + 1) S K d sts On R (pB n 2 p) (pB n 2 p) V 2 a' l' c' w') := fun wx a c h => by
                      rw [← e2.out]
                      have q := HFD.out (pB n 2 p) (pB n 2 p) V L O wr 2 HI.out (by omega)
                      rw [pB_at] at q
                      exact q hon hlt wx a c h
                    have HJ1 : Hid (∀ a l c wx, AfP w5 gb (gb + 1) S K d sts On R (pB n 2 p) (pB n 2 p) V 2 a l c wx → Calls Try.prog 17 #[V (4 + 2), .slice a l c] wx fun e w' => ∃ a' l' c', e = .returned (.slice a' l' c') ∧ JoP w5 gb (gb + 1) S K d sts On R (pB n 2 p) (pB n 2 p) 2 w' (w'.setCell ⟨gb + 1, 0, none⟩ (.slice a' l' c'))) := fun a l c wx h => by
                      have q := HJN.out (pB n 2 p) (pB n 2 p) V 2 a l c wx (by omega) rfl
                      rw [pB_at] at q
                      refine (q hlt h).mono ?_
                      rintro e w' ⟨a', l', c', he, _, h2⟩
                      exact ⟨a', l', c', he, h2 (by omega)⟩
                    go_upto_region 36 with fail
                    go_cut [29, 30] from 155 to 166 (fun vc ve wx => ∃ a l c, vc = .slice a l c ∧ ve = .int .i64 0 ∧ AfP w5 gb (gb + 1) S K d sts On R (pB n 2 p) (pB n 2 p) V 2 a l c wx)
                    case first =>
                      go_region_with (first | (go_at_call 13; refine HR1.out.mono ?_; rintro e w7 ⟨a7, c7, rfl, hrt⟩; have HF := hidd (HF1.out w7 a7 c7 hrt)) | (go_at_call 12; refine HF.out.mono ?_; rintro e w8 ⟨a8, l8, c8, rfl, haf⟩))
                      all_goals
                        go_wp2_with fail
                        go_meet
                        case rel => exact ⟨a8, l8, c8, rfl, rfl, haf⟩
                    case rest =>
                      obtain ⟨a8, l8, c8, rfl, rfl, haf⟩ := hcut
                      generalize wc = w8 at *
                      obtain ⟨_, _, g0, g1⟩ := haf.cells
                      have HJ := hidd (HJ1.out a8 l8 c8 w8 haf)
                      clear haf HF1 HJ1 HR1 c0 c1 y0 y1
                      go_wp2_with (go_at_call 17; refine HJ.out.mono ?_; rintro e w9 ⟨a9, l9, c9, rfl, hj9⟩; obtain ⟨⟨V9, L9, O9, hI9⟩, _, _, x9, y9, _, hg9⟩ := hj9; obtain ⟨r0, r1⟩ := row2 hg9; have fz := hg9.frozen)
                      have HI9 := hidd hI9.stepB
                      clear hI9 hg9 r0 r1 fz HJ g0 g1
                      go_roundw
                      case rel => exact ⟨p + 1, V9, L9, O9, by omega, by go_num, HI9⟩
                      case measure => simp [intOf]; omega
                  | true =>
                    rw [hon] at c0
                    have HI9 := hidd (HI.out.skipB (J := 2) (by rw [hon]; decide))
                    go_wp2
                    go_roundw
                    case rel => exact ⟨p + 1, V, L, O, by omega, by go_num, HI9⟩
                    case measure => simp [intOf]; omega
                · obtain rfl : n = p := by omega
                  have HI9 := hidd HI.out.nextB
                  go_wp2
                  go_roundw
                  case rel => exact ⟨1, 1, V, L, O, by omega, by omega, rfl, HI9⟩
                  case measure => simp [intOf]
            · obtain rfl : z = 1 := by simpa using hz
              clear hz hm
              go_wp2
              go_loopw [28] (fun i wr => ∃ (p : Nat) (V : Nat → Value) (L : Nat → List Int) (O : Nat → Bool), p ≤ n ∧ i = .int .i64 p ∧ Hid (ApX w5 gb (gb + 1) S K d sts On R (pB n 3 p) (pB n 3 p) V L O wr)) (fun i _ => n - (intOf i).toNat)
              case atStart => exact ⟨0, V, L, O, Nat.zero_le _, rfl, HI⟩
              case round =>
                clear HI
                clear V L O
                obtain ⟨p, V, L, O, hp, rfl, HI⟩ := hrel
                by_cases hlt : p < n
                · obtain ⟨qb, qf, eq, c0, c1⟩ := HPC.out p hlt wr V L O HI.out.i.fam
                  subst eq
                  obtain ⟨y0, y1⟩ := (HVB.out wr V L O HI.out.i.fam).1
                  have HR1 := hidd (HRT.out p hlt wr V L O HI.out.i.fam)
                  have i1 : (0 : Int) ≤ (p : Int) := Int.natCast_nonneg _
                  have i2 : (p : Int) < (n : Int) := by omega
                  cases hon : On p with
                  | true =>
                    rw [hon] at c0
                    have HF1 : Hid (∀ wx a c, RtP wr wx a (tn p) c (R p) → Calls Try.prog 12 #[.pointer (some ⟨S4, 0, none⟩), .slice a (tn p) c] wx fun e w' => ∃ a' l' c', e = .returned (.tuple #[.slice a' l' c', .int .i64 0]) ∧ AfP w5 gb (gb + 1) S K d sts On R (pB n 3 p) (pB n 3 p) V 3 a' l' c' w') := fun wx a c h => by
                      rw [← e3.out]
                      have q := HFD.out (pB n 3 p) (pB n 3 p) V L O wr 3 HI.out (by omega)
                      rw [pB_at] at q
                      exact q hon hlt wx a c h
                    have HJ1 : Hid (∀ a l c wx, AfP w5 gb (gb + 1) S K d sts On R (pB n 3 p) (pB n 3 p) V 3 a l c wx → Calls Try.prog 17 #[V (4 + 3), .slice a l c] wx fun e w' => ∃ a' l' c', e = .returned (.slice a' l' c') ∧ JoP w5 gb (gb + 1) S K d sts On R (pB n 3 p) (pB n 3 p) 3 w' (w'.setCell ⟨gb + 1, 1, none⟩ (.slice a' l' c'))) := fun a l c wx h => by
                      have q := HJN.out (pB n 3 p) (pB n 3 p) V 3 a l c wx (by omega) rfl
                      rw [pB_at] at q
                      refine (q hlt h).mono ?_
                      rintro e w' ⟨a', l', c', he, _, h2⟩
                      exact ⟨a', l', c', he, h2 (by omega)⟩
                    go_upto_region 36 with fail
                    go_cut [29, 30] from 155 to 166 (fun vc ve wx => ∃ a l c, vc = .slice a l c ∧ ve = .int .i64 0 ∧ AfP w5 gb (gb + 1) S K d sts On R (pB n 3 p) (pB n 3 p) V 3 a l c wx)
                    case first =>
                      go_region_with (first | (go_at_call 13; refine HR1.out.mono ?_; rintro e w7 ⟨a7, c7, rfl, hrt⟩; have HF := hidd (HF1.out w7 a7 c7 hrt)) | (go_at_call 12; refine HF.out.mono ?_; rintro e w8 ⟨a8, l8, c8, rfl, haf⟩))
                      all_goals
                        go_wp2_with fail
                        go_meet
                        case rel => exact ⟨a8, l8, c8, rfl, rfl, haf⟩
                    case rest =>
                      obtain ⟨a8, l8, c8, rfl, rfl, haf⟩ := hcut
                      generalize wc = w8 at *
                      obtain ⟨_, _, g0, g1⟩ := haf.cells
                      have HJ := hidd (HJ1.out a8 l8 c8 w8 haf)
                      clear haf HF1 HJ1 HR1 c0 c1 y0 y1
                      go_wp2_with (go_at_call 17; refine HJ.out.mono ?_; rintro e w9 ⟨a9, l9, c9, rfl, hj9⟩; obtain ⟨⟨V9, L9, O9, hI9⟩, _, _, x9, y9, _, hg9⟩ := hj9; obtain ⟨r0, r1⟩ := row2 hg9; have fz := hg9.frozen)
                      have HI9 := hidd hI9.stepB
                      clear hI9 hg9 r0 r1 fz HJ g0 g1
                      go_roundw
                      case rel => exact ⟨p + 1, V9, L9, O9, by omega, by go_num, HI9⟩
                      case measure => simp [intOf]; omega
                  | false =>
                    rw [hon] at c0
                    have HI9 := hidd (HI.out.skipB (J := 3) (by rw [hon]; decide))
                    go_wp2
                    go_roundw
                    case rel => exact ⟨p + 1, V, L, O, by omega, by go_num, HI9⟩
                    case measure => simp [intOf]; omega
                · obtain rfl : n = p := by omega
                  have HI9 := hidd HI.out.nextB
                  go_wp2
                  go_roundw
                  case rel => exact ⟨2, 2, V, L, O, by omega, by omega, rfl, HI9⟩
                  case measure => simp [intOf]
            · obtain rfl : z = 2 := by simpa using hz
              clear hz hm
              have HE := hidd (HI.out.i.fin)
              have HXX := HI
              have hl0 := HEN.out V L O wr 0 HI.out (by omega)
              have hl1 := HEN.out V L O wr 1 HI.out (by omega)
              have hl2 := HEN.out V L O wr 2 HI.out (by omega)
              have hl3 := HEN.out V L O wr 3 HI.out (by omega)
              have HLL : Hid (L 4 ++ L 0 = L 6 ++ L 2 ∧ L 5 ++ L 1 = L 7 ++ L 3) := by
                have a0 := HI.out.x 0 (by omega)
                have a1 := HI.out.x 1 (by omega)
                have a2 := HI.out.x 2 (by omega)
                have a3 := HI.out.x 3 (by omega)
                have b0 := HI.out.o 0 (by omega)
                have b1 := HI.out.o 1 (by omega)
                have b2 := HI.out.o 2 (by omega)
                have b3 := HI.out.o 3 (by omega)
                have b0 : L 4 = _ := b0
                have b1 : L 5 = _ := b1
                have b2 : L 6 = _ := b2
                have b3 : L 7 = _ := b3
                rw [a0, a1, a2, a3, b0, b1, b2, b3, HSM.out.1, HSM.out.2]
                exact ⟨rfl, rfl⟩
              generalize wr = wE at *
              have HC0 := hidd (close_ap (HE.out.fresh (Below.refl _ _).drew) (j := 0) (by omega) hl0)
              rw [e0.out] at HC0
              obtain ⟨g0, g1, h0, h1⟩ := HE.out.cells
              go_upto_region 40 with fail
              go_cut [31] from 176 to 180 (fun v wx => ∃ a l c, v = .slice a l c ∧ EnP w5 gb (gb + 1) S K d sts (V 4) (V 5) (V 6) (V 7) V L O 0 (.slice a l c) wx)
              case first =>
                go_region_with (first | (go_at_call 14; refine HC0.out.mono ?_; rintro e w7 ⟨a7, l7, c7, rfl, ⟨r0, r1, r2, r3⟩, HJ0⟩) | (go_at_call 17; refine HJ0.out.mono ?_; rintro e w8 ⟨a8, l8, c8, rfl, hen⟩))
                all_goals
                  go_wp2_with fail
                  go_meet
                  case rel => exact ⟨a8, l8, c8, rfl, hen⟩
              case rest =>
                obtain ⟨a1, l1, c1, rfl, V1, L1, O1, hE1, v1, x1, o1, hs1, ho1⟩ := hcut
                generalize wc = wF at *
                have HE1 := hidd hE1
                have HC1 := hidd (close_ap (hE1.fresh (Below.refl _ _).drew) (j := 1) (by omega) (by rw [(hs1 5 (by omega) (by omega)).2, (hs1 1 (by omega) (by omega)).2]; exact hl1))
                rw [e1.out, show V1 (4 + 1) = V 5 from (hs1 5 (by omega) (by omega)).1] at HC1
                clear g0 g1 h0 h1 HC0
                obtain ⟨g0, g1, h0, h1⟩ := hE1.cells
                have HS1 := hidd hs1
                have HX1 := hidd (⟨v1, x1, o1⟩ : V1 (4 + 0) = _ ∧ L1 (4 + 0) = _ ∧ O1 0 = true)
                have HO1 := hidd ho1
                clear hE1 v1 x1 o1 hs1 ho1
                go_upto_region 41 with fail
                go_cut [32] from 181 to 185 (fun v wx => ∃ a l c, v = .slice a l c ∧ EnP w5 gb (gb + 1) S K d sts (V 4) (V 5) (V 6) (V 7) V1 L1 O1 1 (.slice a l c) wx)
                case first =>
                  go_region_with (first | (go_at_call 14; refine HC1.out.mono ?_; rintro e w7 ⟨a7, l7, c7, rfl, ⟨r0, r1, r2, r3⟩, HJ0⟩) | (go_at_call 17; refine HJ0.out.mono ?_; rintro e w8 ⟨a8, l8, c8, rfl, hen⟩))
                  all_goals
                    go_wp2_with fail
                    go_meet
                    case rel => exact ⟨a8, l8, c8, rfl, hen⟩
                case rest =>
                  obtain ⟨a2, l2, c2, rfl, V2, L2, O2, hE2, v2, x2, o2, hs2, ho2⟩ := hcut
                  generalize wc = wG at *
                  have HV2 : Hid (V2 4 = .slice a1 l1 c1 ∧ V2 5 = .slice a2 l2 c2 ∧ V2 6 = V 6 ∧ V2 7 = V 7) := ⟨(hs2 4 (by omega) (by omega)).1.trans HX1.out.1, v2, (hs2 6 (by omega) (by omega)).1.trans (HS1.out 6 (by omega) (by omega)).1, (hs2 7 (by omega) (by omega)).1.trans (HS1.out 7 (by omega) (by omega)).1⟩
                  have HL2 : Hid (L2 4 = L 4 ++ L 0 ∧ L2 5 = L 5 ++ L 1 ∧ L2 6 = L 6 ∧ L2 7 = L 7 ∧ L2 2 = L 2 ∧ L2 3 = L 3) := ⟨(hs2 4 (by omega) (by omega)).2.trans HX1.out.2.1, (by rw [show L2 5 = L2 (4 + 1) from rfl, x2, (HS1.out 5 (by omega) (by omega)).2, (HS1.out 1 (by omega) (by omega)).2]), (hs2 6 (by omega) (by omega)).2.trans (HS1.out 6 (by omega) (by omega)).2, (hs2 7 (by omega) (by omega)).2.trans (HS1.out 7 (by omega) (by omega)).2, (hs2 2 (by omega) (by omega)).2.trans (HS1.out 2 (by omega) (by omega)).2, (hs2 3 (by omega) (by omega)).2.trans (HS1.out 3 (by omega) (by omega)).2⟩
                  have HO2 : Hid (O2 0 = true ∧ O2 1 = true) := ⟨(ho2 0 (by omega)).trans HX1.out.2.2, o2⟩
                  have HC2 := hidd (close_ap (hE2.fresh (Below.refl _ _).drew) (j := 2) (by omega) (by rw [show L2 (4 + 2) = L 6 from HL2.out.2.2.1, HL2.out.2.2.2.2.1]; exact hl2))
                  rw [e2.out] at HC2
                  have HN2 : Hid (∀ v w', EnP w5 gb (gb + 1) S K d sts (V 4) (V 5) (V 6) (V 7) V2 L2 O2 2 v w' → ∀ a l c, v = .slice a l c → (w'.cell? ⟨gb + 1, 1, none⟩ = some (V 7)) ∧ Calls Try.prog 18 #[.slice a1 l1 c1, .slice a l c] w' fun e w'' => e = .returned (.bool true) ∧ (w''.cell? ⟨gb + 1, 0, none⟩ = some (V 6) ∧ w''.cell? ⟨gb + 1, 1, none⟩ = some (V 7)) ∧ Hid (Calls Try.prog 14 #[.pointer (some ⟨S4, 0, none⟩)] w'' fun e w1 => ∃ a l c, e = .returned (.slice a l c) ∧ (w1.cell? ⟨gb + 1, 0, none⟩ = some (V 6) ∧ w1.cell? ⟨gb + 1, 1, none⟩ = some (V 7)) ∧ Hid (Calls Try.prog 17 #[V 7, .slice a l c] w1 fun e2 w2 => ∃ a2' l2' c2', e2 = .returned (.slice a2' l2' c2') ∧ (w2.cell? ⟨gb + 1, 0, none⟩ = some (V 6) ∧ w2.cell? ⟨gb + 1, 1, none⟩ = some (V 7)) ∧ Hid (Calls Try.prog 18 #[.slice a2 l2 c2, .slice a2' l2' c2'] w2 fun e w3 => e = .returned (.bool true) ∧ (w3.cell? ⟨gb + 1, 0, none⟩ = some (V 6) ∧ w3.cell? ⟨gb + 1, 1, none⟩ = some (V 7)) ∧ Fin9 w5 S K d sts w3)))) := fun v w' hen a l c ev => by
                    obtain ⟨V3, L3, O3, hE3, v3, x3, o3, hs3, ho3⟩ := hen
                    subst ev
                    refine ⟨hE3.cells.2.2.2, ?_⟩
                    refine (eqB_ap hE3 (i := 4) (j := 6) (by omega) (by omega) (by rw [(hs3 4 (by omega) (by omega)).2, show L3 6 = L3 (4 + 2) from rfl, x3, show L2 (4 + 2) = L 6 from HL2.out.2.2.1, HL2.out.2.2.2.2.1, HL2.out.1]; exact HLL.out.1) ((hs3 4 (by omega) (by omega)).1.trans HV2.out.1) v3).mono ?_
                    rintro e w'' ⟨rfl, hb⟩
                    have hE3' := hE3.fresh hb
                    refine ⟨rfl, ⟨hE3'.cells.2.2.1, hE3'.cells.2.2.2⟩, ?_⟩
                    have hL7 : L3 7 = L 7 := (hs3 7 (by omega) (by omega)).2.trans HL2.out.2.2.2.1
                    have hL3 : L3 3 = L 3 := (hs3 3 (by omega) (by omega)).2.trans HL2.out.2.2.2.2.2
                    have hV7 : V3 7 = V 7 := (hs3 7 (by omega) (by omega)).1.trans HV2.out.2.2.2
                    have hV5 : V3 5 = .slice a2 l2 c2 := (hs3 5 (by omega) (by omega)).1.trans HV2.out.2.1
                    have hL5 : L3 5 = L 5 ++ L 1 := (hs3 5 (by omega) (by omega)).2.trans HL2.out.2.1
                    have hc := close_ap hE3' (j := 3) (by omega) (by rw [show L3 (4 + 3) = L 7 from hL7, hL3]; exact hl3)
                    rw [e3.out] at hc
                    refine hc.mono ?_
                    rintro e w1 ⟨a', l', c', rfl, ⟨_, _, r2, r3⟩, hj⟩
                    refine ⟨a', l', c', rfl, ⟨r2, r3⟩, ?_⟩
                    have hj' := hj.out
                    rw [show V3 (4 + 3) = V 7 from hV7] at hj'
                    refine hj'.mono ?_
                    rintro e w2 ⟨a'', l'', c'', rfl, V4, L4, O4, hE4, v4, x4, o4, hs4, ho4⟩
                    refine ⟨a'', l'', c'', rfl, ⟨hE4.cells.2.2.1, hE4.cells.2.2.2⟩, ?_⟩
                    refine (eqB_ap hE4 (i := 5) (j := 7) (by omega) (by omega) (by rw [(hs4 5 (by omega) (by omega)).2, show L4 7 = L4 (4 + 3) from rfl, x4, show L3 (4 + 3) = L 7 from hL7, hL3, hL5]; exact HLL.out.2) ((hs4 5 (by omega) (by omega)).1.trans hV5) v4).mono ?_
                    rintro e w3 ⟨rfl, hb3⟩
                    exact ⟨rfl, ⟨(hE4.fresh hb3).cells.2.2.1, (hE4.fresh hb3).cells.2.2.2⟩, _, _, _, (hE4.fresh hb3).fam, (ho4 0 (by omega)).trans ((ho3 0 (by omega)).trans HO2.out.1), (ho4 1 (by omega)).trans ((ho3 1 (by omega)).trans HO2.out.2)⟩
                  clear g0 g1 h0 h1 HC1
                  obtain ⟨g0, g1, h0, h1⟩ := hE2.cells
                  clear hE2 v2 x2 o2 hs2 ho2
                  have sd : wG.drew.cell? ⟨gb + 1, 0, none⟩ = some (V 6) ∧ wG.drew.cell? ⟨gb + 1, 1, none⟩ = some (V 7) := ⟨h0, h1⟩
                  go_upto_region 42 with fail
                  go_cut [33] from 186 to 201 (fun v wx => v = .bool true ∧ Fin9 w5 S K d sts wx)
                  case first =>
                    refine wp_region_held_drew (S := fun z => z.cell? ⟨gb + 1, 0, none⟩ = some (V 6) ∧ z.cell? ⟨gb + 1, 1, none⟩ = some (V 7)) (by kernel_rfl) sd (fun hHeld => ?_)
                    refine wpAnyH_take (i := 0) (v := ?vtk1) rfl (by kernel_rfl) (by kernel_rfl) (by kernel_rfl) (fun _ _ _ h => h) (Or.inl ⟨by rfl, ?ytk1⟩) sd ?rtk1
                    case ytk1 =>
                      intro z hz
                      obtain ⟨z0, z1⟩ := hz
                      go_simp
                      try with_reducible rfl
                    refine wpAnyH_take (i := 1) (v := ?vtk2) rfl (by kernel_rfl) (by kernel_rfl) (by kernel_rfl) (fun _ _ _ h => h) (Or.inl ⟨by rfl, ?ytk2⟩) sd ?rtk2
                    case ytk2 =>
                      intro z hz
                      obtain ⟨z0, z1⟩ := hz
                      go_simp
                      try with_reducible rfl
                    refine wpAnyH_take (i := 2) (v := ?vtk3) rfl (by kernel_rfl) (by kernel_rfl) (by kernel_rfl) (fun _ _ _ h => h) (Or.inl ⟨by rfl, ?ytk3⟩) sd ?rtk3
                    case ytk3 =>
                      intro z hz
                      obtain ⟨z0, z1⟩ := hz
                      go_simp
                      try with_reducible rfl
                    refine wpAnyH_take (i := 3) (v := ?vtk4) rfl (by kernel_rfl) (by kernel_rfl) (by kernel_rfl) (fun _ _ _ h => h) (Or.inl ⟨by rfl, ?ytk4⟩) sd ?rtk4
                    case ytk4 =>
                      intro z hz
                      obtain ⟨z0, z1⟩ := hz
                      go_simp
                      try with_reducible rfl
                    refine wpAnyH_ready (rs := [4]) (by kernel_rfl) (by simp) (AllReadyH.cons rfl (fun K9 hK9 => ?_) AllReadyH.nil)
                    go_simp
                    refine HC2.out.mono ?_
                    rintro e w7 ⟨a7, l7, c7, rfl, ⟨_, _, r2, r3⟩, HJ2⟩
                    have HJ2' := hidd HJ2.out
                    rw [show V2 (4 + 2) = V 6 from HV2.out.2.2.1] at HJ2'
                    have s7 : w7.cell? ⟨gb + 1, 0, none⟩ = some (V 6) ∧ w7.cell? ⟨gb + 1, 1, none⟩ = some (V 7) := ⟨r2, r3⟩
                    refine hK9.out _ _ s7 (fun _ => ?_)
                    clear hK9 K9 r2 r3 HJ2
                    refine wpAnyH_ready (rs := [5]) (by kernel_rfl) (by simp) (AllReadyH.cons rfl (fun K9 hK9 => ?_) AllReadyH.nil)
                    go_simp
                    refine HJ2'.out.mono ?_
                    rintro e w8 ⟨a8, l8, c8, rfl, hen⟩
                    obtain ⟨r3', HQ8⟩ := HN2.out _ w8 hen a8 l8 c8 rfl
                    have s8 : w8.cell? ⟨gb + 1, 0, none⟩ = some (V 6) ∧ w8.cell? ⟨gb + 1, 1, none⟩ = some (V 7) := enp_cells hen
                    refine hK9.out _ _ s8 (fun _ => ?_)
                    clear hK9 K9 r3'
                    refine wpAnyH_ready (rs := [6]) (by kernel_rfl) (by simp) (AllReadyH.cons rfl (fun K9 hK9 => ?_) AllReadyH.nil)
                    go_simp
                    refine HQ8.mono ?_
                    rintro e w9 ⟨rfl, s9, HC3⟩
                    refine hK9.out _ _ s9 (fun _ => ?_)
                    clear hK9 K9
                    refine wpAnyH_take (i := 7) (v := ?vtk5) rfl (by kernel_rfl) (by kernel_rfl) (by kernel_rfl) (fun _ _ _ h => h) (Or.inl ⟨by rfl, ?ytk5⟩) s9 ?rtk5
                    case ytk5 =>
                      intro z hz
                      obtain ⟨z0, z1⟩ := hz
                      go_simp
                      try with_reducible rfl
                    refine wpAnyH_take (i := 8) (v := ?vtk6) rfl (by kernel_rfl) (by kernel_rfl) (by kernel_rfl) (fun _ _ _ h => h) (Or.inl ⟨by rfl, ?ytk6⟩) s9 ?rtk6
                    case ytk6 =>
                      intro z hz
                      obtain ⟨z0, z1⟩ := hz
                      go_simp
                      try with_reducible rfl
                    refine wpAnyH_take (i := 9) (v := ?vtk7) rfl (by kernel_rfl) (by kernel_rfl) (by kernel_rfl) (fun _ _ _ h => h) (Or.inl ⟨by rfl, ?ytk7⟩) s9 ?rtk7
                    case ytk7 =>
                      intro z hz
                      obtain ⟨z0, z1⟩ := hz
                      go_simp
                      try with_reducible rfl
                    refine wpAnyH_take (i := 10) (v := ?vtk8) rfl (by kernel_rfl) (by kernel_rfl) (by kernel_rfl) (fun _ _ _ h => h) (Or.inl ⟨by rfl, ?ytk8⟩) s9 ?rtk8
                    case ytk8 =>
                      intro z hz
                      obtain ⟨z0, z1⟩ := hz
                      go_simp
                      try with_reducible rfl
                    refine wpAnyH_take (i := 11) (v := ?vtk9) rfl (by kernel_rfl) (by kernel_rfl) (by kernel_rfl) (fun _ _ _ h => h) (Or.inl ⟨by rfl, ?ytk9⟩) s9 ?rtk9
                    case ytk9 =>
                      intro z hz
                      obtain ⟨z0, z1⟩ := hz
                      go_simp
                      try with_reducible rfl
                    refine wpAnyH_ready (rs := [12]) (by kernel_rfl) (by simp) (AllReadyH.cons rfl (fun K9 hK9 => ?_) AllReadyH.nil)
                    go_simp
                    refine HC3.out.mono ?_
                    rintro e wA ⟨aA, lA, cA, rfl, sA, HJ3⟩
                    refine hK9.out _ _ sA (fun _ => ?_)
                    clear hK9 K9
                    refine wpAnyH_ready (rs := [13]) (by kernel_rfl) (by simp) (AllReadyH.cons rfl (fun K9 hK9 => ?_) AllReadyH.nil)
                    go_simp
                    refine HJ3.out.mono ?_
                    rintro e wB ⟨aB, lB, cB, rfl, sB, HQ9⟩
                    refine hK9.out _ _ sB (fun _ => ?_)
                    clear hK9 K9
                    refine wpAnyH_ready (rs := [14]) (by kernel_rfl) (by simp) (AllReadyH.cons rfl (fun K9 hK9 => ?_) AllReadyH.nil)
                    go_simp
                    refine HQ9.out.mono ?_
                    rintro e wC ⟨rfl, sC, hfin⟩
                    refine hK9.out _ _ sC (fun _ => ?_)
                    clear hK9 K9
                    refine wpAnyH_take (i := 15) (v := ?vtk10) rfl (by kernel_rfl) (by kernel_rfl) (by kernel_rfl) (fun _ _ _ h => h) (Or.inl ⟨by rfl, ?ytk10⟩) sC ?rtk10
                    case ytk10 =>
                      intro z hz
                      obtain ⟨z0, z1⟩ := hz
                      go_simp
                      try with_reducible rfl
                    refine wpAnyH_take (i := 16) (v := ?vtk11) rfl (by kernel_rfl) (by kernel_rfl) (by kernel_rfl) (fun _ _ _ h => h) (Or.inl ⟨by rfl, ?ytk11⟩) sC ?rtk11
                    case ytk11 =>
                      intro z hz
                      obtain ⟨z0, z1⟩ := hz
                      go_simp
                      try with_reducible rfl
                    refine wpAnyH_done (by kernel_rfl) ?_ _
                    go_wp2_with fail
                    go_meet
                    case rel => exact ⟨rfl, hfin⟩
                  case rest =>
                    obtain ⟨rfl, V9, L9, O9, hf9, o90, o91⟩ := hcut
                    generalize wc = wZ at *
                    have hB9 := (HVB.out wZ V9 L9 O9 hf9).2
                    have HV0 := hidd (over_any (hf9.st 0 (by omega)))
                    have HV1 := hidd (over_any (hf9.st 1 (by omega)))
                    rw [e0.out, o90] at HV0
                    rw [e1.out, o91] at HV1
                    clear g0 g1 h0 h1
                    go_wp2_with fail
                    refine HV0.out.mono ?_
                    rintro e wY ⟨rfl, hwY⟩
                    rw [hwY]
                    clear hwY
                    go_wp2_with fail
                    refine HV1.out.mono ?_
                    rintro e wY ⟨rfl, hwY⟩
                    rw [hwY]
                    clear hwY
                    go_wp2
                    go_ret
                    exact ⟨rfl, hB9⟩
    · skip
      have HN1 := hidd (NOK1.out h1)
      have HN2 := hidd (NBD2.out h2)
      clear NOK1 NOK2 NBD1 NBD2
      go_enter Try.func5, Try.ntmps5
      go_wp2_with fail
      refine (HL1.out _).mono ?_
      rintro e w1 ⟨rfl, hw⟩
      rw [hw]
      clear hw
      go_wp2_with fail
      rw [← ew0] at hf0 q0 ⊢
      clear ew0
      refine (fixed_any w0).mono ?_
      rintro e w1 ⟨rfl, f1⟩
      have hF1 := fresh_trans hf0 f1
      have q1 := q0.of_block (f1.block _ q0.lt)
      clear q0 f1 hf0
      obtain ⟨y0, y1⟩ := row2 q1
      go_wp2_with fail
      refine (HN1.out w1 hF1).mono ?_
      rintro e w2 ⟨S1, K1, rfl, hS1, f2, hl1, hk1⟩
      have hF2 := fresh_trans hF1 f2
      have q2 := q1.of_block (f2.block _ q1.lt)
      clear y0 y1
      obtain ⟨y0, y1⟩ := row2 q2
      go_wp2_with fail
      refine (HN2.out w2 hF2).mono ?_
      rintro e w3 ⟨⟨x2, rfl, hx2, _, _⟩, f3⟩
      have hd2 : (x2 != 0) = true := by simpa using hx2
      have hF3 := fresh_trans hF2 f3
      have q3 := q2.of_block (f3.block _ q2.lt)
      clear y0 y1
      obtain ⟨y0, y1⟩ := row2 q3
      go_wp2_with fail
      refine (HN1.out w3 hF3).mono ?_
      rintro e w4 ⟨S3, K3, rfl, hS3, f4, hl3, hk3⟩
      have hF4 := fresh_trans hF3 f4
      have q4 := q3.of_block (f4.block _ q3.lt)
      clear y0 y1
      obtain ⟨y0, y1⟩ := row2 q4
      go_wp2_with fail
      refine (HN2.out w4 hF4).mono ?_
      rintro e w5 ⟨⟨x4, rfl, hx4, _, _⟩, f5⟩
      have hd4 : (x4 != 0) = true := by simpa using hx4
      have hF5 := fresh_trans hF4 f5
      have q5 := q4.of_block (f5.block _ q4.lt)
      clear y0 y1
      go_wp2
      go_ret
      exact ⟨rfl, hF5⟩
  · by_cases h2 : d.Right ∧ MaySt sb2
    · skip
      have HN1 := hidd (NBD1.out h1)
      have HN2 := hidd (NOK2.out h2)
      clear NOK1 NOK2 NBD1 NBD2
      go_enter Try.func5, Try.ntmps5
      go_wp2_with fail
      refine (HL1.out _).mono ?_
      rintro e w1 ⟨rfl, hw⟩
      rw [hw]
      clear hw
      go_wp2_with fail
      rw [← ew0] at hf0 q0 ⊢
      clear ew0
      refine (fixed_any w0).mono ?_
      rintro e w1 ⟨rfl, f1⟩
      have hF1 := fresh_trans hf0 f1
      have q1 := q0.of_block (f1.block _ q0.lt)
      clear q0 f1 hf0
      obtain ⟨y0, y1⟩ := row2 q1
      go_wp2_with fail
      refine (HN1.out w1 hF1).mono ?_
      rintro e w2 ⟨⟨x1, rfl, hx1, _, _⟩, f2⟩
      have hd1 : (x1 != 0) = true := by simpa using hx1
      have hF2 := fresh_trans hF1 f2
      have q2 := q1.of_block (f2.block _ q1.lt)
      clear y0 y1
      obtain ⟨y0, y1⟩ := row2 q2
      go_wp2_with fail
      refine (HN2.out w2 hF2).mono ?_
      rintro e w3 ⟨S2, K2, rfl, hS2, f3, hl2, hk2⟩
      have hF3 := fresh_trans hF2 f3
      have q3 := q2.of_block (f3.block _ q2.lt)
      clear y0 y1
      obtain ⟨y0, y1⟩ := row2 q3
      go_wp2_with fail
      refine (HN1.out w3 hF3).mono ?_
      rintro e w4 ⟨⟨x3, rfl, hx3, _, _⟩, f4⟩
      have hd3 : (x3 != 0) = true := by simpa using hx3
      have hF4 := fresh_trans hF3 f4
      have q4 := q3.of_block (f4.block _ q3.lt)
      clear y0 y1
      obtain ⟨y0, y1⟩ := row2 q4
      go_wp2_with fail
      refine (HN2.out w4 hF4).mono ?_
      rintro e w5 ⟨S4, K4, rfl, hS4, f5, hl4, hk4⟩
      have hF5 := fresh_trans hF4 f5
      have q5 := q4.of_block (f5.block _ q4.lt)
      clear y0 y1
      go_wp2
      go_ret
      exact ⟨rfl, hF5⟩
    · skip
      have HN1 := hidd (NBD1.out h1)
      have HN2 := hidd (NBD2.out h2)
      clear NOK1 NOK2 NBD1 NBD2
      go_enter Try.func5, Try.ntmps5
      go_wp2_with fail
      refine (HL1.out _).mono ?_
      rintro e w1 ⟨rfl, hw⟩
      rw [hw]
      clear hw
      go_wp2_with fail
      rw [← ew0] at hf0 q0 ⊢
      clear ew0
      refine (fixed_any w0).mono ?_
      rintro e w1 ⟨rfl, f1⟩
      have hF1 := fresh_trans hf0 f1
      have q1 := q0.of_block (f1.block _ q0.lt)
      clear q0 f1 hf0
      obtain ⟨y0, y1⟩ := row2 q1
      go_wp2_with fail
      refine (HN1.out w1 hF1).mono ?_
      rintro e w2 ⟨⟨x1, rfl, hx1, _, _⟩, f2⟩
      have hd1 : (x1 != 0) = true := by simpa using hx1
      have hF2 := fresh_trans hF1 f2
      have q2 := q1.of_block (f2.block _ q1.lt)
      clear y0 y1
      obtain ⟨y0, y1⟩ := row2 q2
      go_wp2_with fail
      refine (HN2.out w2 hF2).mono ?_
      rintro e w3 ⟨⟨x2, rfl, hx2, _, _⟩, f3⟩
      have hd2 : (x2 != 0) = true := by simpa using hx2
      have hF3 := fresh_trans hF2 f3
      have q3 := q2.of_block (f3.block _ q2.lt)
      clear y0 y1
      obtain ⟨y0, y1⟩ := row2 q3
      go_wp2_with fail
      refine (HN1.out w3 hF3).mono ?_
      rintro e w4 ⟨⟨x3, rfl, hx3, _, _⟩, f4⟩
      have hd3 : (x3 != 0) = true := by simpa using hx3
      have hF4 := fresh_trans hF3 f4
      have q4 := q3.of_block (f4.block _ q3.lt)
      clear y0 y1
      obtain ⟨y0, y1⟩ := row2 q4
      go_wp2_with fail
      refine (HN2.out w4 hF4).mono ?_
      rintro e w5 ⟨⟨x4, rfl, hx4, _, _⟩, f5⟩
      have hd4 : (x4 != 0) = true := by simpa using hx4
      have hF5 := fresh_trans hF4 f5
      have q5 := q4.of_block (f5.block _ q4.lt)
      clear y0 y1
      go_wp2
      go_ret
      exact ⟨rfl, hF5⟩
end Go.Proofs.Ytlbmgknlbhakoaa
