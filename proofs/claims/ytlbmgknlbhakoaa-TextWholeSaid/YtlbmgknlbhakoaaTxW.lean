import Derived.Test.YtlbmgknlbhakoaaTxV
namespace Go.Proofs.Ytlbmgknlbhakoaa
open Go.RowKit
set_option maxRecDepth 100000 in
set_option maxHeartbeats 16000000 in
theorem whole_law {w : World} {d : VD} {bo po ao ko : Option Addr} {cb cp ca ck n C : Nat} {X U : Nat → Int} (hb : RdA w bo 1 d.nb cb (fun i => .int .u8 (d.B i))) (hp : RdA w po 2 d.np cp (tcs d.P d.Q)) (hB : ∀ i, i < d.nb → 0 ≤ d.B i ∧ d.B i ≤ 255)
    (hl : RdA w ao 1 n ca (fun i => .int .u8 (X i))) (hX : ∀ i, i < n → 0 ≤ X i ∧ X i ≤ 255) (hk : RdA w ko 1 C ck (fun i => .int .i64 (U i))) (hU : ∀ i, i < C → -9223372036854775808 ≤ U i ∧ U i ≤ 9223372036854775807) :
    Calls Try.prog 6 #[.agg #[.slice bo d.nb cb, .slice po d.np cp], .slice ao n ca, .slice ko C ck] w fun e w' => e = .returned (.bool true) ∧ Below w.heap.size w w' := by
  have WB := fun hR => whole_bad hb hp hB hl hX hk hU (d := d) hR
  have hf0 := fresh_alloc w (.cells #[.slice bo d.nb cb, .slice po d.np cp] 25)
  have q0 := row2_new w 25 (.slice bo d.nb cb) (.slice po d.np cp)
  have hn1 := Nat.le_trans hl.le hl.top
  have hckC := hk.le
  have hckT := hk.top
  unfold maxLen at hn1 hckT
  have HL1 := hidd (fun w' => long_any n hn1 w')
  have HB := hidd hb
  have HP := hidd hp
  have HBB := hidd hB
  have HL := hidd hl
  have HX := hidd hX
  have HK := hidd hk
  have HU := hidd hU
  clear hb hp hB hl hX hk hU
  obtain ⟨w0, ew0⟩ : ∃ w0, w0 = w.alloc (.cells #[.slice bo d.nb cb, .slice po d.np cp] 25) := ⟨_, rfl⟩
  by_cases hn : 2147483647 < n
  · rw [decide_eq_true hn] at HL1
    go_enter Try.func6, Try.ntmps6
    go_wp2_with fail
    refine (HL1.out _).mono ?_
    rintro e w1 ⟨rfl, hw⟩
    rw [hw]
    clear hw
    go_wp2
    go_ret
    exact ⟨rfl, hf0⟩
  rw [decide_eq_false hn] at HL1
  have HMS : Hid (MaySt []) := ⟨by simp, fun i hi => absurd hi (by simp)⟩
  have HSR : Hid (∀ w' : World, RdA w' none 1 ([] : List ByteArray).length 0 (fun i => .string (([] : List ByteArray).getD i ByteArray.empty))) := fun w' => ⟨Nat.le_refl _, Nat.zero_le _, fun h => absurd h (by simp)⟩
  obtain ⟨x, l, hx⟩ := d.encOut_some X n
  have HEN : Hid (∀ w', Below w.heap.size w w' → Calls Try.prog 19 #[.agg #[.slice bo d.nb cb, .slice po d.np cp], .slice ao n ca] w' fun e w'' => ∃ v, e = .returned (.tuple #[v, .int .i64 x]) ∧ OwnI w'' w'.heap.size v l ∧ Below w'.heap.size w' w'') := fun w' f => penc_any (HB.out.fresh f) (HP.out.fresh f) HBB.out (HL.out.fresh f) HX.out (by omega) x l hx
  by_cases hR : d.Right
  rotate_left
  · exact WB hR
  · have HR := hidd hR
    have HCST : Hid (Cst d []) := ⟨hR, ⟨by simp, fun i hi => absurd hi (by simp), fun i hi => absurd hi (by simp)⟩, vd_byt HBB.out⟩
    have HNW : Hid (∀ w', Below w.heap.size w w' → Calls Try.prog 11 #[.agg #[.slice bo d.nb cb, .slice po d.np cp], .slice none 0 0] w' fun e w'' => ∃ S K, e = .returned (.tuple #[.pointer (some ⟨S, 0, none⟩), .int .i64 0]) ∧ StA w'' S K d [] (.slice none 0 0) [] false ∧ Below w'.heap.size w' w'' ∧ w'.heap.size ≤ S ∧ (∀ b, K b → w'.heap.size ≤ b)) := fun w' f => new_ok (HB.out.fresh f) (HP.out.fresh f) HR.out (HSR.out w') HMS.out
    go_enter Try.func6, Try.ntmps6
    go_wp2_with fail
    refine (HL1.out _).mono ?_
    rintro e w1 ⟨rfl, hw⟩
    rw [hw]
    clear hw
    go_wp2_with fail
    rw [← ew0] at hf0 q0 ⊢
    clear ew0
    refine (fixed_any w0).mono ?_
    rintro e w1 ⟨rfl, f1⟩
    have hF1 := fresh_trans hf0 f1
    have q1 := q0.of_block (f1.block _ q0.lt)
    clear q0 f1 hf0
    obtain ⟨y0, y1⟩ := row2 q1
    go_wp2_with fail
    refine (HEN.out w1 hF1).mono ?_
    rintro e wE ⟨vE, rfl, hOE, fE⟩
    have hFE := fresh_trans hF1 fE
    have qE := q1.of_block (fE.block _ q1.lt)
    obtain ⟨z0, z1⟩ := row2 qE
    obtain ⟨aE, cE, rfl, rE⟩ := Own.rd hOE
    clear y0 y1 q1
    obtain ⟨m, em⟩ : ∃ m, m = l.length := ⟨_, rfl⟩
    rw [← em] at rE ⊢
    have EM := hidd em
    have HBE : Hid (∀ b off, aE = some ⟨b, off, none⟩ → w1.heap.size ≤ b ∧ b < wE.heap.size) := fun b off e => by subst e; exact Own.lt hOE b rfl
    clear em
    go_wp2_with fail
    refine (HNW.out wE hFE).mono ?_
    rintro e w2 ⟨S1, K1, rfl, hS1, f2, hl1, _⟩
    have hF2 := fresh_trans hFE f2
    have q2 := qE.of_block (f2.block _ qE.lt)
    obtain ⟨y0, y1⟩ := row2 q2
    clear z0 z1 qE
    go_wp2_with fail
    refine (HNW.out w2 hF2).mono ?_
    rintro e w3 ⟨S2, K2, rfl, hS2, f3, hl2, hk2⟩
    have hF4 := fresh_trans hF2 f3
    clear y0 y1 q2 HNW HEN
    rcases hx with ⟨h, _⟩ | ⟨_, _, rfl, rfl⟩ | ⟨_, hkn, rfl, hle⟩
    · exact absurd hR h
    · go_wp2
      go_ret
      exact ⟨rfl, hF4⟩
    have hfam := fam_two (w2 := w2) (hS1.fresh f3) hS2 hS1.p.lt hl2 hS1.p.kl hk2
    have hS1l := hS1.p.lt
    have hS2l := hS2.p.lt
    have hz3 := f3.size
    have hz2 := f2.size
    have hzE := fE.size
    have hzw := hF1.size
    have HR4 := hidd ((rE.fresh f2).fresh f3)
    have hc4 := rE.le
    have hc4t := rE.top
    unfold maxLen at hc4t
    obtain ⟨ts, ets⟩ : ∃ ts, ts = natL l := ⟨_, rfl⟩
    have ETL : Hid (ts.length = m) := by show _ = _; rw [ets, natL_len]; exact EM.out.symm
    have hgd := enc_good (fun i hi => (HX.out i hi).1) hkn
    rw [← hle] at hgd
    have hget : ∀ i, i < m → l.getD i 0 ∈ l := fun i hi => by
      have : i < l.length := by have := EM.out; omega
      simp [List.getD_eq_getElem?_getD, this]
    have HGD : Hid (∀ i, i < m → ts.getD i 0 < d.nb + 1 + d.np) := fun i hi => by
      have h1 := hgd _ (hget i hi)
      rw [ets, natL_get (by have := EM.out; omega)]; omega
    have HNZ : Hid (∀ t ∈ ts, t ≠ 0) := fun t ht => by
      rw [ets] at ht
      obtain ⟨z, hz, rfl⟩ := List.mem_map.1 ht
      have := hgd z hz
      omega
    have HSP : Hid (spl d ts = (List.range n).map X) := by
      show _ = _
      rw [ets, spl_spell, hle, d.enc_spell hR _ d.np (Nat.le_refl _), first_spell (fun i hi => (HX.out i hi).1) hkn]
    have hmn : m ≤ n := by
      have := d.encL_len (d.first X n) d.np
      rw [← hle, d.first_len] at this
      have := EM.out
      omega
    have HR5 : Hid (RdA w3 aE 1 m cE (fun i => .int .i64 ((ts.getD i 0 : Nat) : Int))) := HR4.out.congr (fun i hi => by
      have h1 := hgd _ (hget i (by omega))
      rw [ets, natL_get (by have := EM.out; omega), Int.toNat_of_nonneg (by omega)])
    clear hgd hget hle ets hkn hOE rE f2 f3 fE hS1 hS2 HR4
    have HLV : Hid (∀ p, (pE d [] ts p) = false) := fun p => pE_nil HNZ.out p
    obtain ⟨S, eS⟩ : ∃ S : Nat → Nat, S = fun j => if j = 0 then S1 else S2 := ⟨_, rfl⟩
    obtain ⟨K, eK⟩ : ∃ K : Nat → Nat → Prop, K = fun j => if j = 0 then K1 else K2 := ⟨_, rfl⟩
    obtain ⟨sts, est⟩ : ∃ sts : List (List Int), sts = [] := ⟨_, rfl⟩
    rw [← est] at hfam HCST HLV
    clear est
    have hst2 : (fun j => if j = 0 then sts else sts) = fun (_ : Nat) => sts := by funext j; split <;> rfl
    rw [hst2, ← eS, ← eK] at hfam
    have eS0 : Hid (S 0 = S1) := by rw [eS]; exact rfl
    have eS1 : Hid (S 1 = S2) := by rw [eS]; exact rfl
    have hZ := p_zero (d := d) (sts := sts) ts
    have HI0 : Hid (PcI w3 S K d sts ts 0 0 0 0 (fun _ => .slice none 0 0) (fun _ => []) (fun _ => false) w3) := ⟨hfam, hZ.1.symm, hZ.1.symm, hZ.2.1.symm, hZ.2.1.symm, hZ.2.2.symm, hZ.2.2.symm⟩
    have HLM : Hid (∀ p, (pO d sts ts p).length ≤ 16 * p) := fun p => pO_len ts (mem_good HR.out (by rw [ETL.out]; exact HGD.out)) p
    have HNS : Hid (∀ b off, aE = some ⟨b, off, none⟩ → ∀ j, j < 2 → b ≠ S j) := fun b off e j hj => by
      have := HBE.out b off e
      obtain rfl | rfl : j = 0 ∨ j = 1 := by omega
      · rw [eS0.out]; omega
      · rw [eS1.out]; omega
    have HLOW : Hid (∀ wX, Chg w3 wX (fun b => ∃ j, j < 2 ∧ b = S j) → Below wE.heap.size w3 wX) := fun wX c => c.below (Below.refl _ _) (by omega) (fun b ⟨j, hj, e⟩ => by
      obtain rfl | rfl : j = 0 ∨ j = 1 := by omega
      · rw [eS0.out] at e; omega
      · rw [eS1.out] at e; omega)
    have HFIN : Hid (∀ wX, Chg w3 wX (fun b => ∃ j, j < 2 ∧ b = S j) → Below w.heap.size w wX) := fun wX c => hF4.trans ((HLOW.out wX c).mono (by omega))
    clear hfam hZ hst2 eS eK
    have hN2 : m ≤ 2147483647 := by omega
    go_wp2
    go_loopw [14, 15, 16, 17] (fun va vb at_ i wr => ∃ (p q : Nat) (V : Nat → Value) (L : Nat → List Int) (O : Nat → Bool), p ≤ m ∧ q ≤ p ∧ at_ = .int .i64 p ∧ i = .int .i64 q ∧ va = V 2 ∧ vb = V 3 ∧ Hid (PcI w3 S K d sts ts p p p p V L O wr)) (fun _ _ at_ i _ => m - (intOf at_).toNat)
    case atStart => exact ⟨0, 0, _, _, _, Nat.zero_le _, Nat.zero_le _, rfl, rfl, rfl, rfl, HI0⟩
    case round =>
      obtain ⟨p, q, V, L, O, hp, hq, rfl, rfl, rfl, rfl, HI⟩ := hrel
      obtain ⟨av, kv, ev, _⟩ := OwnB.rda (HI.out.fam.own 2 (by omega))
      obtain ⟨bv, jv, ev', _⟩ := OwnB.rda (HI.out.fam.own 3 (by omega))
      rw [ev, ev']
      have EV := hidd ev
      have EV' := hidd ev'
      clear ev ev'
      obtain ⟨la, ela⟩ : ∃ la, la = (L 2).length := ⟨_, rfl⟩
      obtain ⟨lb, elb⟩ : ∃ lb, lb = (L 3).length := ⟨_, rfl⟩
      rw [← ela] at EV ⊢
      rw [← elb] at EV' ⊢
      clear ela elb
      have hFr := HFIN.out wr HI.out.fam.chg
      by_cases hlt : p < m
      · obtain ⟨bt, ot, rfl, hcs⟩ := HR5.out.one (by omega)
        have HKR := hidd (HK.out.fresh hFr)
        obtain ⟨tb, etb⟩ : ∃ tb, tb = decide (q < C ∧ 0 < U q) := ⟨_, rfl⟩
        have HTB := hidd etb
        clear etb hcs
        go_upto_region 17 with fail
        go_cut [81] from 71 to 81 (fun vt wx => wx = wr ∧ vt = .bool tb)
        case first =>
          by_cases hqC : q < C
          · obtain ⟨bk, ok, rfl, hks⟩ := HKR.out.one (by omega)
            have ck1 := hks q hqC
            have hub := HU.out q hqC
            obtain ⟨z, ez⟩ : ∃ z, z = U q := ⟨_, rfl⟩
            rw [← ez] at ck1 hub
            have dq : decide ((q : Int) < (C : Int)) = true := by simp; omega
            by_cases hz : 0 < z
            · have dz : decide (0 < z) = true := decide_eq_true hz
              have ht : tb = true := by rw [HTB.out, ← ez]; exact decide_eq_true ⟨hqC, hz⟩
              clear hks ez HTB
              subst ht
              go_wp2_with fail
              go_meet
              case rel => exact ⟨rfl, rfl⟩
            · have dz : decide (0 < z) = false := decide_eq_false hz
              have ht : tb = false := by rw [HTB.out, ← ez]; exact decide_eq_false (fun h => hz h.2)
              clear hks ez HTB
              subst ht
              go_wp2_with fail
              go_meet
              case rel => exact ⟨rfl, rfl⟩
          · have dq : decide ((q : Int) < (C : Int)) = false := by simp; omega
            have ht : tb = false := by rw [HTB.out]; exact decide_eq_false (fun h => hqC h.1)
            clear HTB
            subst ht
            go_wp2_with fail
            go_meet
            case rel => exact ⟨rfl, rfl⟩
        case rest =>
        obtain ⟨hwc, rfl⟩ := hcut
        rw [hwc]
        clear hwc
        go_upto_if 81 with fail
        go_cut [18] from 81 to 85 (fun v18 wx => wx = wr ∧ ∃ k0 : Nat, v18 = .int .i64 k0 ∧ 1 ≤ k0 ∧ k0 ≤ 9223372036854775807)
        case first =>
          cases tb with
          | true =>
            obtain ⟨hqC, hz⟩ := of_decide_eq_true HTB.out.symm
            obtain ⟨bk, ok, rfl, hks⟩ := HKR.out.one (by omega)
            have ck1 := hks q hqC
            have hub := HU.out q hqC
            obtain ⟨k0, ek0⟩ : ∃ k0 : Nat, U q = (k0 : Int) := ⟨(U q).toNat, by omega⟩
            rw [ek0] at ck1 hub hz
            clear hks ek0 HTB
            go_wp2_with fail
            go_meet
            case rel => exact ⟨rfl, k0, rfl, by omega, by omega⟩
          | false =>
            go_wp2_with fail
            go_meet
            case rel => exact ⟨rfl, 1, rfl, by omega, by omega⟩
        case rest =>
        obtain ⟨hwc, k0, rfl, hk0, hk01⟩ := hcut
        rw [hwc]
        clear hwc HTB HKR
        obtain ⟨k1, ek1⟩ : ∃ k1, k1 = min k0 (m - p) := ⟨_, rfl⟩
        have hk1n : p + k1 ≤ m := by omega
        have hk11 : 1 ≤ k1 := by omega
        have EK1 := hidd ek1
        clear ek1
        go_upto_if 91 with fail
        go_cut [18] from 91 to 95 (fun v18 wx => wx = wr ∧ v18 = .int .i64 k1)
        case first =>
          by_cases hkk : m - p < k0
          · have dk : decide (((m : Int) - (p : Int)) < (k0 : Int)) = true := by simp; omega
            have ek1 : Hid (((m : Int) - (p : Int)) = (k1 : Int)) := by show _ = _; have := EK1.out; omega
            go_wp2_with fail
            go_meet
            case rel => exact ⟨rfl, congrArg _ ek1.out⟩
          · have dk : decide (((m : Int) - (p : Int)) < (k0 : Int)) = false := by simp; omega
            have ek1 : Hid ((k0 : Int) = (k1 : Int)) := by show _ = _; have := EK1.out; omega
            go_wp2_with fail
            go_meet
            case rel => exact ⟨rfl, congrArg _ ek1.out⟩
        case rest =>
        obtain ⟨hwc, rfl⟩ := hcut
        rw [hwc]
        clear hwc EK1 hk0 hk01
        have HTK : Hid (∀ wZ V L O, Fam w3 2 4 S K d (fun _ => sts) V L O wZ → RdA wZ (some ⟨bt, ot + p, none⟩) 1 k1 (cE - p) (fun i => .int .i64 ((((ts.drop p).take k1).getD i 0 : Nat) : Int))) := fun wZ V L O hf => by
          have hr := hf.rd HR5.out HNS.out
          refine ⟨by have := hr.le; omega, by have := hr.top; omega, fun h0 => ⟨bt, ot + p, rfl, fun j hj => ?_⟩⟩
          obtain ⟨b', o', e', hc'⟩ := hr.one (by omega)
          cases e'
          rw [show ot + p + j = ot + (p + j) by omega, hc' (p + j) (by omega), dropT_get (by omega)]
        have HTL : Hid (((ts.drop p).take k1).length = k1) := by show _ = _; rw [List.length_take, List.length_drop, ETL.out]; omega
        have HLOB : Hid (∀ wZ V L O, Fam w3 2 4 S K d (fun _ => sts) V L O wZ → ∀ j, j < 2 → ∀ b off, some ⟨bt, ot + p, none⟩ = some (⟨b, off, none⟩ : Addr) → (V j).ownBlock ≠ some b ∧ b ≠ S j) := fun wZ V L O hf j hj b off e => by
          cases e
          have := HBE.out bt ot rfl
          refine ⟨fun e => ?_, HNS.out bt ot rfl j hj⟩
          have := hf.lo j (by omega) _ e
          omega
        have HF1 := hidd (feed_any2 HCST.out (HI.out.fam.sta (j := 0) (by omega)) (by rw [HI.out.x1, HI.out.e1]; exact p_stl HCST.out.byt ts p) HTL.out (HTK.out wr V L O HI.out.fam) (HLOB.out wr V L O HI.out.fam 0 (by omega)) (fun i hi => by rw [dropT_get hi]; exact HGD.out _ (by omega)) (by omega))
        rw [eS0.out] at HF1
        have HPK : Hid ((((p + k1 : Nat) : Int)) = (p : Int) + (k1 : Int)) := by show _ = _; omega
        go_wp2_with fail
        refine HF1.out.mono ?_
        rintro e w5 ⟨v5, rfl, hfd, hov⟩
        rw [← eS0.out] at hfd
        obtain ⟨V5, L5, O5, A5, hI5, g1, g2, g3, hA5, hO5, hoff5⟩ := HI.out.feed1w HCST.out.byt hfd hov
        have HF2 := hidd (feed_any2 HCST.out (hI5.fam.sta (j := 1) (by omega)) (by rw [hI5.x2, hI5.e2]; exact p_stl HCST.out.byt ts p) HTL.out (HTK.out w5 V5 L5 O5 hI5.fam) (HLOB.out w5 V5 L5 O5 hI5.fam 1 (by omega)) (fun i hi => by rw [dropT_get hi]; exact HGD.out _ (by omega)) (by omega))
        rw [eS1.out] at HF2
        have HI5 := hidd hI5
        have HO5 := hidd hO5
        have HOF5 := hidd hoff5
        have HA5 := hidd hA5
        have EG1 := hidd g1
        have EG2 : Hid (V5 2 = .slice av la kv) := by show _ = _; rw [g2, EV.out]
        have EG3 : Hid (V5 3 = .slice bv lb jv) := by show _ = _; rw [g3, EV'.out]
        have G2 := hidd g2
        obtain ⟨a5, c5, e5v, _⟩ := OwnB.rda hO5
        obtain ⟨l5, el5⟩ : ∃ l5, l5 = A5.length := ⟨_, rfl⟩
        rw [← el5] at e5v
        subst e5v
        clear el5 hO5 hoff5 hA5 g1 g2 g3 hI5 hfd hov HF1 EV EV' HI
        go_wp2_with fail
        refine HF2.out.mono ?_
        rintro e w6 ⟨v6, rfl, hfd, hov⟩
        rw [← eS1.out] at hfd
        have hsl1 := HI5.out.fam.sl 1 (by omega)
        have hO5' := Own.chg hfd.chg HO5.out (fun b hb e => by
          rcases e with e | e
          · have := (HOF5.out b hb).2.2.2
            omega
          · rw [EG1.out] at e
            exact (HOF5.out b hb).1 e)
        obtain ⟨V6, L6, O6, A6, hI6, g2, g3, hA6, hO6, hoff6⟩ := HI5.out.feed2w HCST.out.byt hfd hov
        obtain ⟨x5, y5, ex5, r5⟩ := OwnB.rda hO5'
        have hlm := HLM.out (p + k1)
        have HJ := hidd (ljoin_any (hI6.fam.own 2 (by omega)) r5 (fun b off e e2 => by
          rw [g2, G2.out] at e2
          exact (HOF5.out b (by rw [ex5, e]; rfl)).2.1 e2) (by rw [hI6.o1, ← List.length_append, ← HA5.out]; omega))
        rw [hI6.o1, ← HA5.out, g2, EG2.out, ← ex5] at HJ
        have EH2 : Hid (V6 2 = .slice av la kv) := by show _ = _; rw [g2, EG2.out]
        have EH3 : Hid (V6 3 = .slice bv lb jv) := by show _ = _; rw [g3, EG3.out]
        have HI6 := hidd hI6
        have HO6 := hidd hO6
        have HOF6 : Hid (∀ b, v6.ownBlock = some b → (V6 2).ownBlock ≠ some b ∧ (V6 3).ownBlock ≠ some b) := fun b hb => by rw [g2, g3]; exact hoff6 b hb
        have HA6 := hidd hA6
        obtain ⟨a6, c6, e6v, _⟩ := OwnB.rda hO6
        obtain ⟨l6, el6⟩ : ∃ l6, l6 = A6.length := ⟨_, rfl⟩
        rw [← el6] at e6v
        subst e6v
        clear el6 hO6 hoff6 hA6 g2 g3 hI6 hfd hov HF2 HI5 HO5 HOF5 HA5 EG1 EG2 EG3 G2 hO5' r5 ex5 hsl1
        go_wp2_with fail
        refine HJ.out.mono ?_
        rintro e w7 ⟨v7, rfl, hj7⟩
        rw [← EH2.out] at hj7
        obtain ⟨V7, L7, hI7, g2, g3⟩ := HI6.out.join1 hj7
        have hO6' := Own.chg hj7.chg HO6.out (fun b hb e => (HOF6.out b hb).1 e)
        obtain ⟨x6, y6, ex6, r6⟩ := OwnB.rda hO6'
        have HJ2 := hidd (ljoin_any (hI7.fam.own 3 (by omega)) r6 (fun b off e e2 => by
          rw [g3] at e2
          exact (HOF6.out b (by rw [ex6, e]; rfl)).2 e2) (by rw [hI7.o2, ← List.length_append, ← HA6.out]; omega))
        rw [hI7.o2, ← HA6.out, g3, EH3.out, ← ex6] at HJ2
        obtain ⟨a7, c7, ev7, _⟩ := OwnB.rda hj7.own
        obtain ⟨l7, el7⟩ : ∃ l7, l7 = (pO d sts ts (p + k1)).length := ⟨_, rfl⟩
        rw [← el7] at ev7
        subst ev7
        have HI7 := hidd hI7
        have EK2 : Hid (V7 2 = .slice a7 l7 c7) := g2
        have EK3 : Hid (V7 3 = .slice bv lb jv) := by show _ = _; rw [g3, EH3.out]
        clear HJ hj7 hI7 g2 g3 hO6' r6 ex6 HI6 HO6 HOF6 HA6 EH2 EH3 hlm el7
        go_wp2_with fail
        refine HJ2.out.mono ?_
        rintro e w8 ⟨v8, rfl, hj8⟩
        rw [← EK3.out] at hj8
        obtain ⟨V8, L8, hI8, g2, g3⟩ := HI7.out.join2 hj8
        obtain ⟨a8, c8, ev8, _⟩ := OwnB.rda hj8.own
        obtain ⟨l8, el8⟩ : ∃ l8, l8 = (pO d sts ts (p + k1)).length := ⟨_, rfl⟩
        rw [← el8] at ev8
        subst ev8
        have HI8 := hidd hI8
        have EM2 : Hid (V8 2 = .slice a7 l7 c7) := by show _ = _; rw [g2, EK2.out]
        have EM3 : Hid (V8 3 = .slice a8 l8 c8) := g3
        clear HJ2 hj8 hI8 g2 g3 HI7 EK2 EK3 el8
        go_wp2
        go_roundw
        case rel => exact ⟨p + k1, q + 1, V8, L8, O6, by omega, by omega, by go_num, by go_num, EM2.out.symm, EM3.out.symm, HI8⟩
        case measure => simp [intOf]; omega
      · obtain rfl : p = m := by omega
        have hlm := HLM.out p
        have hI := HI.out
        have hlv := HLV.out p
        have hxl : (pX d sts ts p).length ≤ 18 := by
          have := p_stl (sts := sts) HCST.out.byt ts p
          have h18 := waN_18 HCST.out.ok (pX d sts ts p)
          unfold Stl at this
          split at this
          · rw [this]; simp
          · omega
        have hall : pO d sts ts p ++ pX d sts ts p = (List.range n).map X := by
          rw [p_all hlv, List.take_of_length_le (by rw [ETL.out]; omega), HSP.out]
        have HE3 : Hid (L 3 ++ L 1 = (List.range n).map X) := by show _ = _; rw [hI.o2, hI.x2, hall]
        have HE2 : Hid (L 2 ++ L 0 = (List.range n).map X) := by show _ = _; rw [hI.o1, hI.x1, hall]
        have HN1 : Hid ((L 3).length + (L 1).length ≤ 1099511627776) := by show _ ≤ _; rw [hI.o2, hI.x2]; omega
        have HN2 : Hid ((L 2).length + (L 0).length ≤ 1099511627776) := by show _ ≤ _; rw [hI.o1, hI.x1]; omega
        have hln : ((List.range n).map X).length = n := by simp
        have HLN := hidd hln
        have hO1 : O 1 = false := by rw [hI.e2, hlv]
        have HO1 := hidd hO1
        have hI1 := hI.fresh (fresh_alloc wr (.cells #[.int .i64 0] 3))
        have hSl := (hI.fam.st 1 (by omega)).lt
        have HF1 := hidd (feed_any2 (ts := [0]) (n := 1) HCST.out (hI1.fam.sta (j := 1) (by omega)) (by rw [hI.x2, hI.e2]; exact p_stl HCST.out.byt ts p) rfl (one_rd wr 3 (.int .i64 0) (fun i => .int .i64 ((([0] : List Nat).getD i 0 : Nat) : Int)) rfl) (fun b off e => by
          cases e
          refine ⟨fun e => ?_, by omega⟩
          have := hI.fam.lt (i := 1) (by omega) e
          omega) (fun i hi => by
          obtain rfl : i = 0 := by omega
          show 0 < _
          omega) (by decide))
        rw [eS1.out] at HF1
        have HI1 := hidd hI1
        have EV0 : Hid (∃ a0 c0, V 0 = .slice a0 (L 0).length c0) := by
          obtain ⟨a0, c0, e0, _⟩ := OwnB.rda (hI.fam.own 0 (by omega))
          exact ⟨a0, c0, e0⟩
        clear hI1 hO1 hln hall hxl hlv hI hlm HI
        go_wp2_with fail
        refine HF1.out.mono ?_
        rintro e w5 ⟨v5, rfl, hfd, _⟩
        rw [← eS1.out] at hfd
        obtain ⟨wv, hf5, hO5, hoff5⟩ := HI1.out.last HO1.out hfd
        obtain ⟨a5, c5, rfl, r5⟩ := OwnB.rda hO5
        have HJ := hidd (ljoin_any (hf5.own 3 (by omega)) r5 (fun b off e e2 => by subst e; exact hoff5 3 (by omega) b e2 rfl) (by rw [pt_ne _ _ (by decide)]; exact HN1.out))
        (repeat rw [pt_ne _ _ (by decide)] at HJ)
        rw [EV'.out, HE3.out] at HJ
        obtain ⟨l5, el5⟩ : ∃ l5, l5 = (L 1).length := ⟨_, rfl⟩
        rw [← el5] at HJ ⊢
        have HF5 := hidd hf5
        clear el5 r5 hO5 hoff5 hfd HF1 hf5
        go_wp2_with fail
        refine HJ.out.mono ?_
        rintro e w6 ⟨v6, rfl, hj6⟩
        have hf6 := HF5.out.join (i := 3) (by omega) (by omega) (by rw [pt_ne _ _ (by decide), EV'.out]; exact hj6)
        obtain ⟨a6, c6, ev6, _⟩ := OwnB.rda hj6.own
        rw [HLN.out] at ev6
        subst ev6
        have HC := hidd (close_any (hf6.sta (j := 0) (by omega)))
        rw [eS0.out] at HC
        (repeat rw [pt_ne _ _ (by decide)] at HC)
        obtain ⟨a0, c0, e0⟩ := EV0.out
        have HF6 := hidd hf6
        clear HJ hj6 hf6 HF5
        go_wp2_with fail
        refine HC.out.mono ?_
        rintro e w7 ⟨rfl, hS7, hO7, hc7⟩
        rw [← eS0.out] at hS7 hc7
        have hf7 := HF6.out.close (j := 0) (by omega) hS7 hc7
        obtain ⟨x7, y7, e7, r7⟩ := OwnB.rda hO7
        have HJ := hidd (ljoin_any (hf7.own 2 (by omega)) r7 (fun b off e e2 => by
          subst e
          (repeat rw [pt_ne _ _ (by decide)] at e2)
          exact HI1.out.fam.off 0 2 (by omega) (by omega) (by decide) b (by rw [e7]; rfl) e2) (by
          (repeat rw [pt_ne _ _ (by decide)])
          exact HN2.out))
        (repeat rw [pt_ne _ _ (by decide)] at HJ)
        rw [EV.out, ← e7, e0, HE2.out] at HJ
        rw [e0]
        obtain ⟨l0, el0⟩ : ∃ l0, l0 = (L 0).length := ⟨_, rfl⟩
        rw [← el0] at HJ ⊢
        have HF7 := hidd hf7
        clear HC hS7 hO7 hc7 r7 el0 e0 e7 hf7 HF6
        go_wp2_with fail
        refine HJ.out.mono ?_
        rintro e w8 ⟨v8, rfl, hj8⟩
        have hf8 := HF7.out.join (i := 2) (by omega) (by omega) (by (repeat rw [pt_ne _ _ (by decide)]); rw [EV.out]; exact hj8)
        obtain ⟨a8, c8, ev8, r8⟩ := OwnB.rda hj8.own
        rw [HLN.out] at ev8 r8
        subst ev8
        have HQ1 := hidd (eqBytes_same r8 (HL.out.fresh (HFIN.out w8 hf8.chg)) (fun i hi => by simp [List.getD_eq_getElem?_getD, hi]))
        have HF8 := hidd hf8
        clear HJ hj8 r8 hf8 HF7
        go_wp2_with fail
        refine HQ1.out.mono ?_
        rintro e w9 ⟨rfl, f9⟩
        have hf9 := HF8.out.fresh f9
        have ho3 := hf9.own 3 (by omega)
        (repeat rw [pt_ne _ _ (by decide)] at ho3)
        rw [pt_at] at ho3
        (repeat rw [pt_ne _ _ (by decide)] at ho3)
        rw [pt_at] at ho3
        obtain ⟨x9, y9, e9, r9⟩ := OwnB.rda ho3
        rw [HLN.out] at e9 r9
        injection e9 with e9 e9n e9'
        clear e9n
        subst e9 e9'
        have HQ2 := hidd (eqBytes_same r9 (HL.out.fresh (HFIN.out w9 hf9.chg)) (fun i hi => by simp [List.getD_eq_getElem?_getD, hi]))
        have HF9 := hidd hf9
        clear HQ1 ho3 r9 hf9 HF8 f9
        go_wp2_with fail
        refine HQ2.out.mono ?_
        rintro e w10 ⟨rfl, f10⟩
        have hf10 := HF9.out.fresh f10
        have HV := hidd (over_any (hf10.st 1 (by omega)))
        rw [eS1.out, show (pt (pt O 1 true) 0 true) 1 = true by rw [pt_ne _ _ (by decide), pt_at]] at HV
        have hBf := HFIN.out w10 hf10.chg
        clear HQ2 hf10 HF9 f10
        go_wp2_with fail
        refine HV.out.mono ?_
        rintro e w11 ⟨rfl, hw⟩
        rw [hw]
        clear hw
        go_wp2
        go_ret
        exact ⟨rfl, hBf⟩
end Go.Proofs.Ytlbmgknlbhakoaa
