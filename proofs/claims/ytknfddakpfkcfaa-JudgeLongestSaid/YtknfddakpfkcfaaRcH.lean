import Derived.Test.YtknfddakpfkcfaaRcG
import Derived.Test.YtknfddakpfkcfaaJdN
namespace Go.Proofs.Ytknfddakpfkcfaa
open Go.RowKit Go.Shelf Go.Sort
/-! JudgeLongest. -/
set_option maxRecDepth 20000 in
theorem least_any (a b : Nat) (w : World) : Calls Try.prog 20 #[.int .i64 (a : Int), .int .i64 (b : Int)] w fun e w' => e = .returned (.int .i64 ((min a b : Nat) : Int)) ∧ w' = w := by
  by_cases c : a < b
  · have d : decide ((a : Int) < (b : Int)) = true := decide_eq_true (by omega)
    have e : min a b = a := by omega
    rw [e]
    clear e
    go_enter Try.func20, Try.ntmps20
    go_wp2
    go_ret
    exact ⟨rfl, rfl⟩
  · have d : decide ((a : Int) < (b : Int)) = false := decide_eq_false (by omega)
    have e : min a b = b := by omega
    rw [e]
    clear e
    go_enter Try.func20, Try.ntmps20
    go_wp2
    go_ret
    exact ⟨rfl, rfl⟩
set_option maxRecDepth 20000 in
set_option maxHeartbeats 8000000 in
theorem longest_law {w : World} {bo co : Option Addr} {n l cb cc : Nat} {R : List (Int × Int)} {Ch : Nat → Int} {root : Int} (h : RdA w bo 2 n cb (rwF R)) (hc : RdA w co 1 l cc (fun i => .int .i64 (Ch i))) :
    Calls Try.prog 5 #[.int .i64 root, .slice bo n cb, .slice co l cc] w fun e w' => e = .returned (.bool true) ∧ Below w.heap.size w w' := by
  have HH := hidd h
  have HC := hidd hc
  have hl9 : l ≤ 9223372036854775807 := by have := hc.le; have := hc.top; unfold maxLen at this; omega
  have K1 := hidd (works_any w)
  clear h hc
  by_cases hn : 96 < n
  · go_enter Try.func5, Try.ntmps5
    go_wp2_with (first
      | (go_at_call 9; with_reducible refine K1.out.mono ?_; rintro e w1 ⟨rfl, hb⟩; have B1 := hidd hb; have K2 := hidd (rclean_bad (root := root) (v := 1099511627776) hn (HH.out.fresh hb)); clear K1 hb)
      | (go_at_call 15; with_reducible refine K2.out.mono ?_; rintro e w2 ⟨rfl, rfl⟩; clear K2))
    go_ret
    exact ⟨rfl, B1.out⟩
  have KC : Hid (∀ w1, Below w.heap.size w w1 → Calls Try.prog 15 #[.int .i64 root, .slice bo n cb, .int .i64 1099511627776] w1 fun e w' => ∃ m u c P T D, okT m P T D ∧ e = .returned (.tuple #[.slice u m c, .int .i64 0]) ∧ Own w' w1.heap.size 44 3 (.slice u m c) m (nds P T D) ∧ Below w1.heap.size w1 w') := fun w1 f1 => (rclean_ok (root := root) (v := 1099511627776) (show n ≤ 96 by omega) (HH.out.fresh f1)).mono (fun e w' q => by
    obtain ⟨u, c, e1, o, b⟩ := q
    exact ⟨_, u, c, _, _, _, rc_ok (wsD_ok _ _ _ n n) (by omega) (by omega) (by omega) (by omega), e1, o, b⟩)
  go_enter Try.func5, Try.ntmps5
  go_upto_region 3 with (first
    | (go_at_call 9; with_reducible refine K1.out.mono ?_; rintro e w1 ⟨rfl, hb⟩; have B1 := hidd hb; have K2 := hidd (KC.out w1 hb); clear K1 hb KC)
    | (go_at_call 15; with_reducible refine K2.out.mono ?_; rintro e w2 ⟨m, u, c, P, T, D, ht, rfl, ho, hb⟩; have HT := hidd ht; have HO := hidd ho; have B2 := hidd (B1.out.trans (hb.mono B1.out.size)); clear K2 hb ho ht))
  have hm1 := HT.out.1
  have hm2 := HT.out.2.1
  have HRT := hidd (own_rda HO.out)
  obtain ⟨bT, oT, rfl, hcT⟩ := HRT.out.node (by omega)
  have HCT := hidd hcT
  clear HO hcT
  obtain ⟨iI, hiI, zI0, zI1, zI2⟩ := info_parts infoI
  have hmk : ∀ w, (Instr.makeSlice 22 (.int .i64 (m : Int)) (.int .i64 (m : Int))).run Try.prog w = .ok (.slice (some ⟨w.heap.size, 0, none⟩) m m) (w.alloc (.cells (madeCells #[.int .i64 0] m) 3)) := run_make_row 22 3 iI (.int .i64 0) Try.underlying22 hiI zI0 zI1 rfl .i64 .i64 m (by rw [zI2]; omega) (by omega)
  clear hiI zI0 zI1 zI2
  obtain ⟨g, HG⟩ : ∃ g, Hid (g = w2.heap.size) := ⟨_, rfl⟩
  have R0 := hidd (World.rowIs_made w2 (.int .i64 0) m 3)
  have f0 := hidd (fresh_alloc w2 (.cells (madeCells #[.int .i64 0] m) 3))
  rw [← HG.out] at R0 f0
  go_wp2
  rw [← HG.out]
  clear hmk
  obtain ⟨mm, HMM⟩ : ∃ x, Hid (x = min m l) := ⟨_, rfl⟩
  have hmm1 : mm ≤ m := by have := HMM.out; omega
  have hmm2 : mm ≤ l := by have := HMM.out; omega
  go_loopw [11] (fun i wr => ∃ k : Nat, k ≤ mm ∧ i = .int .i64 (k : Int) ∧ Hid (wr.rowIs g 3 m (fun j => .int .i64 (if j < k then Ch j else 0))) ∧ Hid (Below g w2 wr)) (fun i _ => mm - (intOf i).toNat)
  case atStart => exact ⟨0, by omega, rfl, R0.out.congr (fun j _ => by rw [if_neg (by omega)]), f0⟩
  case round =>
    clear R0 f0
    obtain ⟨k, hk, rfl, HR, HF⟩ := hrel
    have HFw : Hid (Below w2.heap.size w2 wr) := by rw [← HG.out]; exact HF.out
    have HBw := hidd (B2.out.trans (HFw.out.mono B2.out.size))
    obtain ⟨tb, HTB⟩ : ∃ b, Hid (b = decide (k < mm)) := ⟨_, rfl⟩
    go_upto_region 7 with fail
    go_cut [34, 35, 36, 37, 38, 39, 40, 41, 42, 43] (fun _ _ _ _ _ _ _ _ _ vt wx => wx = wr ∧ vt = .bool tb)
    case first =>
      by_cases c1 : k < m
      · have dc1 : decide ((k : Int) < (m : Int)) = true := decide_eq_true (by omega)
        have dc1b : decide (k < m) = true := decide_eq_true c1
        by_cases c2 : k < l
        · have dc2 : decide ((k : Int) < (l : Int)) = true := decide_eq_true (by omega)
          have dc2b : decide (k < l) = true := decide_eq_true c2
          have hb : tb = true := by rw [HTB.out]; exact decide_eq_true (by have := HMM.out; omega)
          clear HTB; subst hb
          go_wp2_with fail
          go_meet
          case rel => exact ⟨rfl, rfl⟩
        · have dc2 : decide ((k : Int) < (l : Int)) = false := decide_eq_false (by omega)
          have dc2b : decide (k < l) = false := decide_eq_false c2
          have hb : tb = false := by rw [HTB.out]; exact decide_eq_false (by omega)
          clear HTB; subst hb
          go_wp2_with fail
          go_meet
          case rel => exact ⟨rfl, rfl⟩
      · have dc1 : decide ((k : Int) < (m : Int)) = false := decide_eq_false (by omega)
        have dc1b : decide (k < m) = false := decide_eq_false c1
        have hb : tb = false := by rw [HTB.out]; exact decide_eq_false (by omega)
        clear HTB; subst hb
        go_wp2_with fail
        go_meet
        case rel => exact ⟨rfl, rfl⟩
    case rest =>
      obtain ⟨hw, hs⟩ := hcut
      subst hs
      rw [hw]
      clear hw wc
      by_cases hlt : k < mm
      · have hb : tb = true := by rw [HTB.out]; exact decide_eq_true hlt
        clear HTB; subst hb
        obtain ⟨b1, o1, rfl, h1⟩ := (HC.out.fresh HBw.out).one (by omega)
        have x1 := h1 k (by omega)
        have c1 := HR.out.cell (i := k) (by omega)
        have fz := HR.out.frozen
        have k0 : (0 : Int) ≤ (k : Int) := by omega
        have k1 : (k : Int) < (l : Int) := by omega
        have k2 : (k : Int) < (m : Int) := by omega
        have HS := hidd (HR.out.set k (.int .i64 (Ch k)))
        have HF2 := hidd (HF.out.setCell (p := ⟨g, k, none⟩) (Nat.le_refl _) (.int .i64 (Ch k)))
        clear h1
        go_wp2
        go_roundw
        case rel =>
          refine ⟨k + 1, by omega, by go_num, HS.out.congr (fun j _ => ?_), HF2⟩
          by_cases e : j = k
          · subst e; rw [if_pos rfl, if_pos (by omega)]
          · rw [if_neg e]
            by_cases e2 : j < k
            · rw [if_pos e2, if_pos (by omega)]
            · rw [if_neg e2, if_neg (by omega)]
        case measure => simp [intOf]; omega
      · have hb : tb = false := by rw [HTB.out]; exact decide_eq_false hlt
        clear HTB; subst hb
        obtain ⟨C, HCC⟩ : ∃ C : Nat → Int, Hid (C = fun j => if j < k then Ch j else 0) := ⟨_, rfl⟩
        have HRC : Hid (wr.rowIs g 3 m (fun j => .int .i64 (C j))) := by rw [HCC.out]; exact HR.out
        have HRA := hidd (rowIs_rd HRC.out (by unfold maxLen; omega))
        have HRTr := hidd (HRT.out.fresh HFw.out)
        have K3 := hidd (walk_any HRTr.out HRA.out)
        clear HR HF HCC hk hlt HC HH HRT
        rename World => w3
        go_upto_region 11 with (go_at_call 16; with_reducible refine K3.out.mono ?_; rintro e w4 ⟨v4, m4, x4, er4, rfl, q4⟩; obtain ⟨hE, hX, hR⟩ := q4.ok HT.out rfl; have HE := hidd hE; have HX := hidd hX; have HER := hidd hR; have L4 := hidd q4.low; have W4 := hidd q4.own; obtain ⟨u4, c4, rfl, _⟩ := own_sl q4.own; clear K3 q4 hE hX hR)
        have er0 := HER.out
        subst er0
        have hp4 := HE.out.pos
        have hl4 := HE.out.p.len
        have HRW4 : Hid (RdA w4 u4 1 m4 c4 (fun i => .int .i64 ((wyF m P T C i : Nat) : Int))) := own_rda W4.out
        have HRT4 := hidd (HRTr.out.fresh L4.out)
        have HRC4 := hidd (rowIs_fresh HRC.out L4.out)
        have HB4 := hidd (HBw.out.trans (L4.out.mono HBw.out.size))
        have HCT4 : Hid (∀ i, i < m → w4.cell? ⟨bT, oT + i * 3, none⟩ = some (.int .i64 (P i)) ∧ w4.cell? ⟨bT, oT + i * 3 + 1, none⟩ = some (.int .i64 (T i)) ∧ w4.cell? ⟨bT, oT + i * 3 + 2, none⟩ = some (.int .i64 (D i))) := fun i hi => by
          obtain ⟨a1, a2, a3⟩ := HCT.out i hi
          exact ⟨fresh_cell L4.out (fresh_cell HFw.out a1), fresh_cell L4.out (fresh_cell HFw.out a2), fresh_cell L4.out (fresh_cell HFw.out a3)⟩
        have K5 : Hid (Calls Try.prog 17 #[.slice (some ⟨bT, oT, none⟩) m c, .slice u4 m4 c4] w4 fun e w' => e = .returned (.bool true) ∧ Below w4.heap.size w4 w') := (risWay_any HRT4.out HRW4.out hm1 hm2).mono (fun e w' q => by
          obtain ⟨⟨r, e1, e2⟩, q2⟩ := q
          have : r = true := e2.2 HE.out.isW
          rw [this] at e1
          exact ⟨e1, q2⟩)
        clear W4 L4 HER HRTr HRC HRA HBw HFw HCT HMM hmm1 hmm2
        go_upto_region 12 with (go_at_call 17; with_reducible refine K5.out.mono ?_; rintro e w5 ⟨rfl, hb⟩; have L5 := hidd hb; clear K5 hb)
        have HB5 := hidd (HB4.out.trans (L5.out.mono HB4.out.size))
        have HRW5 := hidd (HRW4.out.fresh L5.out)
        have HRT5 := hidd (HRT4.out.fresh L5.out)
        have HRC5 := hidd (rowIs_fresh HRC4.out L5.out)
        have HCT5 : Hid (∀ i, i < m → w5.cell? ⟨bT, oT + i * 3 + 1, none⟩ = some (.int .i64 (T i))) := fun i hi => fresh_cell L5.out (HCT4.out i hi).2.1
        obtain ⟨bw, ow, rfl, hcw⟩ := HRW5.out.one (by omega)
        have HCW := hidd hcw
        obtain ⟨q, HQ⟩ : ∃ q, Hid (q = m4 - 1) := ⟨_, rfl⟩
        obtain ⟨a, HA⟩ : ∃ a, Hid (a = wyF m P T C (m4 - 1)) := ⟨_, rfl⟩
        have e3 : (m4 : Int) - 1 = (q : Int) := by have := HQ.out; omega
        have q0 : (0 : Int) ≤ (q : Int) := by omega
        have q1 : (q : Int) < (m4 : Int) := by have := HQ.out; omega
        have y1 : w5.cell? ⟨bw, ow + q, none⟩ = some (.int .i64 (a : Int)) := by rw [HQ.out, HA.out]; exact hcw (m4 - 1) (by omega)
        have ha : a < m := by rw [HA.out]; exact HE.out.lt _ (by omega)
        have a0 : (0 : Int) ≤ (a : Int) := by omega
        have a1 : (a : Int) < (m : Int) := by omega
        have y2 := HRC5.out.cell (i := a) ha
        have xe : x4 = C a := by rw [HX.out, HA.out]
        rw [← xe] at y2
        clear xe hcw HRW4 HRT4 HRC4 HCT4 HB4 HX
        go_wp2
        clear e3 q0 q1 y1 y2
        go_loopw [16] (fun i wr => ∃ i' : Nat, i' ≤ m ∧ i = .int .i64 (i' : Int) ∧ Hid (Below w5.heap.size w5 wr)) (fun i _ => m - (intOf i).toNat)
        case atStart => exact ⟨0, by omega, rfl, Below.refl _ _⟩
        case round =>
          obtain ⟨i, hi, rfl, HF⟩ := hrel
          by_cases hlt : i < m
          · have i1 : (i : Int) < (m : Int) := by omega
            have K6 := hidd (way_any HT.out i hlt (HRT5.out.fresh HF.out))
            obtain ⟨a1', a2', _, a4', _⟩ := wy_chain HT.out i hlt
            have hwl := (wy_len HT.out i hlt).1
            have HLT := hidd a4'
            obtain ⟨lw, HLW⟩ : ∃ x, Hid (x = (wy P i).length) := ⟨_, rfl⟩
            rw [← HLW.out] at K6 a1' hwl HLT
            clear a2' a4'
            go_upto_region 18 with (go_at_call 18; with_reducible refine K6.out.mono ?_; rintro e w6 ⟨u6, c6, rfl, ho, hb⟩; have F6 := hidd (HF.out.trans (hb.mono HF.out.size)); have O6 := hidd ho; clear K6 ho hb)
            have R6 := hidd (own_rda O6.out)
            obtain ⟨b6, o6, rfl, hc6⟩ := R6.out.one (by omega)
            have HC6 := hidd hc6
            clear hc6 O6
            go_wp2
            go_loopw [18, 19] (fun s18 s19 wr => ∃ k : Nat, 1 ≤ k ∧ k ≤ lw ∧ s19 = .int .i64 (k : Int) ∧ (∃ gb : Bool, s18 = .bool gb ∧ Hid (gb = true ↔ gdP P T C i k)) ∧ Hid (Below w6.heap.size w6 wr)) (fun _ s19 _ => lw - (intOf s19).toNat)
            case atStart => exact ⟨1, by omega, by omega, rfl, ⟨true, rfl, ⟨fun _ j hj => absurd hj (by omega), fun _ => rfl⟩⟩, Below.refl _ _⟩
            case round =>
              obtain ⟨k, hk1, hk, rfl, ⟨gb, rfl, HGB⟩, HF7⟩ := hrel
              by_cases hkl : k < lw
              · obtain ⟨p, HP⟩ : ∃ p, Hid (k = p + 1) := ⟨k - 1, by show k = _; omega⟩
                obtain ⟨y, HY⟩ : ∃ y, Hid (y = (wy P i).getD k 0) := ⟨_, rfl⟩
                obtain ⟨z, HZ⟩ : ∃ y, Hid (y = (wy P i).getD p 0) := ⟨_, rfl⟩
                have hy : y < m := by rw [HY.out]; exact HLT.out k hkl
                have hz : z < m := by rw [HZ.out]; exact HLT.out p (by have := HP.out; omega)
                have x1 := fresh_cell HF7.out (HC6.out k hkl)
                have x2 := fresh_cell HF7.out (HC6.out p (by have := HP.out; omega))
                unfold qF at x1 x2
                rw [← HY.out] at x1
                rw [← HZ.out] at x2
                have F8 := fresh_trans F6.out HF7.out
                have x3 := fresh_cell F8 (HCT5.out y hy)
                have x4 := (rowIs_fresh HRC5.out F8).cell (i := z) hz
                have e3 : (k : Int) - 1 = (p : Int) := by have := HP.out; omega
                have k0 : (0 : Int) ≤ (k : Int) := by omega
                have k1 : (k : Int) < (lw : Int) := by omega
                have p0 : (0 : Int) ≤ (p : Int) := by omega
                have p1 : (p : Int) < (lw : Int) := by have := HP.out; omega
                have y0 : (0 : Int) ≤ (y : Int) := by omega
                have y1 : (y : Int) < (m : Int) := by omega
                have z0 : (0 : Int) ≤ (z : Int) := by omega
                have z1 : (z : Int) < (m : Int) := by omega
                obtain ⟨ty, HTY⟩ : ∃ x, Hid (x = T y) := ⟨_, rfl⟩
                obtain ⟨cz, HCZ⟩ : ∃ x, Hid (x = C z) := ⟨_, rfl⟩
                rw [← HTY.out] at x3
                rw [← HCZ.out] at x4
                have HSTEP : Hid (gdP P T C i (k + 1) ↔ gdP P T C i k ∧ ty = cz) := by
                  constructor
                  · intro g
                    refine ⟨fun j hj => g j (by omega), ?_⟩
                    have := g p (by have := HP.out; omega)
                    rw [← HP.out, ← HY.out, ← HZ.out, ← HTY.out, ← HCZ.out] at this
                    exact this
                  · rintro ⟨g1, g2⟩ j hj
                    by_cases e : j = p
                    · rw [e, ← HP.out, ← HY.out, ← HZ.out, ← HTY.out, ← HCZ.out]; exact g2
                    · exact g1 j (by have := HP.out; omega)
                clear F8
                cases gb with
                | false =>
                  clear x1 x2 x3 x4
                  go_wp2
                  go_quiet (fail)
                  go_wp2
                  go_roundw
                  case rel => exact ⟨k + 1, by omega, by omega, by go_num, ⟨false, rfl, ⟨fun q => (by cases q), fun q => (by have := HGB.out.2 (HSTEP.out.1 q).1; cases this)⟩⟩, below_drewN HF7.out _⟩
                  case measure => simp [intOf]; omega
                | true =>
                  by_cases e : ty = cz
                  · have de : (ty == cz) = true := by rw [beq_iff_eq]; exact e
                    have HEE := hidd e
                    clear e
                    go_wp2
                    go_quiet (fail)
                    go_wp2
                    go_roundw
                    case rel => exact ⟨k + 1, by omega, by omega, by go_num, ⟨true, rfl, ⟨fun _ => HSTEP.out.2 ⟨HGB.out.1 (by first | rfl | trivial), HEE.out⟩, fun _ => rfl⟩⟩, below_drewN HF7.out _⟩
                    case measure => simp [intOf]; omega
                  · have de : (ty == cz) = false := by rw [beq_eq_false_iff_ne]; exact e
                    have HEE := hidd e
                    clear e
                    go_wp2
                    go_quiet (fail)
                    go_wp2
                    go_roundw
                    case rel => exact ⟨k + 1, by omega, by omega, by go_num, ⟨false, rfl, ⟨fun q => (by cases q), fun q => absurd (HSTEP.out.1 q).2 HEE.out⟩⟩, below_drewN HF7.out _⟩
                    case measure => simp [intOf]; omega
              · obtain rfl : k = lw := by omega
                have F8 := hidd (F6.out.trans (HF7.out.mono F6.out.size))
                have HGI : Hid (gb = true ↔ inP m P T C m4 i) := by
                  have := longest HT.out HE.out hlt
                  rw [← HLW.out] at this
                  exact HGB.out.trans this
                have R7 : Hid (RdA wr (some ⟨b6, o6, none⟩) 1 k c6 (fun j => .int .i64 (((wy P i).getD j 0 : Nat) : Int))) := R6.out.fresh HF7.out
                have W7 : Hid (RdA wr (some ⟨bw, ow, none⟩) 1 m4 c4 (fun j => .int .i64 ((wyF m P T C j : Nat) : Int))) := (HRW5.out.fresh F6.out).fresh HF7.out
                have hc4 := W7.out.le
                by_cases hle : k ≤ m4
                · have dle : decide ((k : Int) ≤ (m4 : Int)) = true := decide_eq_true (by omega)
                  have dleb : decide (k ≤ m4) = true := decide_eq_true hle
                  have K7 : Hid (Calls Try.prog 20 #[.int .i64 (k : Int), .int .i64 (m4 : Int)] wr fun e w' => e = .returned (.int .i64 (k : Int)) ∧ w' = wr) := by
                    have := least_any k m4 wr
                    rw [show min k m4 = k by omega] at this
                    exact this
                  have K8 : Hid (Calls Try.prog 19 #[.slice (some ⟨b6, o6, none⟩) k c6, .slice (some ⟨bw, ow, none⟩) k c4] wr fun e w' => e = .returned (.bool gb) ∧ Below wr.heap.size wr w') := (eqInts_any R7.out (W7.out.firsts hle)).mono (fun e w' q => by
                    obtain ⟨⟨r, e1, e2⟩, q2⟩ := q
                    have : r = gb := Bool.eq_iff_iff.2 (e2.trans (Iff.trans ⟨fun q => ⟨by rw [← HLW.out]; exact hle, fun j hj => by have := q.2 j (by rw [HLW.out]; exact hj); omega⟩, fun q => ⟨rfl, fun j hj => by rw [q.2 j (by rw [← HLW.out]; exact hj)]⟩⟩ HGI.out.symm))
                    rw [this] at e1
                    exact ⟨e1, q2⟩)
                  have k0 : (0 : Int) ≤ (k : Int) := by omega
                  have k1 : (k : Int) ≤ (c4 : Int) := by omega
                  cases gb with
                  | false =>
                    go_wp2_with (first
                      | (go_at_call 20; with_reducible refine K7.out.mono ?_; rintro e w8 ⟨rfl, hw8⟩; rw [hw8]; clear hw8 K7)
                      | (go_at_call 19; with_reducible refine K8.out.mono ?_; rintro e w9 ⟨rfl, hb⟩; have F9 := hidd (F8.out.trans (hb.mono F8.out.size)); clear K8 hb))
                    go_roundw
                    case rel => exact ⟨i + 1, by omega, by go_num, F9⟩
                    case measure => simp [intOf]; omega
                  | true =>
                    go_wp2_with (first
                      | (go_at_call 20; with_reducible refine K7.out.mono ?_; rintro e w8 ⟨rfl, hw8⟩; rw [hw8]; clear hw8 K7)
                      | (go_at_call 19; with_reducible refine K8.out.mono ?_; rintro e w9 ⟨rfl, hb⟩; have F9 := hidd (F8.out.trans (hb.mono F8.out.size)); clear K8 hb))
                    go_roundw
                    case rel => exact ⟨i + 1, by omega, by go_num, F9⟩
                    case measure => simp [intOf]; omega
                · have dle : decide ((k : Int) ≤ (m4 : Int)) = false := decide_eq_false (by omega)
                  have dleb : decide (k ≤ m4) = false := decide_eq_false hle
                  have hgb : gb = false := by
                    cases gb with
                    | false => rfl
                    | true => exact absurd (by rw [HLW.out]; exact (HGI.out.1 rfl).1) hle
                  subst hgb
                  go_wp2
                  go_roundw
                  case rel => exact ⟨i + 1, by omega, by go_num, F8⟩
                  case measure => simp [intOf]; omega
          · obtain rfl : i = m := by omega
            have HBE := hidd (HB5.out.trans (HF.out.mono HB5.out.size))
            go_wp2
            go_ret
            exact ⟨rfl, HBE.out⟩
end Go.Proofs.Ytknfddakpfkcfaa
