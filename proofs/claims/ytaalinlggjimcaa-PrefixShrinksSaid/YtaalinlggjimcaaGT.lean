import Derived.Test.YtaalinlggjimcaaHY
namespace Go.Proofs.Ytaalinlggjimcaa
open Go.RowKit
/-! PrefixShrinks. -/
/-- the program's side alone, with what the script holds -/
structure Sk (w wr : World) (X : Wx) (lab : Nat → Nat) (L : Nat → List Nd) (N : Nat → Nat) (cnt : Nat → Nat) (num : Nat → Int) (mine : Nat → Nat) : Prop where
  ps : PS wr X lab L N cnt num
  ws : WS wr X lab mine
  one : L 1 = []
  cts : ∀ b, cnt b = mine b + hs (L 0) b
  bd : ∀ b, mine b ≤ 1099511627776
  new : ∀ z, lab z ≠ 0 → w.heap.size ≤ z
  bel : Below w.heap.size w wr
theorem Sk.fresh {w wr wq : World} {X : Wx} {lab : Nat → Nat} {L : Nat → List Nd} {N : Nat → Nat} {cnt : Nat → Nat} {num : Nat → Int} {mine : Nat → Nat} (h : Sk w wr X lab L N cnt num mine) (f : Below wr.heap.size wr wq) : Sk w wq X lab L N cnt num mine := by
  have k := Chg.of_below (fun _ => False) f
  exact ⟨h.ps.chg k (fun _ e => e.elim), h.ws.chg k (fun _ e => e.elim), h.one, h.cts, h.bd, h.new, h.bel.trans (f.mono h.bel.size)⟩
/-- dropping the script's own: the i-th is at work -/
def SkL (w wr : World) (X : Wx) (lab : Nat → Nat) (L : Nat → List Nd) (N : Nat → Nat) (num : Nat → Int) (i : Nat) : Prop := ∃ cnt mine, Sk w wr X lab L N cnt num mine ∧ ∀ b, b < i → mine b = 0
def mcell (w : World) (mb i : Nat) : Nat := match w.cell? ⟨mb, i, none⟩ with
  | some (.int _ k) => k.toNat
  | _ => 0
theorem mcell_eq {w : World} {mb i m : Nat} (h : w.cell? ⟨mb, i, none⟩ = some (.int .i64 (m : Nat))) : mcell w mb i = m := by unfold mcell; simp [h]
theorem left_nil0 (w : World) : Calls Try.prog 24 #[.pointer none] w fun e w' => e = .returned (.int .i64 0) ∧ w' = w := by
  go_enter Try.func24, Try.ntmps24
  go_wp2
  go_ret
  exact ⟨rfl, rfl⟩
theorem eq_nil0 (w : World) : Calls Try.prog 29 #[.slice none 0 0, .slice none 0 0] w fun e w' => e = .returned (.bool true) ∧ w' = w := by
  go_enter Try.func29, Try.ntmps29
  go_wp2
  go_loopw [5] (fun i wr => i = .int .i64 0 ∧ wr = w) (fun _ _ => 0)
  case atStart => exact ⟨rfl, rfl⟩
  case round =>
    obtain ⟨rfl, rfl⟩ := hrel
    go_wp2
    go_ret
    exact ⟨rfl, rfl⟩
set_option maxRecDepth 20000 in
set_option maxHeartbeats 6400000 in
theorem shrinks_law {w : World} (B S n : Int) {so : Option Addr} {m cap : Nat} {s : Sc} (hs : ScAt w so m cap s) {ao : Option Addr} {T tcap : Nat} {t : Nat → Int} (ha : RdA w ao 1 T tcap (fun j => .int .i64 (t j))) (hfit : ∀ j, j < T → fits (t j)) : Calls Try.prog 6 #[.int .i64 B, .int .i64 S, .slice so m cap, .int .i64 n, .slice ao T tcap] w fun e w' => e = .returned (.bool true) ∧ Below w.heap.size w w' := by
  have HBG : Hid (∀ w1, Below w.heap.size w w1 → Calls Try.prog 26 #[.int .i64 B, .int .i64 S] w1 fun e w' => ∃ wd, e = .returned (.tuple #[.pointer (some ⟨wd, 0, none⟩), .bool true]) ∧ WoP (fun k => k = 0) w w' wd 0) := fun w1 f1 => by
    refine (begun_any (fun k => k = 0) w1 B S).mono ?_
    rintro e w' ⟨wd, rfl, f2, r | ⟨X, lab, L, N, num, y, mine, e1, e2, st, l⟩⟩
    · exact ⟨wd, rfl, f1.trans (f2.mono f1.size), .inl r⟩
    · exact ⟨wd, rfl, f1.trans (f2.mono f1.size), .inr ⟨X, lab, L, N, num, y, mine, e1, e2, st, fun z hz => Nat.le_trans f1.size (l z hz)⟩⟩
  have HWK : Hid (Calls Try.prog 9 #[] w fun e w' => e = .returned (.bool true) ∧ Below w.heap.size w w') := works_any w
  have HLG : Hid (∀ w2, Below w.heap.size w w2 → Calls Try.prog 27 #[.slice so m cap] w2 (LongP m s w2)) := fun w2 f => long_any ⟨hs.rd.fresh f, fun i hi => (hs.tk i hi).fresh f, fun i hi => (hs.bk i hi).fresh f, hs.tf, hs.bf, hs.sz⟩
  have HS := hidd hs
  have HA := hidd (And.intro ha hfit)
  have hcap := hs.rd.le
  have hcap2 : cap ≤ 9223372036854775807 := by have := hs.rd.top; unfold maxLen at this; omega
  clear hs ha hfit
  go_enter Try.func6, Try.ntmps6
  go_wp2_with (first
    | (go_at_call 9; with_reducible refine HWK.out.mono ?_; rintro e w1 ⟨rfl, f1⟩)
    | (go_at_call 26; with_reducible refine (HBG.out w1 f1).mono ?_; rintro e w2 ⟨wd, rfl, W2⟩; have HW2 := hidd W2; clear W2 HBG))
  refine (HLG.out w2 HW2.out.1).mono ?_
  rintro e w3 ⟨r, rfl, hr, f3⟩
  have HW3 := hidd (HW2.out.fresh f3)
  have HR := hidd hr
  clear HW2 HLG hr f1 f3 HWK
  cases r with
  | true =>
    go_wp2
    go_ret
    exact ⟨rfl, HW3.out.1⟩
  | false =>
    have hn : m ≤ 2147483647 := (HR.out rfl).1
    have HT := hidd (HR.out rfl).2
    clear HR
    go_wp2
    go_loopw [14, 15] (fun vi _ wr => ∃ i : Nat, i ≤ m ∧ vi = .int .i64 (i : Int) ∧ Hid (WoP (fun k => k = 0) w wr wd i)) (fun vi _ _ => m - (intOf vi).toNat)
    case atStart => exact ⟨0, by omega, rfl, HW3.out⟩
    case round =>
      clear HW3
      obtain ⟨i, hi, rfl, HW⟩ := hrel
      by_cases hlt : i < m
      · obtain ⟨b, off, rfl, hc⟩ := HS.out.cells HW.out.1 (by omega)
        obtain ⟨d0, d1, d2, d3, d4⟩ := hc i hlt
        have i0 : (0 : Int) ≤ (i : Int) := by omega
        have i1 : (i : Int) < (m : Int) := by omega
        have HST := hidd (wo_step (HW.out.fresh (fresh_alloc wr (.cells #[.int .i64 (s.KD i), .int .i64 0, .slice (s.TO i) (s.TL i) (s.TC i), .slice (s.BO i) (s.BL i) (s.BC i), .int .i64 (s.NN i)] 56))) (by omega) HS.out hlt (HT.out i hlt).1 (HT.out i hlt).2 0 (fun k hk h => by
          rcases h with h | ⟨h, _⟩
          · rw [Int.zero_tmod] at h; show k = 0; omega
          · rw [Int.zero_tmod] at h; omega))
        clear hc HW
        go_wp2_with (first
          | (go_at_call 28; with_reducible refine HST.out.mono ?_; rintro e w5 ⟨rfl, W5⟩; have HW5 := hidd W5; clear W5 HST))
        go_roundw
        case rel => exact ⟨i + 1, by omega, by go_num, HW5.out⟩
        case measure => simp [intOf]; omega
      · obtain rfl : m = i := by omega
        obtain ⟨fw, r | ⟨X, lab, L, N, num, y, mine, rfl, eZ, st, hnew⟩⟩ := HW.out
        · have HRW := hidd r
          obtain ⟨c0, ck, c3, dk, c6⟩ := nil_cells r
          have c1 := ck 0 (by decide)
          have HFW := hidd fw
          have HL : Hid (∀ z, Calls Try.prog 24 #[.pointer none] z fun e w' => e = .returned (.int .i64 0) ∧ w' = z) := fun z => left_nil0 z
          have HF : Hid (∀ z, Calls Try.prog 11 #[.pointer none, .slice ao T tcap] z fun e w'' => e = .returned (.slice none 0 0) ∧ w'' = z) := fun z => find_nil ao T tcap z
          have HSK : Hid (∀ z k, Calls Try.prog 13 #[.pointer none, .int .i64 k] z fun e w'' => e = .returned (.int .i64 0) ∧ w'' = z) := fun z k => shrink_nil k z
          have HLN : Hid (∀ z : Later wr, Calls Try.prog 14 #[.pointer none] z.val fun e w'' => e = .returned (.int .i64 0) ∧ w'' = z.val) := fun z => len_nil z.val
          have HL2 : Hid (∀ z : Later wr, Calls Try.prog 24 #[.pointer none] z.val fun e w' => e = .returned (.int .i64 0) ∧ w' = z.val) := fun z => left_nil0 z.val
          have HEQ : Hid (∀ z, Calls Try.prog 29 #[.slice none 0 0, .slice none 0 0] z fun e w'' => e = .returned (.bool true) ∧ w'' = z) := fun z => eq_nil0 z
          have l0 := later_cell c0
          have l6 := later_cell c6
          have ne := later_some wr
          clear r ck dk fw HW HS HT HA
          have cases : (n < 0 ∨ 0 ≤ n) := by omega
          rcases cases with hn0 | hn0
          · have hd1 : decide (n < 0) = true := by simp; omega
            have hd2 : decide (0 ≤ n) = false := by simp; omega
            go_wp2_with (first
              | (go_at_call 24; with_reducible refine (HL.out _).mono ?_; rintro e w5 ⟨rfl, h5⟩; rw [h5]; clear h5)
              | (go_at_call 11; with_reducible refine (HF.out _).mono ?_; rintro e w5 ⟨rfl, h5⟩; rw [h5]; clear h5)
              | (go_at_call 13; with_reducible refine (HSK.out _ _).mono ?_; rintro e w5 ⟨rfl, h5⟩; rw [h5]; clear h5)
              | (go_at_call 29; with_reducible refine (HEQ.out _).mono ?_; rintro e w5 ⟨rfl, h5⟩; rw [h5]; clear h5))
            go_loopw [22] (fun vi wq => vi = .int .i64 0 ∧ wq = wr) (fun _ _ => 0)
            case atStart => exact ⟨rfl, rfl⟩
            case round =>
              obtain ⟨rfl, rfl⟩ := hrel
              go_wp2_with (first
                | (go_at_call 13; with_reducible refine (HSK.out _ _).mono ?_; rintro e w5 ⟨rfl, h5⟩; rw [h5]; clear h5))
              refine wp_region_later (by kernel_rfl) (by kernel_rfl) ?_
              repeat (go_big_quiet_step (fail))
              go_big_quiet_step (exact later_same (HLN.out _))
              repeat (go_big_quiet_step (fail))
              go_big_quiet_step (exact later_same (HL2.out _))
              repeat (go_big_quiet_step (fail))
              refine wpQuiet_nil ?_
              rintro _ ⟨z, rfl⟩
              have fz := z.fresh
              go_wp2
              go_ret
              exact ⟨rfl, fresh_trans HFW.out fz⟩
          · have hd1 : decide (n < 0) = false := by simp; omega
            have hd2 : decide (0 ≤ n) = true := by simp; omega
            go_wp2_with (first
              | (go_at_call 24; with_reducible refine (HL.out _).mono ?_; rintro e w5 ⟨rfl, h5⟩; rw [h5]; clear h5)
              | (go_at_call 11; with_reducible refine (HF.out _).mono ?_; rintro e w5 ⟨rfl, h5⟩; rw [h5]; clear h5)
              | (go_at_call 13; with_reducible refine (HSK.out _ _).mono ?_; rintro e w5 ⟨rfl, h5⟩; rw [h5]; clear h5)
              | (go_at_call 29; with_reducible refine (HEQ.out _).mono ?_; rintro e w5 ⟨rfl, h5⟩; rw [h5]; clear h5))
            go_loopw [22] (fun vi wq => vi = .int .i64 0 ∧ wq = wr) (fun _ _ => 0)
            case atStart => exact ⟨rfl, rfl⟩
            case round =>
              obtain ⟨rfl, rfl⟩ := hrel
              go_wp2_with (first
                | (go_at_call 13; with_reducible refine (HSK.out _ _).mono ?_; rintro e w5 ⟨rfl, h5⟩; rw [h5]; clear h5))
              refine wp_region_later (by kernel_rfl) (by kernel_rfl) ?_
              repeat (go_big_quiet_step (fail))
              go_big_quiet_step (exact later_same (HLN.out _))
              repeat (go_big_quiet_step (fail))
              go_big_quiet_step (exact later_same (HL2.out _))
              repeat (go_big_quiet_step (fail))
              refine wpQuiet_nil ?_
              rintro _ ⟨z, rfl⟩
              have fz := z.fresh
              go_wp2
              go_ret
              exact ⟨rfl, fresh_trans HFW.out fz⟩
        · have hZ1 : L 1 = [] := st.inv.zz 1 (by decide) (by rw [eZ]; decide)
          have hN0 := st.inv.bN 0 (by decide)
          have SK0 : Sk w wr X lab L N y.cnt num mine := ⟨st.ps, st.ws, hZ1, fun b => by have := st.inv.cts b; rw [hZ1] at this; simpa [hs] using this, fun b => by have := st.inv.bM b; omega, hnew, fw⟩
          obtain ⟨wc0, wck, _, _, wc6⟩ := PS.cells SK0.ws
          have wc1 := wck 0 (by decide)
          have hB := st.ps.pool.hB
          obtain ⟨cB1, cB2, cB3⟩ := st.ps.cc 0 (by decide)
          have hwl := (st.ps.ca 0 (by decide)).well
          obtain ⟨fa, hfa⟩ : ∃ fa, fa = freeN y.cnt X.B := ⟨_, rfl⟩
          have hfaB : fa ≤ 256 := by rw [hfa]; have := freeN_le y.cnt X.B; omega
          have HL1 : Hid (Calls Try.prog 24 #[.pointer (some ⟨X.pg, 0, none⟩)] wr fun e w' => e = .returned (.int .i64 (fa : Nat)) ∧ w' = wr) := by
            have := left_any st.ps.pool
            rw [← hfa] at this
            exact this
          have HF1 : Hid (Calls Try.prog 11 #[.pointer (some ⟨(X.c 0).C, 0, none⟩), .slice ao T tcap] wr fun e w5 => ∃ g1 q1, e = .returned (.slice (some ⟨g1, 0, none⟩) q1 q1) ∧ Hid (∃ b o, Long (X.c 0).C (L 0) (pcL t X.S (T / X.S)) q1 b o ∧ w5.rowIs g1 3 q1 (fun j => .int .i64 (bkF (L 0) (pcL t X.S (T / X.S)) j : Nat)) ∧ lab g1 = 0 ∧ Sk w w5 X lab (setF L 0 (useL (L 0) ((pcL t X.S (T / X.S)).take q1) (N 0 + 1))) (setF N 0 (N 0 + 1)) y.cnt num mine)) := by
            refine (ps_find st.ps (by decide) (by omega) (HA.out.1.fresh fw) HA.out.2).mono ?_
            rintro e w5 ⟨q1, b, o, g1, rfl, hl, hr1, hg1, hps, hch⟩
            have hl0 : lab g1 = 0 := Classical.not_not.1 (fun q => by have := st.ws.low g1 q; omega)
            refine ⟨g1, q1, rfl, b, o, hl, hr1, hl0, hps, st.ws.chg hch (fun z e => by have e : lab z = 3 + 0 := e; omega), by rw [setF_ne _ _ (by decide)]; exact hZ1, fun b => ?_, SK0.bd, hnew, hch.below fw fw.size (fun z e => hnew z (by have e : lab z = 3 + 0 := e; omega))⟩
            rw [setF_at, hs_use]; exact SK0.cts b
          have HF2 : Hid (∀ w5 g1 q1, Hid (∃ b o, Long (X.c 0).C (L 0) (pcL t X.S (T / X.S)) q1 b o ∧ w5.rowIs g1 3 q1 (fun j => .int .i64 (bkF (L 0) (pcL t X.S (T / X.S)) j : Nat)) ∧ lab g1 = 0 ∧ Sk w w5 X lab (setF L 0 (useL (L 0) ((pcL t X.S (T / X.S)).take q1) (N 0 + 1))) (setF N 0 (N 0 + 1)) y.cnt num mine) → Calls Try.prog 13 #[.pointer (some ⟨(X.c 0).C, 0, none⟩), .int .i64 n] w5 fun e w6 => ∃ j : Nat, e = .returned (.int .i64 (j : Int)) ∧ ((j : Int) ≤ n ∨ j = 0) ∧ j ≤ 256 ∧ Hid (∃ b o L2 cnt2, Long (X.c 0).C (L 0) (pcL t X.S (T / X.S)) q1 b o ∧ w6.rowIs g1 3 q1 (fun j => .int .i64 (bkF (L 0) (pcL t X.S (T / X.S)) j : Nat)) ∧ lab g1 = 0 ∧ (∀ x ∈ L2, ∃ y ∈ L 0, x.path = y.path ∧ x.blk = y.blk) ∧ freeN cnt2 X.B = fa + j ∧ Sk w w6 X lab (setF L 0 L2) (setF N 0 (N 0 + 1)) cnt2 num mine)) := fun w5 g1 q1 A5 => by
            obtain ⟨b, o, hl, hr1, hl0, sk⟩ := A5
            refine (ps_shrink sk.ps (by decide) n).mono ?_
            rintro e w6 ⟨j, rfl, L2, cnt2, h1, h2, h3, hps, hch⟩
            rw [setF_at] at h1
            have hw5 := (sk.ps.ca 0 (by decide)).well
            rw [setF_at, setF_at] at hw5
            have hlen := Shr.len hw5 h1
            have hwB := hw5.len
            have hfr := shr_free hw5 (cnt := y.cnt) (by rw [cB3]; exact h1)
            rw [cB3] at hfr hwB
            have lcb := sk.ps.lp.2.1
            have hzz : ∀ z, (lab z = 3 + 0 ∨ z = X.cb) → 2 ≤ lab z ∧ lab z ≤ 4 := fun z e => by
              rcases e with e | e
              · omega
              · rw [e]; omega
            have e1 : (fun j => setF (setF L 0 (useL (L 0) ((pcL t X.S (T / X.S)).take q1) (N 0 + 1))) 0 L2 j) = setF L 0 L2 := funext fun j => by
              by_cases e : j = 0
              · subst e; rw [setF_at, setF_at]
              · rw [setF_ne _ _ e, setF_ne _ _ e, setF_ne _ _ e]
            have e2 : (fun j => setF (setF N 0 (N 0 + 1)) 0 (setF N 0 (N 0 + 1) 0) j) = setF N 0 (N 0 + 1) := funext fun j => by
              by_cases e : j = 0
              · subst e; rw [setF_at]
              · rw [setF_ne _ _ e]
            have hps2 : PS w6 X lab (setF L 0 L2) (setF N 0 (N 0 + 1)) cnt2 num := by rw [← e1, ← e2]; exact hps
            refine ⟨j, rfl, h2, by omega, b, o, L2, cnt2, hl, hch.row hr1 (fun e => by have := hzz _ e; omega), hl0, fun x hx => ?_, by rw [hfa]; exact hfr, hps2, sk.ws.chg hch (fun z e => by have := hzz z e; omega), by rw [setF_ne _ _ (by decide)]; exact hZ1, fun b => ?_, SK0.bd, hnew, hch.below sk.bel sk.bel.size (fun z e => hnew z (by have := hzz z e; omega))⟩
            · exact useL_mem (h1.sub x hx)
            · have q1 := shr_bal hw5 h1 b
              have q2 := sk.cts b
              rw [setF_at] at q2 ⊢
              omega
          have HF3 : Hid (∀ w6 g1 q1 j, Hid (∃ b o L2 cnt2, Long (X.c 0).C (L 0) (pcL t X.S (T / X.S)) q1 b o ∧ w6.rowIs g1 3 q1 (fun j => .int .i64 (bkF (L 0) (pcL t X.S (T / X.S)) j : Nat)) ∧ lab g1 = 0 ∧ (∀ x ∈ L2, ∃ y ∈ L 0, x.path = y.path ∧ x.blk = y.blk) ∧ freeN cnt2 X.B = fa + j ∧ Sk w w6 X lab (setF L 0 L2) (setF N 0 (N 0 + 1)) cnt2 num mine) → Calls Try.prog 11 #[.pointer (some ⟨(X.c 0).C, 0, none⟩), .slice ao T tcap] w6 fun e w7 => ∃ g2 q2, e = .returned (.slice (some ⟨g2, 0, none⟩) q2 q2) ∧ q2 ≤ q1 ∧ q1 ≤ 256 ∧ w7.cell? ⟨X.wd, 0, none⟩ = some (.pointer (some ⟨X.pg, 0, none⟩)) ∧ Hid (∃ L3 N3 cnt2, RdA w7 (some ⟨g2, 0, none⟩) 1 q2 q2 (fun j => .int .i64 (bkF (L 0) (pcL t X.S (T / X.S)) j : Nat)) ∧ RdA w7 (some ⟨g1, 0, none⟩) 1 q2 q1 (fun j => .int .i64 (bkF (L 0) (pcL t X.S (T / X.S)) j : Nat)) ∧ freeN cnt2 X.B = fa + j ∧ Sk w w7 X lab L3 N3 cnt2 num mine)) := fun w6 g1 q1 j A6 => by
            obtain ⟨b, o, L2, cnt2, hl, hr1, hl0, hsub, hfr, sk⟩ := A6
            refine (ps_find sk.ps (by decide) (by rw [setF_at]; omega) (HA.out.1.fresh sk.bel) HA.out.2).mono ?_
            rintro e w7 ⟨q2, b2, o2, g2, rfl, hl2, hr2, hg2, hps, hch⟩
            have hw6 := (sk.ps.ca 0 (by decide)).well
            rw [setF_at, setF_at] at hw6
            rw [setF_at] at hl2 hr2
            obtain ⟨hq, hbk⟩ := found_less hwl hw6 hsub hl hl2
            have hr1' := hch.row hr1 (fun e => by have e : lab g1 = 3 + 0 := e; omega)
            have hq1 : q1 ≤ 256 := by
              rcases Nat.eq_zero_or_pos q1 with e | e
              · omega
              · obtain ⟨z, hz, ez⟩ := hl.at hwl (r := q1 - 1) (by omega)
                have := hwl.deep hz
                have := hwl.len
                rw [ez, List.length_take] at *
                have := hl.le
                omega
            have ws7 := sk.ws.chg hch (fun z e => by have e : lab z = 3 + 0 := e; omega)
            refine ⟨g2, q2, rfl, hq, hq1, ws7.wc.1, _, _, cnt2, ⟨Nat.le_refl _, by unfold maxLen; omega, fun _ => ⟨g2, 0, rfl, fun j hj => by rw [Nat.zero_add, hr2.cell (by omega), hbk j (by omega)]⟩⟩, ⟨hq, by unfold maxLen; omega, fun _ => ⟨g1, 0, rfl, fun j hj => by rw [Nat.zero_add]; exact hr1'.cell (by omega)⟩⟩, hfr, hps, ws7, by rw [setF_ne _ _ (by decide), setF_ne _ _ (by decide)]; exact hZ1, fun b => ?_, SK0.bd, hnew, hch.below sk.bel sk.bel.size (fun z e => hnew z (by have e : lab z = 3 + 0 := e; omega))⟩
            have := sk.cts b
            rw [setF_at] at this
            rw [setF_at, setF_at, hs_use]; exact this
          have HL2 : Hid (∀ w7 g1 q1 g2 q2 j, Hid (∃ L3 N3 cnt2, RdA w7 (some ⟨g2, 0, none⟩) 1 q2 q2 (fun j => .int .i64 (bkF (L 0) (pcL t X.S (T / X.S)) j : Nat)) ∧ RdA w7 (some ⟨g1, 0, none⟩) 1 q2 q1 (fun j => .int .i64 (bkF (L 0) (pcL t X.S (T / X.S)) j : Nat)) ∧ freeN cnt2 X.B = fa + j ∧ Sk w w7 X lab L3 N3 cnt2 num mine) → Calls Try.prog 24 #[.pointer (some ⟨X.pg, 0, none⟩)] w7 fun e w' => e = .returned (.int .i64 ((fa + j : Nat) : Int)) ∧ w' = w7) := fun w7 g1 q1 g2 q2 j A7 => by
            obtain ⟨L3, N3, cnt2, _, _, hfr, sk⟩ := A7
            have := left_any sk.ps.pool
            rw [hfr] at this
            exact this
          have HEQ : Hid (∀ w7 g1 q1 g2 q2 j, Hid (∃ L3 N3 cnt2, RdA w7 (some ⟨g2, 0, none⟩) 1 q2 q2 (fun j => .int .i64 (bkF (L 0) (pcL t X.S (T / X.S)) j : Nat)) ∧ RdA w7 (some ⟨g1, 0, none⟩) 1 q2 q1 (fun j => .int .i64 (bkF (L 0) (pcL t X.S (T / X.S)) j : Nat)) ∧ freeN cnt2 X.B = fa + j ∧ Sk w w7 X lab L3 N3 cnt2 num mine) → Calls Try.prog 29 #[.slice (some ⟨g2, 0, none⟩) q2 q2, .slice (some ⟨g1, 0, none⟩) q2 q1] w7 fun e w8 => e = .returned (.bool true) ∧ Hid (∃ L3 N3, SkL w w8 X lab L3 N3 num 0)) := fun w7 g1 q1 g2 q2 j A7 => by
            obtain ⟨L3, N3, cnt2, hra, hrb, hfr, sk⟩ := A7
            refine (eqInts_any (f := fun j => (bkF (L 0) (pcL t X.S (T / X.S)) j : Nat)) (g := fun j => (bkF (L 0) (pcL t X.S (T / X.S)) j : Nat)) hra hrb).mono ?_
            rintro e w8 ⟨⟨r, rfl, hr⟩, f8⟩
            have : r = true := hr.2 ⟨rfl, fun _ _ => rfl⟩
            subst this
            exact ⟨rfl, L3, N3, cnt2, mine, sk.fresh f8, fun b hb => absurd hb (by omega)⟩
          have HHB := hidd hB
          clear st SK0 hwl hfa HW HS HT HA wck hZ1 hN0 fw hnew cB1 cB2 cB3
          have cases : (n < 0 ∨ 0 ≤ n) := by omega
          rcases cases with hn0 | hn0
          · have hd1 : decide (n < 0) = true := by simp; omega
            have hd2 : decide (0 ≤ n) = false := by simp; omega
            go_wp2_with (first
              | (go_at_call 24; with_reducible refine HL1.out.mono ?_; rintro e w5 ⟨rfl, h5⟩; rw [h5]; clear h5 HL1)
              | (go_at_call 11; with_reducible refine HF1.out.mono ?_; rintro e w5 ⟨g1, q1, rfl, A5⟩; clear HF1)
              | (go_at_call 13; with_reducible refine (HF2.out w5 g1 q1 A5).mono ?_; rintro e w6 ⟨j, rfl, hj, hj2, A6⟩; clear HF2; obtain rfl : j = 0 := (by omega))
              | (go_at_call 11; with_reducible refine (HF3.out w6 g1 q1 0 A6).mono ?_; rintro e w7 ⟨g2, q2, rfl, hq, hq1, k7, A7⟩; clear HF3; have hqd : decide ((q1 : Int) < (q2 : Int)) = false := (by simp; omega); have HL3 := hidd (HL2.out w7 g1 q1 g2 q2 0 A7); have q20 : (0 : Int) ≤ (q2 : Int) := (by omega); have q21 : (q2 : Int) ≤ (q1 : Int) := (by omega))
              | (go_at_call 24; with_reducible refine HL3.out.mono ?_; rintro e w8 ⟨rfl, h8⟩; rw [h8]; clear h8)
              | (go_at_call 29; with_reducible refine (HEQ.out w7 g1 q1 g2 q2 0 A7).mono ?_; rintro e w9 ⟨rfl, A9⟩))
            obtain ⟨L3, N3, S9⟩ := A9.out
            have HS9 := hidd S9
            clear S9 A9 A7 HEQ HL2
            have hB := HHB.out
            go_loopw [22] (fun vi wq => ∃ i : Nat, i ≤ X.B ∧ vi = .int .i64 (i : Int) ∧ Hid (SkL w wq X lab L3 N3 num i)) (fun vi _ => X.B - (intOf vi).toNat)
            case atStart => exact ⟨0, by omega, rfl, HS9.out⟩
            case round =>
              clear HS9
              obtain ⟨i, hi, rfl, HQ⟩ := hrel
              obtain ⟨cnt, mn, sk, hz⟩ := HQ.out
              obtain ⟨e0, ek, _, _, e6⟩ := PS.cells sk.ws
              by_cases hlt : i < X.B
              · have km := sk.ws.mn.cell hlt
                have hct := sk.cts i
                obtain ⟨ci, hci⟩ : ∃ ci, ci = cnt i := ⟨_, rfl⟩
                have HCN : Hid (∀ z : Later wr, Calls Try.prog 23 #[.pointer (some ⟨X.pg, 0, none⟩), .int .i64 (i : Int)] z.val fun e w' => e = .returned (.int .i64 (ci : Nat)) ∧ w' = z.val) := fun z => by
                  have := count_any (sk.fresh z.fresh).ps.pool (i : Int)
                  rw [cntI_nat cnt hlt, ← hci] at this
                  exact this
                obtain ⟨mi, hmi⟩ : ∃ mi, mi = mn i := ⟨_, rfl⟩
                rw [← hmi] at km
                have hcd : decide (ci < mi) = false := by simp; omega
                have hcd2 : ¬ ci < mi := by omega
                have l0 := later_cell e0
                have l6 := later_cell e6
                have lm := later_cell km
                have ne := later_some wr
                have i0 : (0 : Int) ≤ (i : Int) := by omega
                have i1 : (i : Int) < (X.B : Int) := by omega
                clear sk hz ek hct hci hmi
                go_wp2
                refine wp_region_later (by kernel_rfl) (by kernel_rfl) ?_
                repeat (go_big_quiet_step (fail))
                go_big_quiet_step (exact later_same (HCN.out _))
                repeat (go_big_quiet_step (fail))
                refine wpQuiet_nil ?_
                rintro _ ⟨z, rfl⟩
                have HZ : Hid (SkL w z.val X lab L3 N3 num i) := by
                  obtain ⟨cnt, mn, sk, hz⟩ := HQ.out
                  exact ⟨cnt, mn, sk.fresh z.fresh, hz⟩
                clear l0 l6 lm HCN ne e0 e6 km HQ
                generalize z.val = zv at *
                go_wp2
                go_loopw [145] (fun _ wq => Hid (SkL w wq X lab L3 N3 num i)) (fun _ wq => mcell wq X.mb i)
                case atStart => exact HZ.out
                case round =>
                  clear HZ
                  have HQ := hidd hrel.out
                  clear hrel
                  obtain ⟨cnt, mn, sk, hz⟩ := HQ.out
                  obtain ⟨e0, _, _, _, e6⟩ := PS.cells sk.ws
                  have km := sk.ws.mn.cell hlt
                  have kf := sk.ws.mn.frozen i
                  have HMC := hidd (mcell_eq km)
                  obtain ⟨mi, hmi⟩ : ∃ mi, mi = mn i := ⟨_, rfl⟩
                  have hbd := sk.bd i
                  rw [← hmi] at km HMC hbd
                  by_cases hp : 0 < mi
                  · have hpd : decide ((0 : Int) < (mi : Int)) = true := by simp; omega
                    obtain ⟨m1, hm1⟩ : ∃ m1, m1 = mi - 1 := ⟨_, rfl⟩
                    have em : (mi : Int) - 1 = (m1 : Int) := by omega
                    have hm2 : m1 ≤ 1099511627776 := by omega
                    have d0 : (wr.setCell ⟨X.mb, i, none⟩ (.int .i64 (m1 : Nat))).cell? ⟨X.wd, 0, none⟩ = some (.pointer (some ⟨X.pg, 0, none⟩)) := (sk.ws.set i m1).wc.1
                    have HD : Hid (Calls Try.prog 19 #[.pointer (some ⟨X.pg, 0, none⟩), .int .i64 (i : Nat)] (wr.setCell ⟨X.mb, i, none⟩ (.int .i64 (m1 : Nat))) fun e w6 => ∃ q, e = .returned (.int .i64 q) ∧ Hid (SkL w w6 X lab L3 N3 num i ∧ mcell w6 X.mb i = m1)) := by
                      have k := Chg.of_set wr X.mb i (.int .i64 (m1 : Nat))
                      have lmb := sk.ws.lw.2
                      have hct := sk.cts i
                      have hbi := hs_le (L3 0) i
                      refine (ps_drop_ok (sk.ps.chg k (fun z e => by rw [e]; omega)) hlt (by omega) (by omega)).mono ?_
                      rintro e w6 ⟨rfl, hps, hch⟩
                      have ws6 := (sk.ws.set i m1).chg hch (fun z e => by have e : lab z = 2 := e; omega)
                      have b5 : Below w.heap.size w (wr.setCell ⟨X.mb, i, none⟩ (.int .i64 (m1 : Nat))) := sk.bel.setCell (sk.new X.mb (by omega)) _
                      refine ⟨0, rfl, ⟨_, _, ⟨hps, ws6, sk.one, fun b => ?_, fun b => ?_, sk.new, hch.below b5 b5.size (fun z e => sk.new z (by have e : lab z = 2 := e; omega))⟩, fun b hb => ?_⟩, ?_⟩
                      · have := sk.cts b
                        unfold updN
                        split
                        · rename_i e; subst e; omega
                        · exact this
                      · unfold updN
                        split
                        · exact hm2
                        · exact sk.bd b
                      · unfold updN
                        rw [if_neg (by omega)]
                        exact hz b hb
                      · have := mcell_eq (ws6.mn.cell hlt)
                        rw [this]
                        unfold updN
                        rw [if_pos rfl]
                    have hm3 : m1 < mi := by omega
                    clear sk hz hmi HQ hm1
                    go_wp2_with (first
                      | (go_at_call 19; with_reducible refine HD.out.mono ?_; rintro e w6 ⟨q, rfl, A6⟩))
                    go_roundw
                    case rel => exact A6.out.1
                    case measure => rw [A6.out.2, HMC.out]; omega
                  · have hpd : decide ((0 : Int) < (mi : Int)) = false := by simp; omega
                    have HN : Hid (SkL w wr X lab L3 N3 num (i + 1)) := ⟨cnt, mn, sk, fun b hb => by
                      by_cases e : b = i
                      · subst e; omega
                      · exact hz b (by omega)⟩
                    clear sk hz hmi HQ
                    go_wp2
                    go_roundw
                    case rel => exact ⟨i + 1, by omega, by go_num, HN.out⟩
                    case measure => simp [intOf]; omega
              · obtain rfl : X.B = i := by omega
                obtain ⟨cB1, cB2, cB3⟩ := sk.ps.cc 0 (by decide)
                have HSH : Hid (Calls Try.prog 13 #[.pointer (some ⟨(X.c 0).C, 0, none⟩), .int .i64 1099511627776] wr fun e w5 => ∃ j : Nat, e = .returned (.int .i64 (j : Int)) ∧ Hid (∃ N4 cnt4 mn4, PS w5 X lab (setF L3 0 []) N4 cnt4 num ∧ freeN cnt4 X.B = X.B ∧ WS w5 X lab mn4 ∧ Below w.heap.size w w5)) := by
                  refine (ps_shrink sk.ps (by decide) 1099511627776).mono ?_
                  rintro e w5 ⟨j, rfl, L4, cnt4, h1, h2, h3, hps, hch⟩
                  have hw4 := (hps.ca 0 (by decide)).well
                  rw [setF_at] at hw4
                  have hw3 := (sk.ps.ca 0 (by decide)).well
                  have hlen := Shr.len hw3 h1
                  have hwB := hw3.len
                  rw [cB3] at hwB
                  have hl : LeastTo L4 cnt4 X.B nilP := by
                    rcases h3 with h3 | h3
                    · omega
                    · exact h3
                  have hb4 : ∀ b, b < X.B → cnt4 b = hs L4 b := fun b hb => by
                    have q1 := shr_bal hw3 h1 b
                    have q2 := sk.cts b
                    have q3 := hz b hb
                    omega
                  have he : L4 = [] := none_left hw4 (by rw [cB3]; exact hb4) (by rw [cB3]; exact hl)
                  subst he
                  have lcb := sk.ps.lp.2.1
                  have hzz : ∀ z, (lab z = 3 + 0 ∨ z = X.cb) → 2 ≤ lab z ∧ lab z ≤ 4 := fun z e => by
                    rcases e with e | e
                    · omega
                    · rw [e]; omega
                  exact ⟨j, rfl, _, cnt4, mn, hps, freeN_all _ _ (fun b hb => by rw [hb4 b hb]; simp [hs]), sk.ws.chg hch (fun z e => by have := hzz z e; omega), hch.below sk.bel sk.bel.size (fun z e => sk.new z (by have := hzz z e; omega))⟩
                clear sk hz HQ ek
                go_wp2_with (first
                  | (go_at_call 13; with_reducible refine HSH.out.mono ?_; rintro e w5 ⟨j5, rfl, A5⟩))
                obtain ⟨N4, cnt4, mn4, ps4, hfr, ws4, bl4⟩ := A5.out
                obtain ⟨e0', _, _, _, e6'⟩ := PS.cells ws4
                have HLN : Hid (∀ z : Later w5, Calls Try.prog 14 #[.pointer (some ⟨(X.c 0).C, 0, none⟩)] z.val fun e w'' => e = .returned (.int .i64 0) ∧ w'' = z.val) := fun z => by
                  have := ps_len (ps4.chg (Chg.of_below (fun _ => False) z.fresh) (fun _ e => e.elim)) (k := 0) (by decide)
                  rw [setF_at] at this
                  exact this
                have HLF : Hid (∀ z : Later w5, Calls Try.prog 24 #[.pointer (some ⟨X.pg, 0, none⟩)] z.val fun e w'' => e = .returned (.int .i64 (X.B : Nat)) ∧ w'' = z.val) := fun z => by
                  have := left_any (ps4.chg (Chg.of_below (fun _ => False) z.fresh) (fun _ e => e.elim)).pool
                  rw [hfr] at this
                  exact this
                have HBL := hidd bl4
                have l0 := later_cell e0'
                have l6 := later_cell e6'
                have ne := later_some w5
                clear ps4 ws4 bl4 A5 HSH
                refine wp_region_later (by kernel_rfl) (by kernel_rfl) ?_
                repeat (go_big_quiet_step (fail))
                go_big_quiet_step (exact later_same (HLN.out _))
                repeat (go_big_quiet_step (fail))
                go_big_quiet_step (exact later_same (HLF.out _))
                repeat (go_big_quiet_step (fail))
                refine wpQuiet_nil ?_
                rintro _ ⟨z, rfl⟩
                have fz := z.fresh
                go_wp2
                go_ret
                exact ⟨rfl, fresh_trans HBL.out fz⟩
          · have hd1 : decide (n < 0) = false := by simp; omega
            have hd2 : decide (0 ≤ n) = true := by simp; omega
            go_wp2_with (first
              | (go_at_call 24; with_reducible refine HL1.out.mono ?_; rintro e w5 ⟨rfl, h5⟩; rw [h5]; clear h5 HL1)
              | (go_at_call 11; with_reducible refine HF1.out.mono ?_; rintro e w5 ⟨g1, q1, rfl, A5⟩; clear HF1)
              | (go_at_call 13; with_reducible refine (HF2.out w5 g1 q1 A5).mono ?_; rintro e w6 ⟨j, rfl, hj, hj2, A6⟩; clear HF2; have hjn : decide (n < (j : Int)) = false := (by simp; omega); have hjd : decide ((j : Int) < 0) = false := (by simp))
              | (go_at_call 11; with_reducible refine (HF3.out w6 g1 q1 j A6).mono ?_; rintro e w7 ⟨g2, q2, rfl, hq, hq1, k7, A7⟩; clear HF3; have hqd : decide ((q1 : Int) < (q2 : Int)) = false := (by simp; omega); have HL3 := hidd (HL2.out w7 g1 q1 g2 q2 j A7); have q20 : (0 : Int) ≤ (q2 : Int) := (by omega); have q21 : (q2 : Int) ≤ (q1 : Int) := (by omega))
              | (go_at_call 24; with_reducible refine HL3.out.mono ?_; rintro e w8 ⟨rfl, h8⟩; rw [h8]; clear h8)
              | (go_at_call 29; with_reducible refine (HEQ.out w7 g1 q1 g2 q2 j A7).mono ?_; rintro e w9 ⟨rfl, A9⟩))
            obtain ⟨L3, N3, S9⟩ := A9.out
            have HS9 := hidd S9
            clear S9 A9 A7 HEQ HL2
            have hB := HHB.out
            go_loopw [22] (fun vi wq => ∃ i : Nat, i ≤ X.B ∧ vi = .int .i64 (i : Int) ∧ Hid (SkL w wq X lab L3 N3 num i)) (fun vi _ => X.B - (intOf vi).toNat)
            case atStart => exact ⟨0, by omega, rfl, HS9.out⟩
            case round =>
              clear HS9
              obtain ⟨i, hi, rfl, HQ⟩ := hrel
              obtain ⟨cnt, mn, sk, hz⟩ := HQ.out
              obtain ⟨e0, ek, _, _, e6⟩ := PS.cells sk.ws
              by_cases hlt : i < X.B
              · have km := sk.ws.mn.cell hlt
                have hct := sk.cts i
                obtain ⟨ci, hci⟩ : ∃ ci, ci = cnt i := ⟨_, rfl⟩
                have HCN : Hid (∀ z : Later wr, Calls Try.prog 23 #[.pointer (some ⟨X.pg, 0, none⟩), .int .i64 (i : Int)] z.val fun e w' => e = .returned (.int .i64 (ci : Nat)) ∧ w' = z.val) := fun z => by
                  have := count_any (sk.fresh z.fresh).ps.pool (i : Int)
                  rw [cntI_nat cnt hlt, ← hci] at this
                  exact this
                obtain ⟨mi, hmi⟩ : ∃ mi, mi = mn i := ⟨_, rfl⟩
                rw [← hmi] at km
                have hcd : decide (ci < mi) = false := by simp; omega
                have hcd2 : ¬ ci < mi := by omega
                have l0 := later_cell e0
                have l6 := later_cell e6
                have lm := later_cell km
                have ne := later_some wr
                have i0 : (0 : Int) ≤ (i : Int) := by omega
                have i1 : (i : Int) < (X.B : Int) := by omega
                clear sk hz ek hct hci hmi
                go_wp2
                refine wp_region_later (by kernel_rfl) (by kernel_rfl) ?_
                repeat (go_big_quiet_step (fail))
                go_big_quiet_step (exact later_same (HCN.out _))
                repeat (go_big_quiet_step (fail))
                refine wpQuiet_nil ?_
                rintro _ ⟨z, rfl⟩
                have HZ : Hid (SkL w z.val X lab L3 N3 num i) := by
                  obtain ⟨cnt, mn, sk, hz⟩ := HQ.out
                  exact ⟨cnt, mn, sk.fresh z.fresh, hz⟩
                clear l0 l6 lm HCN ne e0 e6 km HQ
                generalize z.val = zv at *
                go_wp2
                go_loopw [145] (fun _ wq => Hid (SkL w wq X lab L3 N3 num i)) (fun _ wq => mcell wq X.mb i)
                case atStart => exact HZ.out
                case round =>
                  clear HZ
                  have HQ := hidd hrel.out
                  clear hrel
                  obtain ⟨cnt, mn, sk, hz⟩ := HQ.out
                  obtain ⟨e0, _, _, _, e6⟩ := PS.cells sk.ws
                  have km := sk.ws.mn.cell hlt
                  have kf := sk.ws.mn.frozen i
                  have HMC := hidd (mcell_eq km)
                  obtain ⟨mi, hmi⟩ : ∃ mi, mi = mn i := ⟨_, rfl⟩
                  have hbd := sk.bd i
                  rw [← hmi] at km HMC hbd
                  by_cases hp : 0 < mi
                  · have hpd : decide ((0 : Int) < (mi : Int)) = true := by simp; omega
                    obtain ⟨m1, hm1⟩ : ∃ m1, m1 = mi - 1 := ⟨_, rfl⟩
                    have em : (mi : Int) - 1 = (m1 : Int) := by omega
                    have hm2 : m1 ≤ 1099511627776 := by omega
                    have d0 : (wr.setCell ⟨X.mb, i, none⟩ (.int .i64 (m1 : Nat))).cell? ⟨X.wd, 0, none⟩ = some (.pointer (some ⟨X.pg, 0, none⟩)) := (sk.ws.set i m1).wc.1
                    have HD : Hid (Calls Try.prog 19 #[.pointer (some ⟨X.pg, 0, none⟩), .int .i64 (i : Nat)] (wr.setCell ⟨X.mb, i, none⟩ (.int .i64 (m1 : Nat))) fun e w6 => ∃ q, e = .returned (.int .i64 q) ∧ Hid (SkL w w6 X lab L3 N3 num i ∧ mcell w6 X.mb i = m1)) := by
                      have k := Chg.of_set wr X.mb i (.int .i64 (m1 : Nat))
                      have lmb := sk.ws.lw.2
                      have hct := sk.cts i
                      have hbi := hs_le (L3 0) i
                      refine (ps_drop_ok (sk.ps.chg k (fun z e => by rw [e]; omega)) hlt (by omega) (by omega)).mono ?_
                      rintro e w6 ⟨rfl, hps, hch⟩
                      have ws6 := (sk.ws.set i m1).chg hch (fun z e => by have e : lab z = 2 := e; omega)
                      have b5 : Below w.heap.size w (wr.setCell ⟨X.mb, i, none⟩ (.int .i64 (m1 : Nat))) := sk.bel.setCell (sk.new X.mb (by omega)) _
                      refine ⟨0, rfl, ⟨_, _, ⟨hps, ws6, sk.one, fun b => ?_, fun b => ?_, sk.new, hch.below b5 b5.size (fun z e => sk.new z (by have e : lab z = 2 := e; omega))⟩, fun b hb => ?_⟩, ?_⟩
                      · have := sk.cts b
                        unfold updN
                        split
                        · rename_i e; subst e; omega
                        · exact this
                      · unfold updN
                        split
                        · exact hm2
                        · exact sk.bd b
                      · unfold updN
                        rw [if_neg (by omega)]
                        exact hz b hb
                      · have := mcell_eq (ws6.mn.cell hlt)
                        rw [this]
                        unfold updN
                        rw [if_pos rfl]
                    have hm3 : m1 < mi := by omega
                    clear sk hz hmi HQ hm1
                    go_wp2_with (first
                      | (go_at_call 19; with_reducible refine HD.out.mono ?_; rintro e w6 ⟨q, rfl, A6⟩))
                    go_roundw
                    case rel => exact A6.out.1
                    case measure => rw [A6.out.2, HMC.out]; omega
                  · have hpd : decide ((0 : Int) < (mi : Int)) = false := by simp; omega
                    have HN : Hid (SkL w wr X lab L3 N3 num (i + 1)) := ⟨cnt, mn, sk, fun b hb => by
                      by_cases e : b = i
                      · subst e; omega
                      · exact hz b (by omega)⟩
                    clear sk hz hmi HQ
                    go_wp2
                    go_roundw
                    case rel => exact ⟨i + 1, by omega, by go_num, HN.out⟩
                    case measure => simp [intOf]; omega
              · obtain rfl : X.B = i := by omega
                obtain ⟨cB1, cB2, cB3⟩ := sk.ps.cc 0 (by decide)
                have HSH : Hid (Calls Try.prog 13 #[.pointer (some ⟨(X.c 0).C, 0, none⟩), .int .i64 1099511627776] wr fun e w5 => ∃ j : Nat, e = .returned (.int .i64 (j : Int)) ∧ Hid (∃ N4 cnt4 mn4, PS w5 X lab (setF L3 0 []) N4 cnt4 num ∧ freeN cnt4 X.B = X.B ∧ WS w5 X lab mn4 ∧ Below w.heap.size w w5)) := by
                  refine (ps_shrink sk.ps (by decide) 1099511627776).mono ?_
                  rintro e w5 ⟨j, rfl, L4, cnt4, h1, h2, h3, hps, hch⟩
                  have hw4 := (hps.ca 0 (by decide)).well
                  rw [setF_at] at hw4
                  have hw3 := (sk.ps.ca 0 (by decide)).well
                  have hlen := Shr.len hw3 h1
                  have hwB := hw3.len
                  rw [cB3] at hwB
                  have hl : LeastTo L4 cnt4 X.B nilP := by
                    rcases h3 with h3 | h3
                    · omega
                    · exact h3
                  have hb4 : ∀ b, b < X.B → cnt4 b = hs L4 b := fun b hb => by
                    have q1 := shr_bal hw3 h1 b
                    have q2 := sk.cts b
                    have q3 := hz b hb
                    omega
                  have he : L4 = [] := none_left hw4 (by rw [cB3]; exact hb4) (by rw [cB3]; exact hl)
                  subst he
                  have lcb := sk.ps.lp.2.1
                  have hzz : ∀ z, (lab z = 3 + 0 ∨ z = X.cb) → 2 ≤ lab z ∧ lab z ≤ 4 := fun z e => by
                    rcases e with e | e
                    · omega
                    · rw [e]; omega
                  exact ⟨j, rfl, _, cnt4, mn, hps, freeN_all _ _ (fun b hb => by rw [hb4 b hb]; simp [hs]), sk.ws.chg hch (fun z e => by have := hzz z e; omega), hch.below sk.bel sk.bel.size (fun z e => sk.new z (by have := hzz z e; omega))⟩
                clear sk hz HQ ek
                go_wp2_with (first
                  | (go_at_call 13; with_reducible refine HSH.out.mono ?_; rintro e w5 ⟨j5, rfl, A5⟩))
                obtain ⟨N4, cnt4, mn4, ps4, hfr, ws4, bl4⟩ := A5.out
                obtain ⟨e0', _, _, _, e6'⟩ := PS.cells ws4
                have HLN : Hid (∀ z : Later w5, Calls Try.prog 14 #[.pointer (some ⟨(X.c 0).C, 0, none⟩)] z.val fun e w'' => e = .returned (.int .i64 0) ∧ w'' = z.val) := fun z => by
                  have := ps_len (ps4.chg (Chg.of_below (fun _ => False) z.fresh) (fun _ e => e.elim)) (k := 0) (by decide)
                  rw [setF_at] at this
                  exact this
                have HLF : Hid (∀ z : Later w5, Calls Try.prog 24 #[.pointer (some ⟨X.pg, 0, none⟩)] z.val fun e w'' => e = .returned (.int .i64 (X.B : Nat)) ∧ w'' = z.val) := fun z => by
                  have := left_any (ps4.chg (Chg.of_below (fun _ => False) z.fresh) (fun _ e => e.elim)).pool
                  rw [hfr] at this
                  exact this
                have HBL := hidd bl4
                have l0 := later_cell e0'
                have l6 := later_cell e6'
                have ne := later_some w5
                clear ps4 ws4 bl4 A5 HSH
                refine wp_region_later (by kernel_rfl) (by kernel_rfl) ?_
                repeat (go_big_quiet_step (fail))
                go_big_quiet_step (exact later_same (HLN.out _))
                repeat (go_big_quiet_step (fail))
                go_big_quiet_step (exact later_same (HLF.out _))
                repeat (go_big_quiet_step (fail))
                refine wpQuiet_nil ?_
                rintro _ ⟨z, rfl⟩
                have fz := z.fresh
                go_wp2
                go_ret
                exact ⟨rfl, fresh_trans HBL.out fz⟩
end Go.Proofs.Ytaalinlggjimcaa
