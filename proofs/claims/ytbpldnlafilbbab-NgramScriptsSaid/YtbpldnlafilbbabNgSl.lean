import Derived.Test.YtbpldnlafilbbabNgSm
import Derived.Deep.DeepCutAuto
import Derived.Deep.RegionHeld3
namespace Go.Proofs.Ytbpldnlafilbbab
open Go.RowKit
theorem ptr_eqX (pa : Option Addr) (w : World) : (binOp .eql 24 (.pointer pa) (.pointer none)).run Try.prog w = .ok (.bool (decide (pa = none))) w := by
  cases pa <;> rfl
theorem ptr_eqY (pa : Option Addr) (w : World) : (binOp .eql 28 (.pointer pa) (.pointer none)).run Try.prog w = .ok (.bool (decide (pa = none))) w := by
  cases pa <;> rfl
theorem opF_1 (s : Sc) (i : Nat) : opF s i 1 = .int .i64 (s.KD i) := rfl
theorem opF_2 (s : Sc) (i : Nat) : opF s i 2 = .slice (s.TO i) (s.TL i) (s.TC i) := rfl
theorem opF_3 (s : Sc) (i : Nat) : opF s i 3 = .int .i64 (s.NN i) := rfl
theorem opF_4 (s : Sc) (i : Nat) : opF s i 4 = .int .i64 (s.DP i) := rfl
theorem op_row (w : World) (s : Sc) (i : Nat) : (w.alloc (Obj.cells #[Value.int IntKind.i64 (s.WH i), Value.int IntKind.i64 (s.KD i), Value.slice (s.TO i) (s.TL i) (s.TC i), Value.int IntKind.i64 (s.NN i), Value.int IntKind.i64 (s.DP i)] 43)).rowIs w.heap.size 43 5 (opF s i) :=
  World.rowIs_alloc w #[Value.int IntKind.i64 (s.WH i), Value.int IntKind.i64 (s.KD i), Value.slice (s.TO i) (s.TL i) (s.TC i), Value.int IntKind.i64 (s.NN i), Value.int IntKind.i64 (s.DP i)] 43 _ (fun j hj => by
      have hj : j < 5 := hj
      rcases j with _ | _ | _ | _ | _ | j
      · rfl
      · rfl
      · rfl
      · rfl
      · rfl
      · omega)
theorem Sk.start {w wr : World} (s : Sc) (f : Below w.heap.size w wr) : Sk w ((wr.alloc (Obj.cells #[Value.pointer none, Value.pointer none] 44)).alloc (Obj.cells #[Value.pointer none, Value.pointer none] 45)) s wr.heap.size (wr.heap.size + 1) 0 := by
  have r1 : (wr.alloc (Obj.cells #[Value.pointer none, Value.pointer none] 44)).rowIs wr.heap.size 44 2 (fun _ => .pointer none) :=
    World.rowIs_alloc wr #[Value.pointer none, Value.pointer none] 44 _ (fun j hj => by
      have hj : j < 2 := hj
      rcases j with _ | _ | j
      · rfl
      · rfl
      · omega)
  have r2 : ((wr.alloc (Obj.cells #[Value.pointer none, Value.pointer none] 44)).alloc (Obj.cells #[Value.pointer none, Value.pointer none] 45)).rowIs (wr.heap.size + 1) 45 2 (fun _ => .pointer none) := by
    have := World.rowIs_alloc (wr.alloc (Obj.cells #[Value.pointer none, Value.pointer none] 44)) #[Value.pointer none, Value.pointer none] 45 (fun _ => .pointer none) (fun j hj => by
      have hj : j < 2 := hj
      rcases j with _ | _ | j
      · rfl
      · rfl
      · omega)
    simp only [World.size_alloc] at this
    exact this
  refine ⟨fun _ => 0, fun _ => none, fun _ => none, fun _ => none, ⟨fun k _ => ⟨_, Xs.nil _, fun b hb => hb.elim⟩, fun k _ => ⟨_, Ys.nil _, fun b hb => hb.elim⟩, fun _ _ => rfl, fun _ _ => rfl, rfl, rfl, (Chg.of_below (fun _ => False) (fresh_alloc _ _)).row r1 (fun t => t), r2, by omega, f.size, by have := f.size; omega, (f.alloc f.size _).alloc (by have := f.size; simp; omega) _⟩, fun _ _ => Nat.zero_le _, fun _ _ => Iff.rfl⟩
set_option maxRecDepth 20000 in
set_option maxHeartbeats 8000000 in
theorem scripts_law {w : World} {so : Option Addr} {n cap : Nat} {s : Sc} (hs : ScAt w so n cap s) : Calls Try.prog 4 #[.slice so n cap] w fun e w' => e = .returned (.bool true) ∧ Below w.heap.size w w' := by
  have HWK := hidd (works_any w)
  have HS := hidd hs
  have hn := hs.sz.1
  have hcap := hs.rd.le
  have hcap2 : cap ≤ 9223372036854775807 := by have := hs.rd.top; unfold maxLen at this; omega
  clear hs
  go_enter Try.func4, Try.ntmps4
  go_wp2_with (go_at_call 5; with_reducible refine HWK.out.mono ?_; rintro e w1 ⟨rfl, hb1⟩; have HB1 := hidd hb1; clear hb1 HWK)
  go_loopw [4, 5] (fun vm vi wr => ∃ i m : Nat, i ≤ n ∧ vi = .int .i64 (i : Int) ∧ vm = .int .i64 (m : Int) ∧ m ≤ 70368744177664 ∧ Hid (m = n + tot s i) ∧ Hid (Below w.heap.size w wr)) (fun _ vi _ => n - (intOf vi).toNat)
  case atStart => exact ⟨0, n, by omega, rfl, rfl, by omega, rfl, HB1⟩
  case round =>
    clear HB1
    obtain ⟨i, m, hi, rfl, rfl, hm, HM, HB⟩ := hrel
    by_cases hlg : m ≤ 2147483647
    · have HL := hidd (fun w' => lgn_no w' hlg)
      by_cases hlt : i < n
      · have hd : decide ((i : Int) < (n : Int)) = true := by simp; omega
        obtain ⟨b, off, rfl, hc⟩ := HS.out.cells HB.out (by omega)
        have d2 := (hc i hlt).2.2.1
        have s1 := HS.out.sz.2 i hlt
        have i0 : (0 : Int) ≤ (i : Int) := by omega
        have i1 : (i : Int) < (n : Int) := by omega
        clear hc
        obtain ⟨m2, hm2⟩ : ∃ m2, m2 = m + s.TL i := ⟨_, rfl⟩
        have HM2 : Hid (m2 = n + tot s (i + 1)) := by show m2 = _; rw [hm2, HM.out]; show _ = n + (tot s i + s.TL i); omega
        generalize s.TL i = tl at *
        have e1 : (m : Int) + (tl : Int) = (m2 : Int) := by omega
        have hm3 : m2 ≤ 70368744177664 := by omega
        clear hm2
        go_wp2_with (go_at_call 15; with_reducible refine (HL.out _).mono ?_; rintro e w5 ⟨rfl, h5⟩; rw [h5]; clear h5)
        go_roundw
        case rel => exact ⟨i + 1, m2, by omega, by go_num, rfl, hm3, HM2, HB⟩
        case measure => simp [intOf]; omega
      · obtain rfl : n = i := by omega
        have hd : decide ((n : Int) < (n : Int)) = false := by simp
        go_wp2_with (go_at_call 15; with_reducible refine (HL.out _).mono ?_; rintro e w5 ⟨rfl, h5⟩; rw [h5]; clear h5)
        have hnm : n ≤ 2147483647 := by have := HM.out; omega
        have HTT : Hid (tot s n ≤ 2147483647) := by have := HM.out; show tot s n ≤ _; omega
        have HK0 := hidd (Sk.start s HB.out)
        obtain ⟨ba, HBA⟩ : ∃ x, Hid (x = wr.heap.size) := ⟨_, rfl⟩
        obtain ⟨bb, HBB⟩ : ∃ x, Hid (x = wr.heap.size + 1) := ⟨_, rfl⟩
        have hbb : ba + 1 = bb := by rw [HBA.out, HBB.out]
        rw [← HBA.out, hbb] at HK0
        rw [← HBA.out, hbb]
        clear HBA HBB HL hlg hlt hd hbb
        generalize ((wr.alloc (Obj.cells #[Value.pointer none, Value.pointer none] 44)).alloc (Obj.cells #[Value.pointer none, Value.pointer none] 45)) = w2 at *
        clear HB HM
        go_loopw [3, 8] (fun vo vi wr => ∃ i : Nat, i ≤ n ∧ vi = .int .i64 (i : Int) ∧ vo = .bool true ∧ Hid (Sk w wr s ba bb i)) (fun _ vi _ => n - (intOf vi).toNat)
        case atStart => exact ⟨0, by omega, rfl, rfl, HK0⟩
        case round =>
          clear HK0
          obtain ⟨i, hi, rfl, rfl, HK⟩ := hrel
          by_cases hlt : i < n
          · have hd : decide ((i : Int) < (n : Int)) = true := by simp; omega
            obtain ⟨b, off, rfl, hc⟩ := HS.out.cells HK.out.low (by omega)
            obtain ⟨d0, d1, d2, d3, d4⟩ := hc i hlt
            have i0 : (0 : Int) ≤ (i : Int) := by omega
            have i1 : (i : Int) < (n : Int) := by omega
            clear hc
            go_upto_if 55 with fail
            have hrow : (wr.alloc (Obj.cells #[Value.int IntKind.i64 (s.WH i), Value.int IntKind.i64 (s.KD i), Value.slice (s.TO i) (s.TL i) (s.TC i), Value.int IntKind.i64 (s.NN i), Value.int IntKind.i64 (s.DP i)] 43)).rowIs wr.heap.size 43 5 (opF s i) := op_row wr s i
            have HK3 := hidd (HK.out.fresh (fresh_alloc wr (Obj.cells #[Value.int IntKind.i64 (s.WH i), Value.int IntKind.i64 (s.KD i), Value.slice (s.TO i) (s.TL i) (s.TC i), Value.int IntKind.i64 (s.NN i), Value.int IntKind.i64 (s.DP i)] 43)))
            have HL3 : Hid (∃ lab px py z, Sr w (wr.alloc (Obj.cells #[Value.int IntKind.i64 (s.WH i), Value.int IntKind.i64 (s.KD i), Value.slice (s.TO i) (s.TL i) (s.TC i), Value.int IntKind.i64 (s.NN i), Value.int IntKind.i64 (s.DP i)] 43)) lab ba bb px py z z ∧ (∀ k, k < 2 → lenZ (z k) ≤ tot s i) ∧ (∀ k, k < 2 → (px k = none ↔ py k = none)) ∧ lab wr.heap.size = 0) := by
              obtain ⟨lab, px, py, z, g1, g2, g3⟩ := HK.out.ex
              exact ⟨lab, px, py, z, g1.fresh (fresh_alloc _ _), g2, g3, g1.new _ (Nat.le_refl _)⟩
            obtain ⟨bo, HBO⟩ : ∃ x, Hid (x = wr.heap.size) := ⟨_, rfl⟩
            rw [← HBO.out] at hrow HL3 ⊢
            have HRO := hidd hrow
            clear hrow HK HK3 HBO d0 d1 d2 d3 d4
            generalize (wr.alloc (Obj.cells #[Value.int IntKind.i64 (s.WH i), Value.int IntKind.i64 (s.KD i), Value.slice (s.TO i) (s.TL i) (s.TC i), Value.int IntKind.i64 (s.NN i), Value.int IntKind.i64 (s.DP i)] 43)) = w3 at *
            go_cut [10] (fun v10 wx => ∃ k : Nat, k < 2 ∧ v10 = .int .i64 (k : Int) ∧ wx = w3)
            case first =>
              by_cases hng : (s.WH i).tmod 2 < 0
              · have hd2 : decide ((s.WH i).tmod 2 < 0) = true := decide_eq_true hng
                go_wp2
                go_meet
                case rel => exact ⟨1, by omega, rfl, rfl⟩
              · have hd2 : decide ((s.WH i).tmod 2 < 0) = false := decide_eq_false hng
                have h2 := Int.tmod_lt_of_pos (s.WH i) (show (0 : Int) < 2 by decide)
                go_wp2
                go_meet
                case rel => exact ⟨((s.WH i).tmod 2).toNat, by omega, by congr 1; omega, rfl⟩
            case rest =>
              obtain ⟨k, hk, rfl, rfl⟩ := hcut
              obtain ⟨lab, px, py, z, hsr, hz, hpn, hlo⟩ := HL3.out
              have hrn : Rn w wc lab ba bb bo px py z z s i := ⟨hsr, HRO.out, hlo⟩
              have HRN := hidd hrn
              have HZ := hidd hz
              have HPN := hidd hpn
              have c1 := HRO.out.cell (i := 1) (by omega)
              rw [opF_1] at c1
              have hcs := hrn.cells hk
              obtain ⟨ca, cb, c2, c3, c4⟩ := hcs
              clear HL3 hsr hz hpn hlo HRO hrn
              have k0 : (0 : Int) ≤ (k : Int) := by omega
              have k1 : (k : Int) < 2 := by omega
              have hti : tot s i ≤ tot s n := tot_mono s (by omega)
              have hti1 : tot s (i + 1) ≤ tot s n := tot_mono s (by omega)
              have htt := HTT.out
              have hts : tot s (i + 1) = tot s i + s.TL i := rfl
              have hzk := HZ.out k hk
              have hfr := HRN.out.sr.ra.frozen
              by_cases hK1 : s.KD i = 1
              · have b1 : (s.KD i == 1) = true := by simp [hK1]
                have HN := hidd (x_new (s.NN i) wc)
                have hpe1 := ptr_eqX
                have hpe2 := ptr_eqY
                go_wp2_with (go_at_call 6; with_reducible refine HN.out.mono ?_; rintro e w4 ⟨p, SX, rfl, hx, f4, sx, pn⟩; have c34 := fresh_cell f4 c3; have HX := hidd hx; have HF4 := hidd f4; have HSX := hidd sx; have HPX := hidd pn; clear hx f4 sx pn HN)
                have HM := hidd (y_new (s.NN i) w4)
                go_upto_region 22 with (go_at_call 7; with_reducible refine HM.out.mono ?_; rintro e w6 ⟨q, SY, rfl, hy, f5, sy, qn⟩; have HY := hidd hy; have HF5 := hidd f5; have HSY := hidd sy; have HPY := hidd qn; clear hy f5 sy qn HM)
                have h5 := (HRN.out.fresh HF4.out).fresh HF5.out
                have ca5 := (h5.cells hk).1
                have fa5 := h5.sr.ra.frozen
                have hrb := (Chg.of_set w6 ba k (.pointer p)).row h5.sr.rb (fun t => h5.sr.hab t.symm)
                have cb5 := hrb.cell (i := k) hk
                have fb5 := hrb.frozen
                have HFI := hidd (HRN.out.news hk HF4.out HX.out HSX.out HF5.out HY.out HSY.out)
                have HPQ : Hid (p = none ↔ q = none) := HPX.out.trans HPY.out.symm
                have hrq : decide (p = none) = decide (q = none) := by simp only [HPQ.out]
                obtain ⟨r, hr⟩ : ∃ r, r = decide (p = none) := ⟨_, rfl⟩
                have hpe1' := hpe1 p
                have hpe2' := hpe2 q
                rw [← hrq, ← hr] at hpe2'
                rw [← hr] at hpe1'
                clear hpe1 hpe2 h5 hrb hrq hr
                generalize newE (s.NN i) = er
                go_wp2
                go_roundw
                case rel =>
                  obtain ⟨lab', g⟩ := HFI.out
                  exact ⟨i + 1, by omega, by go_num, rfl, lab', _, _, _, g, upd_len HZ.out (by rw [newZ_len]; omega) (by omega), upd_nil HPN.out HPQ.out⟩
                case measure => simp [intOf]; omega
              by_cases hK2 : s.KD i = 2
              · have b1 : (s.KD i == 1) = false := by simp [hK1]
                have b2 : (s.KD i == 2) = true := by simp [hK2]
                have HMK := hidd (marked_any ((HS.out.tk i hlt).fresh HRN.out.sr.low) (by omega))
                go_upto_region 27 with (go_at_call 16; with_reducible refine HMK.out.mono ?_; rintro e w4 ⟨rfl, r4, f4⟩; have R4 := hidd r4; have HF4 := hidd f4; clear r4 f4 HMK)
                have h4 := HRN.out.fresh HF4.out
                have ca4 := (h4.cells hk).1
                obtain ⟨g, HG⟩ : ∃ g, Hid (g = wc.heap.size) := ⟨_, rfl⟩
                rw [← HG.out] at R4 ⊢
                have hlg : lab g = 0 := by rw [HG.out]; exact HRN.out.sr.new _ (Nat.le_refl _)
                have hRd : RdA w4 (some ⟨g, 0, none⟩) 1 (s.TL i) (s.TL i + 64) (fun j => .int .i64 (s.T i j)) := ⟨by omega, by unfold maxLen; omega, fun _ => ⟨g, 0, rfl, fun j hj => by rw [Nat.zero_add, R4.out.cell (i := j) (by omega)]; unfold mkd; rw [if_pos (by omega)]⟩⟩
                have HAX := hidd (h4.appendX hk hRd (fun b o e _ => by cases e; exact hlg) (HS.out.tf i hlt) (by omega))
                have HAY : Hid (∀ w6 : World, (Chg w4 w6 (fun b => lab b = k + 1) ∧ ∃ lab', Rn w w6 lab' ba bb bo px py (upd z k (apZ (s.TL i) (s.T i) (z k))) z s i ∧ ∀ b, b < w4.heap.size → lab' b = lab b) → (w6.drew.cell? ⟨ba, k, none⟩ = some (.pointer (px k)) ∧ w6.drew.cell? ⟨bb, k, none⟩ = some (.pointer (py k)) ∧ w6.drew.cell? ⟨bo, 2, none⟩ = some (.slice (s.TO i) (s.TL i) (s.TC i)) ∧ w6.drew.cell? ⟨bo, 3, none⟩ = some (.int .i64 (s.NN i)) ∧ w6.drew.cell? ⟨bo, 4, none⟩ = some (.int .i64 (s.DP i))) ∧ Calls Try.prog 9 #[.pointer (py k), .slice (s.TO i) (s.TL i) (s.TC i)] w6.drew fun e w' => e = .returned (.tuple #[]) ∧ (w'.cell? ⟨ba, k, none⟩ = some (.pointer (px k)) ∧ w'.cell? ⟨bb, k, none⟩ = some (.pointer (py k)) ∧ w'.cell? ⟨bo, 2, none⟩ = some (.slice (s.TO i) (s.TL i) (s.TC i)) ∧ w'.cell? ⟨bo, 3, none⟩ = some (.int .i64 (s.NN i)) ∧ w'.cell? ⟨bo, 4, none⟩ = some (.int .i64 (s.DP i))) ∧ Hid (Sk w w' s ba bb (i + 1) ∧ w'.rowIs g 3 (s.TL i + 64) (fun j => .int .i64 (mkd (s.T i) (s.TL i) j)))) := fun w6 ⟨q1, lab', g1, q2⟩ => by
                  have g2 := g1.fresh ((Below.refl _ w6).drew)
                  have hgl := R4.out.lt
                  refine ⟨g2.cells hk, (g2.appendY hk ((HS.out.tk i hlt).fresh g2.sr.low) (fun b o e h0 => ?_) (by omega)).mono ?_⟩
                  · have := rda_low (HS.out.tk i hlt) b o e h0
                    exact g2.sr.old b this
                  · rintro e w' ⟨rfl, g3, q3, lab2, g4, _⟩
                    refine ⟨rfl, g3, ⟨lab2, px, py, _, g4.sr, upd_len HZ.out (Nat.le_trans (apZ_len _ _ _) (by omega)) (by omega), HPN.out⟩, q3.row ((Chg.of_below (fun _ => False) ((Below.refl _ w6).drew)).row (q1.row R4.out (fun t => by omega)) (fun t => t)) (fun t => by have := q2 g hgl; omega)⟩
                clear h4 hRd
                go_upto_region 28 with (go_at_call 8; with_reducible refine HAX.out.mono ?_; rintro e w6 ⟨rfl, k5, A5⟩)
                obtain ⟨s1, HC3⟩ := HAY.out w6 A5.out
                have HC4 := hidd HC3
                clear HC3 HAY HAX k5 A5
                go_region_held3 (fun w' => (w'.cell? ⟨ba, k, none⟩ = some (.pointer (px k)) ∧ w'.cell? ⟨bb, k, none⟩ = some (.pointer (py k)) ∧ w'.cell? ⟨bo, 2, none⟩ = some (.slice (s.TO i) (s.TL i) (s.TC i)) ∧ w'.cell? ⟨bo, 3, none⟩ = some (.int .i64 (s.NN i)) ∧ w'.cell? ⟨bo, 4, none⟩ = some (.int .i64 (s.DP i))))
                  (first | (with_reducible exact s1) | (with_reducible exact k6) | go_keep)
                  (first | (go_at_call 9; with_reducible refine HC4.out.mono ?_; rintro e w7 ⟨rfl, k6, A6⟩))
                all_goals
                  have HST := hidd (still_any ((HS.out.tk i hlt).fresh A6.out.1.low) A6.out.2 (by omega))
                  obtain ⟨ca6, cb6, c26, c36, c46⟩ := k6
                  go_wp2_with (go_at_call 17; with_reducible refine HST.out.mono ?_; rintro e w8 ⟨rfl, f8⟩; have HE8 := hidd (A6.out.1.fresh f8); clear f8)
                  go_roundw
                  case rel => exact ⟨i + 1, by omega, by go_num, rfl, HE8⟩
                  case measure => simp [intOf]; omega
              by_cases hK3 : s.KD i = 3
              · have b1 : (s.KD i == 1) = false := by simp [hK1]
                have b2 : (s.KD i == 2) = false := by simp [hK2]
                have b3 : (s.KD i == 3) = true := by simp [hK3]
                have s0 : (wc.drew.cell? ⟨ba, k, none⟩ = some (.pointer (px k)) ∧ wc.drew.cell? ⟨bb, k, none⟩ = some (.pointer (py k)) ∧ wc.drew.cell? ⟨bo, 2, none⟩ = some (.slice (s.TO i) (s.TL i) (s.TC i)) ∧ wc.drew.cell? ⟨bo, 3, none⟩ = some (.int .i64 (s.NN i)) ∧ wc.drew.cell? ⟨bo, 4, none⟩ = some (.int .i64 (s.DP i))) := (HRN.out.fresh ((Below.refl _ wc).drew)).cells hk
                have HC1 := hidd ((HRN.out.fresh ((Below.refl _ wc).drew)).cutX hk (s.NN i))
                have HC2 : Hid (∀ w4 : World, (Chg wc.drew w4 (fun b => lab b = k + 1) ∧ ∃ lab', Rn w w4 lab' ba bb bo px py (upd z k (cutZ (s.NN i) (z k))) z s i ∧ ∀ b, b < wc.drew.heap.size → lab' b = lab b) → (w4.drew.cell? ⟨ba, k, none⟩ = some (.pointer (px k)) ∧ w4.drew.cell? ⟨bb, k, none⟩ = some (.pointer (py k)) ∧ w4.drew.cell? ⟨bo, 2, none⟩ = some (.slice (s.TO i) (s.TL i) (s.TC i)) ∧ w4.drew.cell? ⟨bo, 3, none⟩ = some (.int .i64 (s.NN i)) ∧ w4.drew.cell? ⟨bo, 4, none⟩ = some (.int .i64 (s.DP i))) ∧ Calls Try.prog 12 #[.pointer (py k), .int .i64 (s.NN i)] w4.drew fun e w' => e = .returned (.tuple #[]) ∧ (w'.cell? ⟨ba, k, none⟩ = some (.pointer (px k)) ∧ w'.cell? ⟨bb, k, none⟩ = some (.pointer (py k)) ∧ w'.cell? ⟨bo, 2, none⟩ = some (.slice (s.TO i) (s.TL i) (s.TC i)) ∧ w'.cell? ⟨bo, 3, none⟩ = some (.int .i64 (s.NN i)) ∧ w'.cell? ⟨bo, 4, none⟩ = some (.int .i64 (s.DP i))) ∧ Hid (Sk w w' s ba bb (i + 1))) := fun w4 ⟨_, lab', g1, _⟩ => by
                  have g2 := g1.fresh ((Below.refl _ w4).drew)
                  refine ⟨g2.cells hk, (g2.cutY hk (s.NN i) (by omega)).mono ?_⟩
                  rintro e w' ⟨rfl, g3, _, lab2, g4, _⟩
                  refine ⟨rfl, g3, lab2, px, py, _, g4.sr, upd_len HZ.out (Nat.le_trans (cutZ_len _ _) (Nat.le_trans hzk (by omega))) (by omega), HPN.out⟩
                go_upto_region 31 with fail
                go_region_held3 (fun w' => (w'.cell? ⟨ba, k, none⟩ = some (.pointer (px k)) ∧ w'.cell? ⟨bb, k, none⟩ = some (.pointer (py k)) ∧ w'.cell? ⟨bo, 2, none⟩ = some (.slice (s.TO i) (s.TL i) (s.TC i)) ∧ w'.cell? ⟨bo, 3, none⟩ = some (.int .i64 (s.NN i)) ∧ w'.cell? ⟨bo, 4, none⟩ = some (.int .i64 (s.DP i))))
                  (first | (with_reducible exact s0) | (with_reducible exact k5) | go_keep)
                  (first | (go_at_call 18; with_reducible refine HC1.out.mono ?_; rintro e w4 ⟨rfl, k5, A5⟩))
                all_goals
                  obtain ⟨s1, HC3⟩ := HC2.out w4 A5.out
                  have HC4 := hidd HC3
                  clear HC1 HC2 HC3 s0 k5 A5
                  go_upto_region 32 with fail
                  go_region_held3 (fun w' => (w'.cell? ⟨ba, k, none⟩ = some (.pointer (px k)) ∧ w'.cell? ⟨bb, k, none⟩ = some (.pointer (py k)) ∧ w'.cell? ⟨bo, 2, none⟩ = some (.slice (s.TO i) (s.TL i) (s.TC i)) ∧ w'.cell? ⟨bo, 3, none⟩ = some (.int .i64 (s.NN i)) ∧ w'.cell? ⟨bo, 4, none⟩ = some (.int .i64 (s.DP i))))
                    (first | (with_reducible exact s1) | (with_reducible exact k6) | go_keep)
                    (first | (go_at_call 12; with_reducible refine HC4.out.mono ?_; rintro e w6 ⟨rfl, k6, A6⟩))
                  all_goals
                    go_wp2
                    go_roundw
                    case rel => exact ⟨i + 1, by omega, by go_num, rfl, A6⟩
                    case measure => simp [intOf]; omega
              have HE : Hid (Sk w wc s ba bb (i + 1)) := ⟨lab, px, py, z, HRN.out.sr, fun j hj => Nat.le_trans (HZ.out j hj) (by omega), HPN.out⟩
              have b1 : (s.KD i == 1) = false := by simp [hK1]
              have b2 : (s.KD i == 2) = false := by simp [hK2]
              have b3 : (s.KD i == 3) = false := by simp [hK3]
              by_cases hK4 : s.KD i = 4
              · have b4 : (s.KD i == 4) = true := by simp [hK4]
                have s0 : (wc.drew.cell? ⟨ba, k, none⟩ = some (.pointer (px k)) ∧ wc.drew.cell? ⟨bb, k, none⟩ = some (.pointer (py k)) ∧ wc.drew.cell? ⟨bo, 2, none⟩ = some (.slice (s.TO i) (s.TL i) (s.TC i)) ∧ wc.drew.cell? ⟨bo, 3, none⟩ = some (.int .i64 (s.NN i)) ∧ wc.drew.cell? ⟨bo, 4, none⟩ = some (.int .i64 (s.DP i))) := (HRN.out.fresh ((Below.refl _ wc).drew)).cells hk
                have HXL : Hid (Calls Try.prog 19 #[.pointer (px k)] wc.drew fun e w' => e = .returned (.int .i64 (lenZ (z k) : Nat)) ∧ w' = wc.drew) := by
                  obtain ⟨S, h1, _⟩ := (HRN.out.fresh ((Below.refl _ wc).drew)).sr.sx k hk
                  exact x_len h1
                have HYL : Hid (Calls Try.prog 20 #[.pointer (py k)] wc.drew fun e w' => e = .returned (.int .i64 (lenZ (z k) : Nat)) ∧ w' = wc.drew) := by
                  obtain ⟨S, h1, _⟩ := (HRN.out.fresh ((Below.refl _ wc).drew)).sr.sy k hk
                  exact y_len h1
                have HE2 := hidd (HE.out.fresh ((Below.refl _ wc).drew))
                generalize lenZ (z k) = ln at *
                go_upto_region 34 with fail
                go_region_held3 (fun w' => (w'.cell? ⟨ba, k, none⟩ = some (.pointer (px k)) ∧ w'.cell? ⟨bb, k, none⟩ = some (.pointer (py k)) ∧ w'.cell? ⟨bo, 2, none⟩ = some (.slice (s.TO i) (s.TL i) (s.TC i)) ∧ w'.cell? ⟨bo, 3, none⟩ = some (.int .i64 (s.NN i)) ∧ w'.cell? ⟨bo, 4, none⟩ = some (.int .i64 (s.DP i))))
                  (first | (with_reducible exact s0) | go_keep)
                  (first | (go_at_call 19; with_reducible refine HXL.out.mono ?_; rintro e w4 ⟨rfl, h4⟩; subst h4) | (go_at_call 20; with_reducible refine HYL.out.mono ?_; rintro e w4 ⟨rfl, h4⟩; subst h4))
                all_goals
                  go_wp2
                  go_roundw
                  case rel => exact ⟨i + 1, by omega, by go_num, rfl, HE2⟩
                  case measure => simp [intOf]; omega
              have b4 : (s.KD i == 4) = false := by simp [hK4]
              by_cases hK5 : s.KD i = 5
              · have b5 : (s.KD i == 5) = true := by simp [hK5]
                have HYP : Hid (Calls Try.prog 11 #[.pointer (py k)] wc fun e w' => ∃ u c, e = .returned (.slice u (plZ (z k)).length c) ∧ Own w' wc.heap.size 3 1 (.slice u (plZ (z k)).length c) (plZ (z k)).length (qF (plZ (z k))) ∧ Below wc.heap.size wc w') := by
                  obtain ⟨S, h1, _⟩ := HRN.out.sr.sy k hk
                  exact y_places h1 (by omega)
                have HXP : Hid (∀ (k' : Int) (zz : World), Rn w zz lab ba bb bo px py z z s i → Calls Try.prog 21 #[.pointer (px k), .int .i64 k'] zz fun e w' => ∃ u c, e = .returned (.slice u (pkQ k' (plZ (z k))).length c) ∧ Own w' zz.heap.size 3 1 (.slice u (pkQ k' (plZ (z k))).length c) (pkQ k' (plZ (z k))).length (qF (pkQ k' (plZ (z k)))) ∧ Below zz.heap.size zz w') := fun k' zz h => by
                  obtain ⟨S, h1, _⟩ := h.sr.sx k hk
                  exact x_places h1 (by omega) k'
                generalize plZ (z k) = L at *
                go_upto_region 37 with (go_at_call 11; with_reducible refine HYP.out.mono ?_; rintro e w4 ⟨lu, lc, rfl, o4, f4⟩; have HO4 := hidd o4; have HF4 := hidd f4; clear o4 f4 HYP)
                have HRN4 := hidd (HRN.out.fresh HF4.out)
                obtain ⟨c', hr', hfi⟩ := first_any (s.NN i) (own_rda HO4.out)
                have HR' := hidd hr'
                have HFI := hidd hfi
                clear hr' hfi
                have f5 : Below w4.heap.size w4 w4.drew := (Below.refl _ w4).drew
                have s0 : (w4.drew.cell? ⟨ba, k, none⟩ = some (.pointer (px k)) ∧ w4.drew.cell? ⟨bb, k, none⟩ = some (.pointer (py k)) ∧ w4.drew.cell? ⟨bo, 2, none⟩ = some (.slice (s.TO i) (s.TL i) (s.TC i)) ∧ w4.drew.cell? ⟨bo, 3, none⟩ = some (.int .i64 (s.NN i)) ∧ w4.drew.cell? ⟨bo, 4, none⟩ = some (.int .i64 (s.DP i))) := (HRN4.out.fresh f5).cells hk
                have HPL : Hid (∀ zz : World, Below w4.heap.size w4 zz → Calls Try.prog 21 #[.pointer (px k), .int .i64 (s.NN i)] zz fun e w' => ∃ u c, e = .returned (.slice u (pkQ (s.NN i) L).length c) ∧ RdA w' u 1 (pkQ (s.NN i) L).length c (qF (pkQ (s.NN i) L)) ∧ (w'.cell? ⟨ba, k, none⟩ = some (.pointer (px k)) ∧ w'.cell? ⟨bb, k, none⟩ = some (.pointer (py k)) ∧ w'.cell? ⟨bo, 2, none⟩ = some (.slice (s.TO i) (s.TL i) (s.TC i)) ∧ w'.cell? ⟨bo, 3, none⟩ = some (.int .i64 (s.NN i)) ∧ w'.cell? ⟨bo, 4, none⟩ = some (.int .i64 (s.DP i))) ∧ Below w4.heap.size w4 w') := fun zz fz => by
                  refine (HXP.out (s.NN i) zz (HRN4.out.fresh fz)).mono ?_
                  rintro e w' ⟨u, c, rfl, ho, hb⟩
                  exact ⟨u, c, rfl, own_rda ho, (HRN4.out.fresh (fresh_trans fz hb)).cells hk, fresh_trans fz hb⟩
                have HPL0 : Hid (∀ zz : World, Below w4.heap.size w4 zz → Calls Try.prog 21 #[.pointer (px k), .int .i64 0] zz fun e w' => ∃ u c, e = .returned (.slice u L.length c) ∧ RdA w' u 1 L.length c (qF L) ∧ (w'.cell? ⟨ba, k, none⟩ = some (.pointer (px k)) ∧ w'.cell? ⟨bb, k, none⟩ = some (.pointer (py k)) ∧ w'.cell? ⟨bo, 2, none⟩ = some (.slice (s.TO i) (s.TL i) (s.TC i)) ∧ w'.cell? ⟨bo, 3, none⟩ = some (.int .i64 (s.NN i)) ∧ w'.cell? ⟨bo, 4, none⟩ = some (.int .i64 (s.DP i))) ∧ Below w4.heap.size w4 w') := fun zz fz => by
                  refine (HXP.out 0 zz (HRN4.out.fresh fz)).mono ?_
                  rintro e w' ⟨u, c, rfl, ho, hb⟩
                  rw [pkQ_all (.inl (Int.le_refl _))] at ho
                  rw [pkQ_all (.inl (Int.le_refl _))]
                  exact ⟨u, c, rfl, own_rda ho, (HRN4.out.fresh (fresh_trans fz hb)).cells hk, fresh_trans fz hb⟩
                have HEQ : Hid (∀ (zz : World) (u : Option Addr) (c : Nat), Below w4.heap.size w4 zz → RdA zz u 1 (pkQ (s.NN i) L).length c (qF (pkQ (s.NN i) L)) → Calls Try.prog 13 #[.slice u (pkQ (s.NN i) L).length c, .slice lu (pkQ (s.NN i) L).length c'] zz fun e w' => e = .returned (.bool true) ∧ (w'.cell? ⟨ba, k, none⟩ = some (.pointer (px k)) ∧ w'.cell? ⟨bb, k, none⟩ = some (.pointer (py k)) ∧ w'.cell? ⟨bo, 2, none⟩ = some (.slice (s.TO i) (s.TL i) (s.TC i)) ∧ w'.cell? ⟨bo, 3, none⟩ = some (.int .i64 (s.NN i)) ∧ w'.cell? ⟨bo, 4, none⟩ = some (.int .i64 (s.DP i))) ∧ Below w4.heap.size w4 w') := fun zz u c fz hr => by
                  refine (eqInts_valR (r := true) hr (HR'.out.fresh fz) ⟨fun _ _ _ => rfl, fun _ => rfl⟩).mono ?_
                  rintro e w' ⟨rfl, hb⟩
                  exact ⟨rfl, (HRN4.out.fresh (fresh_trans fz hb)).cells hk, fresh_trans fz hb⟩
                have HEQ0 : Hid (∀ (zz : World) (u : Option Addr) (c : Nat), Below w4.heap.size w4 zz → RdA zz u 1 L.length c (qF L) → Calls Try.prog 13 #[.slice u L.length c, .slice lu L.length lc] zz fun e w' => e = .returned (.bool true) ∧ (w'.cell? ⟨ba, k, none⟩ = some (.pointer (px k)) ∧ w'.cell? ⟨bb, k, none⟩ = some (.pointer (py k)) ∧ w'.cell? ⟨bo, 2, none⟩ = some (.slice (s.TO i) (s.TL i) (s.TC i)) ∧ w'.cell? ⟨bo, 3, none⟩ = some (.int .i64 (s.NN i)) ∧ w'.cell? ⟨bo, 4, none⟩ = some (.int .i64 (s.DP i))) ∧ Below w4.heap.size w4 w') := fun zz u c fz hr => by
                  refine (eqInts_valR (r := true) hr ((own_rda HO4.out).fresh fz) ⟨fun _ _ _ => rfl, fun _ => rfl⟩).mono ?_
                  rintro e w' ⟨rfl, hb⟩
                  exact ⟨rfl, (HRN4.out.fresh (fresh_trans fz hb)).cells hk, fresh_trans fz hb⟩
                have HE4 := hidd (HE.out.fresh HF4.out)
                go_region_held3 (fun w' => (w'.cell? ⟨ba, k, none⟩ = some (.pointer (px k)) ∧ w'.cell? ⟨bb, k, none⟩ = some (.pointer (py k)) ∧ w'.cell? ⟨bo, 2, none⟩ = some (.slice (s.TO i) (s.TL i) (s.TC i)) ∧ w'.cell? ⟨bo, 3, none⟩ = some (.int .i64 (s.NN i)) ∧ w'.cell? ⟨bo, 4, none⟩ = some (.int .i64 (s.DP i))))
                  (first | (with_reducible exact s0) | (with_reducible exact kA) | (with_reducible exact kE) | (with_reducible exact kB) | (with_reducible exact kG) | go_keep)
                  (first
                    | (go_at_call 21; with_reducible refine (HPL.out _ f5).mono ?_; rintro e wA ⟨uA, cA, rfl, rA, kA, fA⟩)
                    | (go_at_call 14; with_reducible refine (HFI.out _).mono ?_; rintro e wF ⟨rfl, hF⟩; subst hF)
                    | (go_at_call 13; with_reducible refine (HEQ.out _ uA cA fA rA).mono ?_; rintro e wE ⟨rfl, kE, fE⟩)
                    | (go_at_call 21; with_reducible refine (HPL0.out _ fE).mono ?_; rintro e wB ⟨uB, cB, rfl, rB, kB, fB⟩)
                    | (go_at_call 13; with_reducible refine (HEQ0.out _ uB cB fB rB).mono ?_; rintro e wG ⟨rfl, kG, fG⟩))
                all_goals
                  have HEG := hidd (HE4.out.fresh fG)
                  clear HPL HPL0 HEQ HEQ0 HFI HXP
                  go_wp2
                  go_roundw
                  case rel => exact ⟨i + 1, by omega, by go_num, rfl, HEG⟩
                  case measure => simp [intOf]; omega
              have b5 : (s.KD i == 5) = false := by simp [hK5]
              by_cases hK6 : s.KD i = 6
              · have b6 : (s.KD i == 6) = true := by simp [hK6]
                obtain ⟨_, nf1, nf2⟩ := HS.out.nf i hlt
                obtain ⟨R, HR⟩ : ∃ R, Hid (R = prZ (s.NN i) (s.DP i) (z k)) := ⟨_, rfl⟩
                have f5 : Below wc.heap.size wc wc.drew := (Below.refl _ wc).drew
                have s0 : (wc.drew.cell? ⟨ba, k, none⟩ = some (.pointer (px k)) ∧ wc.drew.cell? ⟨bb, k, none⟩ = some (.pointer (py k)) ∧ wc.drew.cell? ⟨bo, 2, none⟩ = some (.slice (s.TO i) (s.TL i) (s.TC i)) ∧ wc.drew.cell? ⟨bo, 3, none⟩ = some (.int .i64 (s.NN i)) ∧ wc.drew.cell? ⟨bo, 4, none⟩ = some (.int .i64 (s.DP i))) := (HRN.out.fresh f5).cells hk
                have HPX : Hid (∀ zz : World, Below wc.heap.size wc zz → Calls Try.prog 23 #[.pointer (px k), .int .i64 (s.NN i), .int .i64 (s.DP i)] zz fun e w' => ∃ u c, e = .returned (.slice u R.length c) ∧ RdA w' u 2 R.length c (rwF R) ∧ (w'.cell? ⟨ba, k, none⟩ = some (.pointer (px k)) ∧ w'.cell? ⟨bb, k, none⟩ = some (.pointer (py k)) ∧ w'.cell? ⟨bo, 2, none⟩ = some (.slice (s.TO i) (s.TL i) (s.TC i)) ∧ w'.cell? ⟨bo, 3, none⟩ = some (.int .i64 (s.NN i)) ∧ w'.cell? ⟨bo, 4, none⟩ = some (.int .i64 (s.DP i))) ∧ Below wc.heap.size wc w' ∧ Below zz.heap.size zz w') := fun zz fz => by
                  obtain ⟨S, h1, _⟩ := (HRN.out.fresh fz).sr.sx k hk
                  refine (x_propose h1 (by omega) (s.NN i) (s.DP i) nf1 nf2).mono ?_
                  rintro e w' ⟨u, c, rfl, hr, hb⟩
                  rw [← HR.out] at hr ⊢
                  exact ⟨u, c, rfl, hr, (HRN.out.fresh (fresh_trans fz hb)).cells hk, fresh_trans fz hb, hb⟩
                have HPY : Hid (∀ zz : World, Below wc.heap.size wc zz → Calls Try.prog 24 #[.pointer (py k), .int .i64 (s.NN i), .int .i64 (s.DP i)] zz fun e w' => ∃ u c, e = .returned (.slice u R.length c) ∧ RdA w' u 2 R.length c (rwF R) ∧ (w'.cell? ⟨ba, k, none⟩ = some (.pointer (px k)) ∧ w'.cell? ⟨bb, k, none⟩ = some (.pointer (py k)) ∧ w'.cell? ⟨bo, 2, none⟩ = some (.slice (s.TO i) (s.TL i) (s.TC i)) ∧ w'.cell? ⟨bo, 3, none⟩ = some (.int .i64 (s.NN i)) ∧ w'.cell? ⟨bo, 4, none⟩ = some (.int .i64 (s.DP i))) ∧ Below wc.heap.size wc w' ∧ Below zz.heap.size zz w') := fun zz fz => by
                  obtain ⟨S, h1, _⟩ := (HRN.out.fresh fz).sr.sy k hk
                  refine (y_propose h1 (by omega) (s.NN i) (s.DP i)).mono ?_
                  rintro e w' ⟨u, c, rfl, hr, hb⟩
                  rw [← HR.out] at hr ⊢
                  exact ⟨u, c, rfl, hr, (HRN.out.fresh (fresh_trans fz hb)).cells hk, fresh_trans fz hb, hb⟩
                have HEQ : Hid (∀ (zz : World) (u : Option Addr) (c : Nat) (v : Option Addr) (d : Nat), Below wc.heap.size wc zz → RdA zz u 2 R.length c (rwF R) → RdA zz v 2 R.length d (rwF R) → Calls Try.prog 22 #[.slice u R.length c, .slice v R.length d] zz fun e w' => e = .returned (.bool true) ∧ (w'.cell? ⟨ba, k, none⟩ = some (.pointer (px k)) ∧ w'.cell? ⟨bb, k, none⟩ = some (.pointer (py k)) ∧ w'.cell? ⟨bo, 2, none⟩ = some (.slice (s.TO i) (s.TL i) (s.TC i)) ∧ w'.cell? ⟨bo, 3, none⟩ = some (.int .i64 (s.NN i)) ∧ w'.cell? ⟨bo, 4, none⟩ = some (.int .i64 (s.DP i))) ∧ Below wc.heap.size wc w') := fun zz u c v d fz h1 h2 => by
                  refine (eqRaw_same h1 h2).mono ?_
                  rintro e w' ⟨rfl, hb⟩
                  exact ⟨rfl, (HRN.out.fresh (fresh_trans fz hb)).cells hk, fresh_trans fz hb⟩
                generalize R.length = rl at *
                go_upto_region 39 with fail
                go_region_held3 (fun w' => (w'.cell? ⟨ba, k, none⟩ = some (.pointer (px k)) ∧ w'.cell? ⟨bb, k, none⟩ = some (.pointer (py k)) ∧ w'.cell? ⟨bo, 2, none⟩ = some (.slice (s.TO i) (s.TL i) (s.TC i)) ∧ w'.cell? ⟨bo, 3, none⟩ = some (.int .i64 (s.NN i)) ∧ w'.cell? ⟨bo, 4, none⟩ = some (.int .i64 (s.DP i))))
                  (first | (with_reducible exact s0) | (with_reducible exact kA) | (with_reducible exact kB) | (with_reducible exact kC) | (with_reducible exact kE) | go_keep)
                  (first
                    | (go_at_call 23; with_reducible refine (HPX.out _ f5).mono ?_; rintro e wA ⟨uA, cA, rfl, rA, kA, fA, _⟩)
                    | (go_at_call 24; with_reducible refine (HPY.out _ f5).mono ?_; rintro e wB ⟨uB, cB, rfl, rB, kB, fB, _⟩)
                    | (go_at_call 24; with_reducible refine (HPY.out _ fA).mono ?_; rintro e wC ⟨uB, cB, rfl, rB2, kC, fC, gC⟩; have rA2 := rA.fresh gC)
                    | (go_at_call 23; with_reducible refine (HPX.out _ fB).mono ?_; rintro e wC ⟨uA, cA, rfl, rA2, kC, fC, gC⟩; have rB2 := rB.fresh gC)
                    | (go_at_call 22; with_reducible refine (HEQ.out _ uA cA uB cB fC rA2 rB2).mono ?_; rintro e wE ⟨rfl, kE, fE⟩))
                all_goals
                  have HEG := hidd (HE.out.fresh fE)
                  clear HPX HPY HEQ
                  go_wp2
                  go_roundw
                  case rel => exact ⟨i + 1, by omega, by go_num, rfl, HEG⟩
                  case measure => simp [intOf]; omega
              have b6 : (s.KD i == 6) = false := by simp [hK6]
              go_wp2
              go_roundw
              case rel => exact ⟨i + 1, by omega, by go_num, rfl, HE⟩
              case measure => simp [intOf]; omega
          · obtain rfl : n = i := by omega
            have hd : decide ((n : Int) < (n : Int)) = false := by simp
            go_wp2
            go_ret
            exact ⟨rfl, HK.out.low⟩
    · have HL := hidd (fun w' => lgn_yes w' (show 2147483647 < m by omega) (by omega))
      by_cases hlt : i < n
      · have hd : decide ((i : Int) < (n : Int)) = true := by simp; omega
        go_wp2_with (go_at_call 15; with_reducible refine (HL.out _).mono ?_; rintro e w5 ⟨rfl, h5⟩; rw [h5]; clear h5)
        go_ret
        exact ⟨rfl, HB.out⟩
      · obtain rfl : n = i := by omega
        have hd : decide ((n : Int) < (n : Int)) = false := by simp
        go_wp2_with (go_at_call 15; with_reducible refine (HL.out _).mono ?_; rintro e w5 ⟨rfl, h5⟩; rw [h5]; clear h5)
        go_ret
        exact ⟨rfl, HB.out⟩
end Go.Proofs.Ytbpldnlafilbbab
