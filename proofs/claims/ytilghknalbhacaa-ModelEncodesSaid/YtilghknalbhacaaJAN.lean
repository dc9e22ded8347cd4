import Derived.Test.YtilghknalbhacaaJAM
import Derived.Test.YtilghknalbhacaaJAK
import Derived.Test.YtilghknalbhacaaJAJ
import Derived.Laws.Bits64
namespace Go.Proofs.Ytilghknalbhacaa
open Go.RowKit
/-! The view's mat and config. -/
set_option maxRecDepth 20000 in
set_option maxHeartbeats 1600000 in
theorem vmat_any {w : World} {v bb : Nat} {B : List Int} {p : Nat} (h : Vw w v bb B p) (hbb : bb < w.heap.size) {r c : Int} {P : Nat} (hP : r * c = (P : Int)) (hn : P ≤ 1048576) (hp : p ≤ 1099511627776) :
    Calls Try.prog 57 #[.pointer (some ⟨v, 0, none⟩), .int .i64 r, .int .i64 c] w fun e w' => ∃ u k, e = .returned (.agg #[.int .i64 r, .int .i64 c, .slice u P k]) ∧ Own w' w.heap.size 84 1 (.slice u P k) P (fun i => .int .i8 (vnF B p i)) ∧ Vw w' v bb B (p + P) ∧ Chg w w' (fun b => b = v) := by
  have hvl := h.lt
  have hwp : IntKind.i64.wrap (r * c) = (P : Int) := by rw [hP]; exact wrap_small _ (by omega) (by omega)
  have f0 := fresh_alloc w (.cells #[.int .i64 0, .int .i64 0, .slice none 0 0] 29)
  have HR0 := hidd (World.rowIs_alloc3 w (.int .i64 0) (.int .i64 0) (.slice none 0 0) 29)
  have HNR := hidd (vnarrow_any (h.fresh f0) (Nat.lt_of_lt_of_le hbb f0.size) hn hp)
  have HF0 := hidd f0
  have hs0 : (w.alloc (.cells #[.int .i64 0, .int .i64 0, .slice none 0 0] 29)).heap.size = w.heap.size + 1 := by simp
  clear h f0
  go_enter Try.func57, Try.ntmps57
  go_upto_region 1 with fail
  generalize (w.alloc (.cells #[.int .i64 0, .int .i64 0, .slice none 0 0] 29)) = w1 at *
  go_wp2_with (go_at_call 60; refine HNR.out.mono ?_; rintro e w3 ⟨u, k, rfl, ho, hv, hc⟩; have q2 := hc.row HR0.out (by show ¬ (w.heap.size = v); omega); have b0 : w3.cell? ⟨w.heap.size, 0, none⟩ = some (.int .i64 0) := q2.cell (i := 0) (by decide); have b1 : w3.cell? ⟨w.heap.size, 1, none⟩ = some (.int .i64 0) := q2.cell (i := 1) (by decide); have b2 : w3.cell? ⟨w.heap.size, 2, none⟩ = some (.slice none 0 0) := q2.cell (i := 2) (by decide); have z0 := q2.frozen; have HQ2 := hidd q2; have HO := hidd ho; have HV := hidd hv; have HC := hidd hc; clear q2 ho hv hc)
  have HQ := hidd (((HQ2.out.set 0 (.int .i64 r)).set 1 (.int .i64 c)).set 2 (.slice u P k))
  have HCC : Hid (Chg w3 (((w3.setCell ⟨w.heap.size, 0, none⟩ (.int .i64 r)).setCell ⟨w.heap.size, 1, none⟩ (.int .i64 c)).setCell ⟨w.heap.size, 2, none⟩ (.slice u P k)) (fun b => b = w.heap.size)) := ((Chg.of_set w3 _ 0 _).trans (Chg.of_set _ _ 1 _) (fun _ _ e => e)).trans (Chg.of_set _ _ 2 _) (fun _ _ e => e)
  refine bodyPost_ret (v := .agg #[.int .i64 r, .int .i64 c, .slice u P k]) ?_ ?_ ?_
  · refine results_cell_mid Try.results57 _ _ w.heap.size [.int .i64 r, .int .i64 c, .slice u P k] _ rfl ?_ Try.underlying29 rfl (by kernel_rfl)
    intro j x hx
    match j, hx with
    | 0, hx => rw [← Option.some.inj hx]; exact HQ.out.cell (i := 0) (by decide)
    | 1, hx => rw [← Option.some.inj hx]; exact HQ.out.cell (i := 1) (by decide)
    | 2, hx => rw [← Option.some.inj hx]; exact HQ.out.cell (i := 2) (by decide)
    | j + 3, hx => cases hx
  · rfl
  · refine ⟨u, k, rfl, (HO.out.chg HCC.out (fun b e hb => by have := (HO.out.lt b e).1; omega)).weaken (by omega), HV.out.chg HCC.out (by omega) (by omega), ?_⟩
    exact (Chg.pre HF0.out HC.out).trans HCC.out (fun b hb e => by omega)
set_option maxRecDepth 20000 in
set_option maxHeartbeats 1600000 in
theorem vcfg_any {w : World} {v bb : Nat} {B : List Int} {p : Nat} (h : Vw w v bb B p) (hbb : bb < w.heap.size) (hp : p ≤ 1099511600000) :
    Calls Try.prog 56 #[.pointer (some ⟨v, 0, none⟩)] w fun e w' => e = .returned (.agg #[.int .i64 (vnF B (p + 5) 0), .int .i64 (vnF B (p + 5) 1), .int .i64 (vnF B (p + 5) 2), .int .i64 (vnF B (p + 5) 3), .int .i64 (vnF B (p + 5) 4), .int .i64 (vnF B (p + 5) 5), .int .i64 (vnF B (p + 5) 6), .int .i64 (vnF B (p + 5) 7)]) ∧ Vw w' v bb B (p + 5 + 8) ∧ Chg w w' (fun b => b = v) := by
  have hvl := h.lt
  have f0 := fresh_alloc w (.cells #[.int .i64 0, .int .i64 0, .int .i64 0, .int .i64 0, .int .i64 0, .int .i64 0, .int .i64 0, .int .i64 0] 23)
  have HR : Hid ((w.alloc (.cells #[.int .i64 0, .int .i64 0, .int .i64 0, .int .i64 0, .int .i64 0, .int .i64 0, .int .i64 0, .int .i64 0] 23)).rowIs w.heap.size 23 8 (fun _ => .int .i64 0)) := by
    refine ⟨_, Go.Deep.blk_alloc_new _ _, rfl, fun j hj => ?_⟩
    match j, hj with
    | 0, _ | 1, _ | 2, _ | 3, _ | 4, _ | 5, _ | 6, _ | 7, _ => rfl
  have HV0 := hidd (h.fresh f0)
  have HF0 := hidd f0
  have HBY := hidd h.byt
  have hs0 : (w.alloc (.cells #[.int .i64 0, .int .i64 0, .int .i64 0, .int .i64 0, .int .i64 0, .int .i64 0, .int .i64 0, .int .i64 0] 23)).heap.size = w.heap.size + 1 := by simp
  obtain ⟨q, hq⟩ : ∃ q, Hid (q = p + 5) := ⟨_, rfl⟩
  have wq : IntKind.i64.wrap ((p : Int) + 5) = (q : Int) := by rw [hq.out, show (p : Int) + 5 = ((p + 5 : Nat) : Int) by omega]; exact wrap_small _ (by omega) (by omega)
  have wq2 : (p : Int) + 5 = (q : Int) := by rw [hq.out]; omega
  have hqb : q ≤ 1099511600005 := by rw [hq.out]; omega
  rw [← hq.out]
  clear h f0
  go_enter Try.func56, Try.ntmps56
  go_upto_region 1 with fail
  generalize (w.alloc (.cells #[.int .i64 0, .int .i64 0, .int .i64 0, .int .i64 0, .int .i64 0, .int .i64 0, .int .i64 0, .int .i64 0] 23)) = w1 at *
  obtain ⟨bo, cb, hr, _, _⟩ := HV0.out.ex
  have c1 : w1.cell? ⟨v, 1, none⟩ = some (.int .i64 (p : Int)) := hr.cell (i := 1) (by decide)
  have fz := hr.frozen
  clear hr
  go_upto_region 2 with fail
  have HV1 := hidd (HV0.out.move q)
  have HC1 := hidd (Chg.of_set w1 v 1 (.int .i64 (q : Int)))
  have HR1 := hidd (HC1.out.row HR.out (by show ¬ (w.heap.size = v); omega))
  clear c1 fz HV0 HR wq wq2
  have hs1 := HC1.out.size
  generalize w1.setCell ⟨v, 1, none⟩ (.int .i64 (q : Int)) = w2 at *
  have h8 := vnarrow_any HV1.out (by omega) (n := 8) (by decide) (by omega)
  rw [show (((8 : Nat) : Int)) = 8 from rfl] at h8
  have HNR := hidd h8
  clear h8
  go_upto_region 3 with (go_at_call 60; refine HNR.out.mono ?_; rintro e w3 ⟨u, k, rfl, ho, hv, hc⟩)
  obtain ⟨u9, k9, e9, hr9⟩ := ho.rd
  cases e9
  obtain ⟨g, o, hu, hcl⟩ := hr9.one (by decide)
  subst hu
  have n2 := hr9.le
  have n3 := hr9.top
  unfold maxLen at n3
  have HR2 := hidd (hc.row HR1.out (by show ¬ (w.heap.size = v); omega))
  have HV2 := hidd hv
  have HC2 := hidd hc
  have hs2 := hc.size
  have bd := fun j => vnF_bd HBY.out q j
  obtain ⟨x0, h0⟩ : ∃ x, Hid (x = vnF B q 0) := ⟨_, rfl⟩
  have c0 : w3.cell? ⟨g, o, none⟩ = some (.int .i8 x0) := by rw [h0.out]; exact hcl 0 (by decide)
  have b0 := bd 0
  rw [← h0.out] at b0
  have y0 : IntKind.i64.wrap x0 = x0 := by rw [IntKind.wrap_i64]; omega
  obtain ⟨x1, h1⟩ : ∃ x, Hid (x = vnF B q 1) := ⟨_, rfl⟩
  have c1 : w3.cell? ⟨g, o + 1, none⟩ = some (.int .i8 x1) := by rw [h1.out]; exact hcl 1 (by decide)
  have b1 := bd 1
  rw [← h1.out] at b1
  have y1 : IntKind.i64.wrap x1 = x1 := by rw [IntKind.wrap_i64]; omega
  obtain ⟨x2, h2⟩ : ∃ x, Hid (x = vnF B q 2) := ⟨_, rfl⟩
  have c2 : w3.cell? ⟨g, o + 2, none⟩ = some (.int .i8 x2) := by rw [h2.out]; exact hcl 2 (by decide)
  have b2 := bd 2
  rw [← h2.out] at b2
  have y2 : IntKind.i64.wrap x2 = x2 := by rw [IntKind.wrap_i64]; omega
  obtain ⟨x3, h3⟩ : ∃ x, Hid (x = vnF B q 3) := ⟨_, rfl⟩
  have c3 : w3.cell? ⟨g, o + 3, none⟩ = some (.int .i8 x3) := by rw [h3.out]; exact hcl 3 (by decide)
  have b3 := bd 3
  rw [← h3.out] at b3
  have y3 : IntKind.i64.wrap x3 = x3 := by rw [IntKind.wrap_i64]; omega
  obtain ⟨x4, h4⟩ : ∃ x, Hid (x = vnF B q 4) := ⟨_, rfl⟩
  have c4 : w3.cell? ⟨g, o + 4, none⟩ = some (.int .i8 x4) := by rw [h4.out]; exact hcl 4 (by decide)
  have b4 := bd 4
  rw [← h4.out] at b4
  have y4 : IntKind.i64.wrap x4 = x4 := by rw [IntKind.wrap_i64]; omega
  obtain ⟨x5, h5⟩ : ∃ x, Hid (x = vnF B q 5) := ⟨_, rfl⟩
  have c5 : w3.cell? ⟨g, o + 5, none⟩ = some (.int .i8 x5) := by rw [h5.out]; exact hcl 5 (by decide)
  have b5 := bd 5
  rw [← h5.out] at b5
  have y5 : IntKind.i64.wrap x5 = x5 := by rw [IntKind.wrap_i64]; omega
  obtain ⟨x6, h6⟩ : ∃ x, Hid (x = vnF B q 6) := ⟨_, rfl⟩
  have c6 : w3.cell? ⟨g, o + 6, none⟩ = some (.int .i8 x6) := by rw [h6.out]; exact hcl 6 (by decide)
  have b6 := bd 6
  rw [← h6.out] at b6
  have y6 : IntKind.i64.wrap x6 = x6 := by rw [IntKind.wrap_i64]; omega
  obtain ⟨x7, h7⟩ : ∃ x, Hid (x = vnF B q 7) := ⟨_, rfl⟩
  have c7 : w3.cell? ⟨g, o + 7, none⟩ = some (.int .i8 x7) := by rw [h7.out]; exact hcl 7 (by decide)
  have b7 := bd 7
  rw [← h7.out] at b7
  have y7 : IntKind.i64.wrap x7 = x7 := by rw [IntKind.wrap_i64]; omega
  clear ho hv hc hcl hr9 HR1 HV1 HNR bd
  have l0 := later_cell c0
  have l1 := later_cell c1
  have l2 := later_cell c2
  have l3 := later_cell c3
  have l4 := later_cell c4
  have l5 := later_cell c5
  have l6 := later_cell c6
  have l7 := later_cell c7
  have ne := later_some w3
  refine wp_region_lastL (C := fun w' => ∃ x : Later w3, w' = x.val) (by simp) (by kernel_rfl) (by kernel_rfl) (by kernel_rfl) ⟨⟨w3.drew, (Below.refl _ _).drew⟩, rfl⟩ ?_
  simp only [List.dropLast_cons_cons, List.dropLast_singleton, List.getLast_cons_cons, List.getLast_singleton]
  repeat (go_big_quiet_step (fail))
  refine wpQuiet_nil ?_
  rintro _ ⟨y, rfl⟩
  have HR3 := hidd (HR2.out.of_block (y.fresh.block _ HR2.out.lt))
  have HV3 := hidd (HV2.out.fresh y.fresh)
  have HC3 := hidd (HC2.out.post y.fresh)
  clear l0 c0 y0 l1 c1 y1 l2 c2 y2 l3 c3 y3 l4 c4 y4 l5 c5 y5 l6 c6 y6 l7 c7 y7 ne HR2 HV2 HC2
  generalize y.val = z1 at *
  have r0 : z1.cell? ⟨w.heap.size, 0, none⟩ = some (.int .i64 0) := HR3.out.cell (i := 0) (by decide)
  have r1 : z1.cell? ⟨w.heap.size, 1, none⟩ = some (.int .i64 0) := HR3.out.cell (i := 1) (by decide)
  have r2 : z1.cell? ⟨w.heap.size, 2, none⟩ = some (.int .i64 0) := HR3.out.cell (i := 2) (by decide)
  have r3 : z1.cell? ⟨w.heap.size, 3, none⟩ = some (.int .i64 0) := HR3.out.cell (i := 3) (by decide)
  have r4 : z1.cell? ⟨w.heap.size, 4, none⟩ = some (.int .i64 0) := HR3.out.cell (i := 4) (by decide)
  have r5 : z1.cell? ⟨w.heap.size, 5, none⟩ = some (.int .i64 0) := HR3.out.cell (i := 5) (by decide)
  have r6 : z1.cell? ⟨w.heap.size, 6, none⟩ = some (.int .i64 0) := HR3.out.cell (i := 6) (by decide)
  have r7 : z1.cell? ⟨w.heap.size, 7, none⟩ = some (.int .i64 0) := HR3.out.cell (i := 7) (by decide)
  have fz := HR3.out.frozen
  have HQ := hidd (((((((((HR3.out.set 0 (.int .i64 x0)).set 1 (.int .i64 x1)).set 2 (.int .i64 x2)).set 3 (.int .i64 x3)).set 4 (.int .i64 x4)).set 5 (.int .i64 x5)).set 6 (.int .i64 x6)).set 7 (.int .i64 x7)))
  have HCC : Hid (Chg z1 ((((((((z1.setCell ⟨w.heap.size, 0, none⟩ (.int .i64 x0)).setCell ⟨w.heap.size, 1, none⟩ (.int .i64 x1)).setCell ⟨w.heap.size, 2, none⟩ (.int .i64 x2)).setCell ⟨w.heap.size, 3, none⟩ (.int .i64 x3)).setCell ⟨w.heap.size, 4, none⟩ (.int .i64 x4)).setCell ⟨w.heap.size, 5, none⟩ (.int .i64 x5)).setCell ⟨w.heap.size, 6, none⟩ (.int .i64 x6)).setCell ⟨w.heap.size, 7, none⟩ (.int .i64 x7)) (fun b => b = w.heap.size)) := (((((((Chg.of_set z1 _ 0 _).trans (Chg.of_set _ _ 1 _) (fun _ _ e => e)).trans (Chg.of_set _ _ 2 _) (fun _ _ e => e)).trans (Chg.of_set _ _ 3 _) (fun _ _ e => e)).trans (Chg.of_set _ _ 4 _) (fun _ _ e => e)).trans (Chg.of_set _ _ 5 _) (fun _ _ e => e)).trans (Chg.of_set _ _ 6 _) (fun _ _ e => e)).trans (Chg.of_set _ _ 7 _) (fun _ _ e => e)
  go_wp2
  refine bodyPost_ret (v := .agg #[.int .i64 x0, .int .i64 x1, .int .i64 x2, .int .i64 x3, .int .i64 x4, .int .i64 x5, .int .i64 x6, .int .i64 x7]) ?_ ?_ ?_
  · refine results_cell_mid Try.results56 _ _ w.heap.size [.int .i64 x0, .int .i64 x1, .int .i64 x2, .int .i64 x3, .int .i64 x4, .int .i64 x5, .int .i64 x6, .int .i64 x7] _ rfl ?_ Try.underlying23 rfl (by kernel_rfl)
    intro j x hx
    match j, hx with
    | 0, hx => rw [← Option.some.inj hx]; exact HQ.out.cell (i := 0) (by decide)
    | 1, hx => rw [← Option.some.inj hx]; exact HQ.out.cell (i := 1) (by decide)
    | 2, hx => rw [← Option.some.inj hx]; exact HQ.out.cell (i := 2) (by decide)
    | 3, hx => rw [← Option.some.inj hx]; exact HQ.out.cell (i := 3) (by decide)
    | 4, hx => rw [← Option.some.inj hx]; exact HQ.out.cell (i := 4) (by decide)
    | 5, hx => rw [← Option.some.inj hx]; exact HQ.out.cell (i := 5) (by decide)
    | 6, hx => rw [← Option.some.inj hx]; exact HQ.out.cell (i := 6) (by decide)
    | 7, hx => rw [← Option.some.inj hx]; exact HQ.out.cell (i := 7) (by decide)
    | j + 8, hx => cases hx
  · rfl
  · refine ⟨by rw [h0.out, h1.out, h2.out, h3.out, h4.out, h5.out, h6.out, h7.out], HV3.out.chg HCC.out (by omega) (by omega), ?_⟩
    exact (((Chg.pre HF0.out HC1.out).trans HC3.out (fun _ _ e => e))).trans HCC.out (fun b hb e => by omega)
end Go.Proofs.Ytilghknalbhacaa
namespace Go.Proofs.Ytilghknalbhacaa
open Go.RowKit
/-! Number of two bytes; the view's small. -/
set_option maxRecDepth 20000 in
set_option maxHeartbeats 1600000 in
theorem num2_any {w : World} {bo : Option Addr} {cb p : Nat} {B : List Int} (h : RdA w bo 1 B.length cb (bV B)) (hB : Byt B) (hp : p ≤ 1099511627776) :
    Calls Try.prog 90 #[.slice bo B.length cb, .int .i64 p, .int .i64 2] w fun e w' => e = .returned (.int .u64 (B.getD (p + 1) 0 * 256 + B.getD p 0)) ∧ w' = w := by
  have n1 := h.le
  have n2 := h.top
  unfold maxLen at n2
  have HR := hidd h
  have k0 := hB.at_ p
  have k1 := hB.at_ (p + 1)
  obtain ⟨x0, h0⟩ : ∃ x, Hid (x = B.getD p 0) := ⟨_, rfl⟩
  obtain ⟨x1, h1⟩ : ∃ x, Hid (x = B.getD (p + 1) 0) := ⟨_, rfl⟩
  rw [← h0.out] at k0 ⊢
  rw [← h1.out] at k1 ⊢
  obtain ⟨l, hl⟩ : ∃ l, Hid (l = B.length) := ⟨_, rfl⟩
  have HZ : Hid (∀ q, l ≤ q → B.getD q 0 = 0) := fun q hq => by
    rw [List.getD_eq_getElem?_getD, List.getElem?_eq_none (by rw [← hl.out]; exact hq)]
    rfl
  rw [← hl.out] at n1
  rw [← hl.out]
  have u0 : IntKind.u64.wrap (x1 * 256) = x1 * 256 := by rw [IntKind.wrap_u64]; omega
  have u1 : IntKind.u64.wrap (x1 * 256 + x0) = x1 * 256 + x0 := by rw [IntKind.wrap_u64]; omega
  have u2 : IntKind.u64.wrap x0 = x0 := by rw [IntKind.wrap_u64]; omega
  have u3 : IntKind.u64.wrap x1 = x1 := by rw [IntKind.wrap_u64]; omega
  have u4 : IntKind.i64.wrap ((p : Int) + 1) = (p : Int) + 1 := by rw [IntKind.wrap_i64]; omega
  have u5 : IntKind.i64.wrap (p : Int) = (p : Int) := by rw [IntKind.wrap_i64]; omega
  clear h
  go_enter Try.func90, Try.ntmps90
  go_wp2
  go_loopw [7, 8] (fun xv iv wr => wr = w ∧ ((iv = .int .i64 1 ∧ xv = .int .u64 0) ∨ (iv = .int .i64 0 ∧ xv = .int .u64 x1) ∨ (iv = .int .i64 (-1) ∧ xv = .int .u64 (x1 * 256 + x0)))) (fun _ iv _ => (intOf iv + 1).toNat)
  case atStart => exact ⟨rfl, .inl ⟨rfl, rfl⟩⟩
  case round =>
    obtain ⟨hw, hrel⟩ := hrel
    rw [hw]
    rcases hrel with ⟨rfl, rfl⟩ | ⟨rfl, rfl⟩ | ⟨rfl, rfl⟩
    · by_cases hin : p + 1 < l
      · have j1 : (p : Int) + 1 < (l : Int) := by omega
        obtain ⟨b, o, rfl, hcc⟩ := HR.out.one (by rw [← hl.out]; omega)
        have cx : w.cell? ⟨b, o + (p + 1), none⟩ = some (.int .u8 x1) := by rw [h1.out]; exact hcc (p + 1) (by rw [← hl.out]; omega)
        have cx2 : w.cell? ⟨b, o + ((p : Int) + 1).toNat, none⟩ = some (.int .u8 x1) := by rw [show ((p : Int) + 1).toNat = p + 1 by omega]; exact cx
        go_wp2
        go_roundw
        case rel => exact ⟨trivial, .inr (.inl ⟨rfl, rfl⟩)⟩
        case measure => simp [intOf]
      · have j1 : ¬ (p : Int) + 1 < (l : Int) := by omega
        have e1 : x1 = 0 := by rw [h1.out]; exact HZ.out _ (by omega)
        subst e1
        go_wp2
        go_roundw
        case rel => exact ⟨trivial, .inr (.inl ⟨rfl, rfl⟩)⟩
        case measure => simp [intOf]
    · by_cases hin : p < l
      · have j1 : (p : Int) < (l : Int) := by omega
        obtain ⟨b, o, rfl, hcc⟩ := HR.out.one (by rw [← hl.out]; omega)
        have cx : w.cell? ⟨b, o + p, none⟩ = some (.int .u8 x0) := by rw [h0.out]; exact hcc p (by rw [← hl.out]; omega)
        go_wp2
        go_roundw
        case rel => exact ⟨trivial, .inr (.inr ⟨rfl, rfl⟩)⟩
        case measure => simp [intOf]
      · have j1 : ¬ (p : Int) < (l : Int) := by omega
        have e1 : x0 = 0 := by rw [h0.out]; exact HZ.out _ (by omega)
        have hx : x1 * 256 + x0 = x1 * 256 := by omega
        rw [hx]
        go_wp2
        go_roundw
        case rel => exact ⟨trivial, .inr (.inr ⟨rfl, rfl⟩)⟩
        case measure => simp [intOf]
    · go_wp2
      go_ret
      exact ⟨rfl, rfl⟩
end Go.Proofs.Ytilghknalbhacaa
namespace Go.Proofs.Ytilghknalbhacaa
open Go.RowKit
/-! The view's small. -/
set_option maxRecDepth 20000 in
set_option maxHeartbeats 1600000 in
theorem vsmall_any {w : World} {v bb : Nat} {B : List Int} {p : Nat} (h : Vw w v bb B p) (hp : p ≤ 1099511627776) :
    Calls Try.prog 58 #[.pointer (some ⟨v, 0, none⟩)] w fun e w' => e = .returned (.int .i64 (i16v (B.getD p 0 + 256 * B.getD (p + 1) 0))) ∧ Vw w' v bb B (p + 2) ∧ Chg w w' (fun b => b = v) := by
  obtain ⟨bo, cb, hr, hb, hne⟩ := h.ex
  have HV := hidd h
  have k0 := h.byt.at_ p
  have k1 := h.byt.at_ (p + 1)
  have HN : Hid (∀ z : World, Below w.heap.size w z → Calls Try.prog 90 #[.slice bo B.length cb, .int .i64 p, .int .i64 2] z fun e w' => e = .returned (.int .u64 (B.getD (p + 1) 0 * 256 + B.getD p 0)) ∧ Below z.heap.size z w') := fun z hz => (num2_any (hb.fresh hz) h.byt hp).mono (fun e w' q => ⟨q.1, by rw [q.2]; exact Below.refl _ _⟩)
  have c0 : w.cell? ⟨v, 0, none⟩ = some (.slice bo B.length cb) := hr.cell (i := 0) (by decide)
  have c1 : w.cell? ⟨v, 1, none⟩ = some (.int .i64 (p : Int)) := hr.cell (i := 1) (by decide)
  obtain ⟨x, hx⟩ : ∃ x, Hid (x = B.getD (p + 1) 0 * 256 + B.getD p 0) := ⟨_, rfl⟩
  rw [← hx.out] at HN
  have hxb : 0 ≤ x ∧ x < 65536 := by rw [hx.out]; omega
  have HX : Hid (B.getD p 0 + 256 * B.getD (p + 1) 0 = x) := by
    show _ = _
    rw [hx.out]
    omega
  rw [HX.out]
  have hwi : IntKind.i16.wrap x = i16v x := by
    have e1 : IntKind.i16.wrap x = (if x % 65536 ≥ 32768 then x % 65536 - 65536 else x % 65536) := by
      simp [IntKind.wrap, IntKind.bits, IntKind.signed]
    rw [e1]
    unfold i16v
    split <;> split <;> omega
  have hw6 : wrap64 (i16v x) = i16v x := by
    have hbd : -32768 ≤ i16v x ∧ i16v x ≤ 32767 := by
      unfold i16v
      split <;> omega
    unfold wrap64
    omega
  obtain ⟨q, hq⟩ : ∃ q, Hid (q = p + 2) := ⟨_, rfl⟩
  have wq : IntKind.i64.wrap ((p : Int) + 2) = (q : Int) := by rw [hq.out, show (p : Int) + 2 = ((p + 2 : Nat) : Int) by omega]; exact wrap_small _ (by omega) (by omega)
  have wq2 : (p : Int) + 2 = (q : Int) := by rw [hq.out]; omega
  rw [← hq.out]
  clear h hr hb hne k0 k1
  go_enter Try.func58, Try.ntmps58
  go_upto_region 1 with fail
  have l0 := later_cell c0
  have l1 := later_cell c1
  have ne := later_some w
  refine wp_region_later (by kernel_rfl) (by kernel_rfl) ?_
  repeat (go_big_quiet_step (fail))
  go_big_quiet_step (exact later_of (HN.out _ (Later.fresh _)))
  repeat (go_big_quiet_step (fail))
  refine wpQuiet_nil ?_
  rintro _ ⟨z, rfl⟩
  have HV1 := hidd (HV.out.fresh z.fresh)
  have HF := hidd z.fresh
  clear l0 l1 ne c0 c1 HN HV
  generalize z.val = w1 at *
  obtain ⟨bo1, cb1, hr1, _, _⟩ := HV1.out.ex
  have c1 : w1.cell? ⟨v, 1, none⟩ = some (.int .i64 (p : Int)) := hr1.cell (i := 1) (by decide)
  have fz := hr1.frozen
  have HV2 := hidd (HV1.out.move q)
  have HC2 := hidd (Chg.pre HF.out (Chg.of_set w1 v 1 (.int .i64 (q : Int))))
  clear hr1
  go_wp2
  go_ret
  refine ⟨?_, HV2.out, HC2.out⟩
  show Ending.returned (.int .i64 (wrap64 _)) = _
  rw [hw6]
end Go.Proofs.Ytilghknalbhacaa
