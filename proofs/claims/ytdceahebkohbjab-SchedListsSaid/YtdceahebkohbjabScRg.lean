import Derived.Test.YtdceahebkohbjabScRf
namespace Go.Proofs.Ytdceahebkohbjab
open Go.RowKit
/-! The reference's plan: serve, where nothing is to be filled. -/
theorem MdR.room {c : Me} {S : Nat → Se} {n : Nat} {gv : Int} {s : Se} {x : Int} {Q0 : List Int} {R : Option (List Int)} (h : MdR c S n gv s x Q0 R) : ∀ Q, R = some Q → bey c s x ≤ freR c S n (hasL Q) gv := by
  induction h with
  | ok h => intro Q e; cases e; exact h
  | no _ _ => intro Q e; cases e
  | go _ _ _ _ ih => exact ih
/-- the most nodes for which there is room -/
def Most (c : Me) (S : Nat → Se) (n : Nat) (gv : Int) (s : Se) (Q : List Int) (a0 am : Int) : Prop := 1 ≤ am ∧ am ≤ a0 ∧ bey c s am ≤ freR c S n (hasL Q) gv ∧ ∀ b, am < b → b ≤ a0 → ¬ bey c s b ≤ freR c S n (hasL Q) gv
def SvQ (w : World) (g : Nat) (c : Me) (so : Option Addr) (n sc : Nat) (S : Nat → Se) (v : Value) (Q0 : List Int) (gv lf : Int) (s : Se) (a0 : Int) (e : Ending) (w' : World) : Prop :=
  Chg w w' (fun x => x = g) ∧ ∃ R, MdR c S n gv s 1 Q0 R ∧ ((R = none ∧ WkA w' g c so n sc v gv lf ∧ e = .returned (.tuple #[.agg #[.int .i64 0, .int .i64 0, .int .i64 0], .bool false])) ∨ ∃ (Q : List Int) (a : Option Addr) (k : Nat) (am : Int), R = some Q ∧ Q.length ≤ Q0.length + n ∧ Most c S n gv s Q a0 am ∧ WkA w' g c so n sc (.slice a Q.length k) (gv + bey c s am) (lf - am) ∧ Own w' w.heap.size 3 1 (.slice a Q.length k) Q.length (fun i => .int .i64 (lI Q i)) ∧ e = .returned (.tuple #[.agg #[.int .i64 s.id, .int .i64 0, .int .i64 am], .bool true]))
theorem bey_small {c : Me} {s : Se} {am : Int} (h1 : 1 ≤ c.bl) (h2 : c.bl ≤ 16) (h3 : 0 ≤ s.ca) (h4 : s.ca ≤ 64) (h5 : 0 ≤ am) (h6 : am ≤ 64) : 0 ≤ bey c s am ∧ bey c s am ≤ 1000 := by
  unfold bey need
  have e1 : 0 ≤ (s.ca + am + c.bl - 1) / c.bl := Int.ediv_nonneg (by omega) (by omega)
  have e2 : (s.ca + am + c.bl - 1) / c.bl ≤ s.ca + am + c.bl - 1 := Int.ediv_le_self _ (by omega)
  omega
set_option maxRecDepth 20000 in
set_option maxHeartbeats 8000000 in
theorem serveB {w : World} {g : Nat} {c : Me} {so : Option Addr} {n sc : Nat} {oo : Option Addr} {oc : Nat} {Q0 : List Int} {gv lf : Int} {S : Nat → Se} (hw : WkA w g c so n sc (.slice oo Q0.length oc) gv lf) (hS : ∀ z, Chg w z (fun x => x = g) → SeA z so n sc S) (hn : n ≤ 16) (hc : okM c 1) (hg : 0 ≤ gv) (hg2 : gv ≤ 90000) (hl : 0 < lf) (hl2 : lf ≤ 1024) (hQ : RdA w oo 1 Q0.length oc (fun i => .int .i64 (lI Q0 i))) (hQn : Q0.length ≤ 1000) (s : Se) (hs : okS c s) (h7 : s.hn ≤ 256) (hr : ¬ 0 < rst s) {a0 : Int} (ham : a0 = min (min (max s.wa 1) c.tr) lf) :
    Calls Try.prog 31 #[.pointer (some ⟨g, 0, none⟩), seV s] w (SvQ w g c so n sc S (.slice oo Q0.length oc) Q0 gv lf s a0) := by
  have hgl : g < w.heap.size := World.rowIs.lt hw
  obtain ⟨_, _, c1, c2, c3, c4, _, c5, c6, c7, c8, c9⟩ := hc
  obtain ⟨s1, s2, s3, s4, _⟩ := hs
  unfold rst at hr
  have a1 : 1 ≤ a0 := by omega
  have a2 : a0 ≤ 32 := by omega
  have HMD := hidd (fun (z : World) (hz : Chg w z (fun x => x = g)) (hk : WkA z g c so n sc (.slice oo Q0.length oc) gv lf) (hq : RdA z oo 1 Q0.length oc (fun i => .int .i64 (lI Q0 i))) => rmade_any hk (hS z hz) hn c1 c2 (by omega) (by omega) hq hQn c3 c4 s (x := 1) (by omega) (by omega) (by omega) (by omega) h7)
  have HRM := hidd (fun (z : World) (hz : Chg w z (fun x => x = g)) (v : Value) (hk : WkA z g c so n sc v gv lf) (Q : List Int) (a : Option Addr) (k : Nat) (hq : RdA z a 1 Q.length k (fun i => .int .i64 (lI Q i))) (am : Int) (k1 : 1 ≤ am) (k2 : am ≤ 32) => rroom_any hk (hS z hz) hn c1 c2 (by omega) (by omega) hq c3 c4 s (x := am) (by omega) (by omega) (by omega) (by omega) h7)
  have HBY := hidd (fun (z : World) (v : Value) (hk : WkA z g c so n sc v gv lf) (am : Int) (k1 : 1 ≤ am) (k2 : am ≤ 32) => rbeyond_any hk c3 c4 s (x := am) (by omega) (by omega) (by omega) (by omega) h7)
  have HBS := hidd (fun (am : Int) (k1 : 1 ≤ am) (k2 : am ≤ 32) => bey_small (am := am) c3 c4 s3 (by omega) (by omega) (by omega))
  have HI0 : Hid (SvI w g c so n sc (.slice oo Q0.length oc) gv lf s ((w.alloc (.cells #[.int .i64 s.id, .int .i64 s.kn, .int .i64 s.ca, .int .i64 s.wa, .slice s.ho s.hn s.hc] 32)).alloc (.cells #[.int .i64 0, .int .i64 0, .int .i64 0] 45))) := by
    have f1 := fresh_alloc w (.cells #[.int .i64 s.id, .int .i64 s.kn, .int .i64 s.ca, .int .i64 s.wa, .slice s.ho s.hn s.hc] 32)
    have r1 := sbC_new w s
    have e1 : (w.alloc (.cells #[.int .i64 s.id, .int .i64 s.kn, .int .i64 s.ca, .int .i64 s.wa, .slice s.ho s.hn s.hc] 32)).heap.size = w.heap.size + 1 := by simp
    generalize w.alloc (.cells #[.int .i64 s.id, .int .i64 s.kn, .int .i64 s.ca, .int .i64 s.wa, .slice s.ho s.hn s.hc] 32) = w1 at *
    have f2 := fresh_alloc w1 (.cells #[.int .i64 0, .int .i64 0, .int .i64 0] 45)
    have r2 := tri_new w1 0 0 0
    rw [e1] at r2
    have f3 := f1.trans (f2.mono f1.size)
    exact ⟨Chg.of_below _ f3, hw.fresh f3, r1.of_block (f2.block _ r1.lt), r2, by simp; omega⟩
  have HQ2 : Hid (RdA ((w.alloc (.cells #[.int .i64 s.id, .int .i64 s.kn, .int .i64 s.ca, .int .i64 s.wa, .slice s.ho s.hn s.hc] 32)).alloc (.cells #[.int .i64 0, .int .i64 0, .int .i64 0] 45)) oo 1 Q0.length oc (fun i => .int .i64 (lI Q0 i))) := (hQ.fresh (fresh_alloc _ _)).fresh (fresh_alloc _ _)
  clear hw hS hQ
  have HSE : Hid (seV s = .agg #[.int .i64 s.id, .int .i64 s.kn, .int .i64 s.ca, .int .i64 s.wa, .slice s.ho s.hn s.hc]) := rfl
  rw [HSE.out] at HMD HBY HRM ⊢
  obtain ⟨PP, HPP⟩ : ∃ P, Hid (P = SvQ w g c so n sc S (.slice oo Q0.length oc) Q0 gv lf s a0) := ⟨_, rfl⟩
  have HP : Hid (∀ e w', SvQ w g c so n sc S (.slice oo Q0.length oc) Q0 gv lf s a0 e w' → PP e w') := fun e w' h => by rw [HPP.out]; exact h
  rw [← HPP.out]
  clear HPP
  go_enter Try.func31, Try.ntmps31
  go_upto_region 1 with fail
  generalize (w.alloc (.cells #[.int .i64 s.id, .int .i64 s.kn, .int .i64 s.ca, .int .i64 s.wa, .slice s.ho s.hn s.hc] 32)).alloc (.cells #[.int .i64 0, .int .i64 0, .int .i64 0] 45) = w2 at *
  obtain ⟨⟨t0, t1, t2, t3, t4⟩, g3, g4, g6, g7, g8⟩ := HI0.out.cells
  have HA := hidd ham
  clear ham
  by_cases hwa : s.wa < 1
  · have HAM : Hid (a0 = min (min 1 c.tr) lf) := by rw [show max s.wa 1 = 1 by omega] at HA; exact HA
    clear HA
    go_upto_region 14 with fail
    have l4 := later_cell g4
    have l8 := later_cell g8
    have ne := later_some w2
    have HLS := hidd (fun z : Later w2 => rleast_any z.val 1 c.tr lf)
    rw [← HAM.out] at HLS
    refine wp_region_later (by kernel_rfl) (by kernel_rfl) ?_
    repeat (go_big_quiet_step (fail))
    go_big_quiet_step (exact later_same (HLS.out _))
    repeat (go_big_quiet_step (fail))
    refine wpQuiet_nil ?_
    rintro _ ⟨z, rfl⟩
    have HI3 := hidd (HI0.out.fresh z.fresh)
    have HQ3 := hidd (HQ2.out.fresh z.fresh)
    clear l4 l8 ne HLS t0 t1 t2 t3 t4 g3 g4 g6 g7 g8 HAM
    generalize z.val = w3 at *
    obtain ⟨⟨t0, t1, t2, t3, t4⟩, _, _, _, _, _⟩ := HI3.out.cells
    have HM3 := hidd (made_form (HMD.out w3 HI3.out.chg HI3.out.wk HQ3.out))
    clear HI0 HQ2 HQ3 HMD
    go_upto_region 16 with (go_at_call 46; with_reducible refine HM3.out.mono ?_; rintro e w4 ⟨a, m, k, b, rfl, HMP⟩)
    have HI4 := hidd (HI3.out.fresh HMP.out.1)
    have HSZ := hidd HI3.out.top
    clear t0 t1 t2 t3 t4 HI3 HM3
    rcases HMP.out.2 with ⟨rfl, hR⟩ | ⟨rfl, Q, rfl, hR, hlen, how⟩
    · have HR := hidd hR
      obtain ⟨r0, r1, r2⟩ := (⟨HI4.out.res.cell (i := 0) (by decide), HI4.out.res.cell (i := 1) (by decide), HI4.out.res.cell (i := 2) (by decide)⟩ : _ ∧ _ ∧ _)
      have fr := HI4.out.res.frozen
      clear hR HMP
      go_wp2
      (try simp only [Exit.inBlock, Exit.then]); refine bodyPost_ret (ret_slice rfl _ _ (w.heap.size + 1) _ _ _ _ rfl (tri_set3 HI4.out.res _ _ _) rfl) rfl ?_
      obtain ⟨d1, d2⟩ := HI4.out.out hgl (.int .i64 0) (.int .i64 0) (.int .i64 0)
      exact HP.out _ _ ⟨d1, none, HR.out, .inl ⟨rfl, d2, rfl⟩⟩
    · have HR := hidd hR
      have HOW := hidd how
      have g6 := HI4.out.cells.2.2.2.1
      have fr := World.rowIs.frozen HI4.out.wk
      clear hR HMP how
      go_wp2
      have HI5 := hidd (HI4.out.set hgl (HI4.out.wk.setO (.slice a Q.length k)))
      have HO5 := hidd (HOW.out.chg (Chg.of_set w4 g 6 (.slice a Q.length k)) (fun x hx e => HOW.out.apart HI4.out.wk (by decide) (by rw [hx, e])))
      clear g6 fr HI4 HOW
      generalize w4.setCell ⟨g, 6, none⟩ (.slice a Q.length k) = w5 at *
      have HR1 := hidd (HR.out.room Q rfl)
      go_loopw [11] (fun v wr => ∃ am : Int, v = .int .i64 am ∧ 1 ≤ am ∧ am ≤ a0 ∧ Hid (∀ b, am < b → b ≤ a0 → ¬ bey c s b ≤ freR c S n (hasL Q) gv) ∧ Hid (SvI w g c so n sc (.slice a Q.length k) gv lf s wr) ∧ Hid (Own wr w3.heap.size 3 1 (.slice a Q.length k) Q.length (fun i => .int .i64 (lI Q i)))) (fun v _ => (intOf v).toNat)
      case atStart => exact ⟨a0, rfl, a1, by omega, fun b h1 h2 => absurd h1 (by omega), HI5, HO5⟩
      case round =>
        clear HI5 HO5
        obtain ⟨am, rfl, m1, m2, HNB, HI5, HO5⟩ := hrel
        obtain ⟨⟨t0, t1, t2, t3, t4⟩, _, _, _, _, _⟩ := HI5.out.cells
        have HRR := hidd (HRM.out wr HI5.out.chg _ HI5.out.wk Q a k (own_rda HO5.out) am m1 (by omega))
        by_cases hrm : bey c s am ≤ freR c S n (hasL Q) gv
        · have hd : decide (bey c s am ≤ freR c S n (hasI (lI Q) Q.length) gv) = true := decide_eq_true hrm
          rw [hd] at HRR
          have HMO : Hid (Most c S n gv s Q a0 am) := ⟨m1, m2, hrm, HNB.out⟩
          clear hd hrm HNB
          go_upto_region 21 with (go_at_call 48; with_reducible refine HRR.out.mono ?_; rintro e w6 ⟨rfl, hb6⟩; have HB6 := hidd hb6; clear hb6)
          have HI6 := hidd (HI5.out.fresh HB6.out)
          have HO6 := hidd (HO5.out.kept HB6.out)
          clear t0 t1 t2 t3 t4 HI5 HO5 HB6 HRR
          obtain ⟨⟨t0, t1, t2, t3, t4⟩, _, _, _, g7, _⟩ := HI6.out.cells
          have l0 := later_cell t0
          have l1 := later_cell t1
          have l2 := later_cell t2
          have l3 := later_cell t3
          have l4 := later_cell t4
          have l7 := later_cell g7
          have ne := later_some w6
          have HB5 := hidd (fun z : Later w6 => HBY.out z.val _ (HI6.out.wk.fresh z.fresh) am m1 (by omega))
          have hby := HBS.out am m1 (by omega)
          obtain ⟨gn, HGN⟩ : ∃ x, Hid (x = gv + bey c s am) := ⟨_, rfl⟩
          have wr3 : IntKind.i64.wrap (gv + bey c s am) = gn := by rw [IntKind.wrap_i64, HGN.out]; omega
          have HP2 : Hid (∀ e w', (Chg w w' (fun x => x = g) ∧ WkA w' g c so n sc (.slice a Q.length k) gn (lf - am) ∧ Own w' w.heap.size 3 1 (.slice a Q.length k) Q.length (fun i => .int .i64 (lI Q i)) ∧ e = .returned (.tuple #[.agg #[.int .i64 s.id, .int .i64 0, .int .i64 am], .bool true])) → PP e w') := fun e w' ⟨h1, h2, h3, h4⟩ => HP.out e w' ⟨h1, some Q, HR.out, .inr ⟨Q, a, k, am, rfl, hlen, HMO.out, by rw [← HGN.out]; exact h2, h3, h4⟩⟩
          generalize bey c s am = by0 at *
          clear HP HR HMO HGN HRM HBY HBS HR1
          refine wp_region_lastL (C := fun w' => ∃ x : Later w6, w' = x.val) (by simp) (by kernel_rfl) (by kernel_rfl) (by kernel_rfl) ⟨⟨w6.drew, (Below.refl _ _).drew⟩, rfl⟩ ?_
          simp only [List.dropLast_cons_cons, List.dropLast_singleton, List.getLast_cons_cons, List.getLast_singleton]
          repeat (go_big_quiet_step (fail))
          go_big_quiet_step (exact later_of (HB5.out _))
          repeat (go_big_quiet_step (fail))
          refine wpQuiet_nil ?_
          rintro _ ⟨z, rfl⟩
          have HI7 := hidd (HI6.out.fresh z.fresh)
          have HO7 := hidd (HO6.out.kept z.fresh)
          clear l0 l1 l2 l3 l4 l7 ne HB5 t0 t1 t2 t3 t4 g7 HI6 HO6
          generalize z.val = w7 at *
          have g7 := HI7.out.cells.2.2.2.2.1
          have fr := World.rowIs.frozen HI7.out.wk
          go_upto_region 22 with fail
          have HI8 := hidd (HI7.out.set hgl (HI7.out.wk.setG gn))
          have HO8 := hidd (HO7.out.chg (Chg.of_set w7 g 7 (.int .i64 gn)) (fun x hx e => HO7.out.apart HI7.out.wk (by decide) (by rw [hx, e])))
          clear g7 fr HI7 HO7 wr3
          generalize w7.setCell ⟨g, 7, none⟩ (.int .i64 gn) = w8 at *
          have g8 := HI8.out.cells.2.2.2.2.2
          have fr := World.rowIs.frozen HI8.out.wk
          go_upto_region 23 with fail
          have HI9 := hidd (HI8.out.set hgl (HI8.out.wk.setL (lf - am)))
          have HO9 := hidd (HO8.out.chg (Chg.of_set w8 g 8 (.int .i64 (lf - am))) (fun x hx e => HO8.out.apart HI8.out.wk (by decide) (by rw [hx, e])))
          clear g8 fr HI8 HO8
          generalize w8.setCell ⟨g, 8, none⟩ (.int .i64 (lf - am)) = w9 at *
          obtain ⟨r0, r1, r2⟩ := (⟨HI9.out.res.cell (i := 0) (by decide), HI9.out.res.cell (i := 1) (by decide), HI9.out.res.cell (i := 2) (by decide)⟩ : _ ∧ _ ∧ _)
          have t0 := HI9.out.cells.1.1
          have fr := HI9.out.res.frozen
          go_wp2
          (try simp only [Exit.inBlock, Exit.then]); refine bodyPost_ret (ret_slice rfl _ _ (w.heap.size + 1) _ _ _ _ rfl (tri_set3 HI9.out.res _ _ _) rfl) rfl ?_
          obtain ⟨d1, d2⟩ := HI9.out.out hgl (.int .i64 s.id) (.int .i64 0) (.int .i64 am)
          refine HP2.out _ _ ⟨d1, d2, ?_, rfl⟩
          exact (HO9.out.chg (set3_chg w9 (w.heap.size + 1) _ _ _) (fun x hx e => by have := (HO9.out.lt x hx).1; have := HSZ.out; omega)).weaken (by have := HSZ.out; omega)
        · have hd : decide (bey c s am ≤ freR c S n (hasI (lI Q) Q.length) gv) = false := decide_eq_false hrm
          rw [hd] at HRR
          have m3 : am ≠ 1 := fun e => hrm (by rw [e]; exact HR1.out)
          have HN2 : Hid (∀ b, am - 1 < b → b ≤ a0 → ¬ bey c s b ≤ freR c S n (hasL Q) gv) := fun b h1 h2 => by
            by_cases e : b = am
            · rw [e]; exact hrm
            · exact HNB.out b (by omega) h2
          have m4 : 1 ≤ am - 1 := by omega
          clear hd hrm
          go_wp2_with (go_at_call 48; with_reducible refine HRR.out.mono ?_; rintro e w6 ⟨rfl, hb6⟩; have HB6 := hidd hb6; clear hb6)
          have HI6 := hidd (HI5.out.fresh HB6.out)
          have HO6 := hidd (HO5.out.kept HB6.out)
          go_roundw
          case rel => exact ⟨am - 1, by go_num, m4, by omega, fun b h1 h2 => Int.not_le.2 (HN2.out b h1 h2), HI6, HO6⟩
          case measure => simp [intOf]; omega
  · have HAM : Hid (a0 = min (min s.wa c.tr) lf) := by rw [show max s.wa 1 = s.wa by omega] at HA; exact HA
    clear HA
    go_upto_region 14 with fail
    have l4 := later_cell g4
    have l8 := later_cell g8
    have ne := later_some w2
    have HLS := hidd (fun z : Later w2 => rleast_any z.val s.wa c.tr lf)
    rw [← HAM.out] at HLS
    refine wp_region_later (by kernel_rfl) (by kernel_rfl) ?_
    repeat (go_big_quiet_step (fail))
    go_big_quiet_step (exact later_same (HLS.out _))
    repeat (go_big_quiet_step (fail))
    refine wpQuiet_nil ?_
    rintro _ ⟨z, rfl⟩
    have HI3 := hidd (HI0.out.fresh z.fresh)
    have HQ3 := hidd (HQ2.out.fresh z.fresh)
    clear l4 l8 ne HLS t0 t1 t2 t3 t4 g3 g4 g6 g7 g8 HAM
    generalize z.val = w3 at *
    obtain ⟨⟨t0, t1, t2, t3, t4⟩, _, _, _, _, _⟩ := HI3.out.cells
    have HM3 := hidd (made_form (HMD.out w3 HI3.out.chg HI3.out.wk HQ3.out))
    clear HI0 HQ2 HQ3 HMD
    go_upto_region 16 with (go_at_call 46; with_reducible refine HM3.out.mono ?_; rintro e w4 ⟨a, m, k, b, rfl, HMP⟩)
    have HI4 := hidd (HI3.out.fresh HMP.out.1)
    have HSZ := hidd HI3.out.top
    clear t0 t1 t2 t3 t4 HI3 HM3
    rcases HMP.out.2 with ⟨rfl, hR⟩ | ⟨rfl, Q, rfl, hR, hlen, how⟩
    · have HR := hidd hR
      obtain ⟨r0, r1, r2⟩ := (⟨HI4.out.res.cell (i := 0) (by decide), HI4.out.res.cell (i := 1) (by decide), HI4.out.res.cell (i := 2) (by decide)⟩ : _ ∧ _ ∧ _)
      have fr := HI4.out.res.frozen
      clear hR HMP
      go_wp2
      (try simp only [Exit.inBlock, Exit.then]); refine bodyPost_ret (ret_slice rfl _ _ (w.heap.size + 1) _ _ _ _ rfl (tri_set3 HI4.out.res _ _ _) rfl) rfl ?_
      obtain ⟨d1, d2⟩ := HI4.out.out hgl (.int .i64 0) (.int .i64 0) (.int .i64 0)
      exact HP.out _ _ ⟨d1, none, HR.out, .inl ⟨rfl, d2, rfl⟩⟩
    · have HR := hidd hR
      have HOW := hidd how
      have g6 := HI4.out.cells.2.2.2.1
      have fr := World.rowIs.frozen HI4.out.wk
      clear hR HMP how
      go_wp2
      have HI5 := hidd (HI4.out.set hgl (HI4.out.wk.setO (.slice a Q.length k)))
      have HO5 := hidd (HOW.out.chg (Chg.of_set w4 g 6 (.slice a Q.length k)) (fun x hx e => HOW.out.apart HI4.out.wk (by decide) (by rw [hx, e])))
      clear g6 fr HI4 HOW
      generalize w4.setCell ⟨g, 6, none⟩ (.slice a Q.length k) = w5 at *
      have HR1 := hidd (HR.out.room Q rfl)
      go_loopw [11] (fun v wr => ∃ am : Int, v = .int .i64 am ∧ 1 ≤ am ∧ am ≤ a0 ∧ Hid (∀ b, am < b → b ≤ a0 → ¬ bey c s b ≤ freR c S n (hasL Q) gv) ∧ Hid (SvI w g c so n sc (.slice a Q.length k) gv lf s wr) ∧ Hid (Own wr w3.heap.size 3 1 (.slice a Q.length k) Q.length (fun i => .int .i64 (lI Q i)))) (fun v _ => (intOf v).toNat)
      case atStart => exact ⟨a0, rfl, a1, by omega, fun b h1 h2 => absurd h1 (by omega), HI5, HO5⟩
      case round =>
        clear HI5 HO5
        obtain ⟨am, rfl, m1, m2, HNB, HI5, HO5⟩ := hrel
        obtain ⟨⟨t0, t1, t2, t3, t4⟩, _, _, _, _, _⟩ := HI5.out.cells
        have HRR := hidd (HRM.out wr HI5.out.chg _ HI5.out.wk Q a k (own_rda HO5.out) am m1 (by omega))
        by_cases hrm : bey c s am ≤ freR c S n (hasL Q) gv
        · have hd : decide (bey c s am ≤ freR c S n (hasI (lI Q) Q.length) gv) = true := decide_eq_true hrm
          rw [hd] at HRR
          have HMO : Hid (Most c S n gv s Q a0 am) := ⟨m1, m2, hrm, HNB.out⟩
          clear hd hrm HNB
          go_upto_region 21 with (go_at_call 48; with_reducible refine HRR.out.mono ?_; rintro e w6 ⟨rfl, hb6⟩; have HB6 := hidd hb6; clear hb6)
          have HI6 := hidd (HI5.out.fresh HB6.out)
          have HO6 := hidd (HO5.out.kept HB6.out)
          clear t0 t1 t2 t3 t4 HI5 HO5 HB6 HRR
          obtain ⟨⟨t0, t1, t2, t3, t4⟩, _, _, _, g7, _⟩ := HI6.out.cells
          have l0 := later_cell t0
          have l1 := later_cell t1
          have l2 := later_cell t2
          have l3 := later_cell t3
          have l4 := later_cell t4
          have l7 := later_cell g7
          have ne := later_some w6
          have HB5 := hidd (fun z : Later w6 => HBY.out z.val _ (HI6.out.wk.fresh z.fresh) am m1 (by omega))
          have hby := HBS.out am m1 (by omega)
          obtain ⟨gn, HGN⟩ : ∃ x, Hid (x = gv + bey c s am) := ⟨_, rfl⟩
          have wr3 : IntKind.i64.wrap (gv + bey c s am) = gn := by rw [IntKind.wrap_i64, HGN.out]; omega
          have HP2 : Hid (∀ e w', (Chg w w' (fun x => x = g) ∧ WkA w' g c so n sc (.slice a Q.length k) gn (lf - am) ∧ Own w' w.heap.size 3 1 (.slice a Q.length k) Q.length (fun i => .int .i64 (lI Q i)) ∧ e = .returned (.tuple #[.agg #[.int .i64 s.id, .int .i64 0, .int .i64 am], .bool true])) → PP e w') := fun e w' ⟨h1, h2, h3, h4⟩ => HP.out e w' ⟨h1, some Q, HR.out, .inr ⟨Q, a, k, am, rfl, hlen, HMO.out, by rw [← HGN.out]; exact h2, h3, h4⟩⟩
          generalize bey c s am = by0 at *
          clear HP HR HMO HGN HRM HBY HBS HR1
          refine wp_region_lastL (C := fun w' => ∃ x : Later w6, w' = x.val) (by simp) (by kernel_rfl) (by kernel_rfl) (by kernel_rfl) ⟨⟨w6.drew, (Below.refl _ _).drew⟩, rfl⟩ ?_
          simp only [List.dropLast_cons_cons, List.dropLast_singleton, List.getLast_cons_cons, List.getLast_singleton]
          repeat (go_big_quiet_step (fail))
          go_big_quiet_step (exact later_of (HB5.out _))
          repeat (go_big_quiet_step (fail))
          refine wpQuiet_nil ?_
          rintro _ ⟨z, rfl⟩
          have HI7 := hidd (HI6.out.fresh z.fresh)
          have HO7 := hidd (HO6.out.kept z.fresh)
          clear l0 l1 l2 l3 l4 l7 ne HB5 t0 t1 t2 t3 t4 g7 HI6 HO6
          generalize z.val = w7 at *
          have g7 := HI7.out.cells.2.2.2.2.1
          have fr := World.rowIs.frozen HI7.out.wk
          go_upto_region 22 with fail
          have HI8 := hidd (HI7.out.set hgl (HI7.out.wk.setG gn))
          have HO8 := hidd (HO7.out.chg (Chg.of_set w7 g 7 (.int .i64 gn)) (fun x hx e => HO7.out.apart HI7.out.wk (by decide) (by rw [hx, e])))
          clear g7 fr HI7 HO7 wr3
          generalize w7.setCell ⟨g, 7, none⟩ (.int .i64 gn) = w8 at *
          have g8 := HI8.out.cells.2.2.2.2.2
          have fr := World.rowIs.frozen HI8.out.wk
          go_upto_region 23 with fail
          have HI9 := hidd (HI8.out.set hgl (HI8.out.wk.setL (lf - am)))
          have HO9 := hidd (HO8.out.chg (Chg.of_set w8 g 8 (.int .i64 (lf - am))) (fun x hx e => HO8.out.apart HI8.out.wk (by decide) (by rw [hx, e])))
          clear g8 fr HI8 HO8
          generalize w8.setCell ⟨g, 8, none⟩ (.int .i64 (lf - am)) = w9 at *
          obtain ⟨r0, r1, r2⟩ := (⟨HI9.out.res.cell (i := 0) (by decide), HI9.out.res.cell (i := 1) (by decide), HI9.out.res.cell (i := 2) (by decide)⟩ : _ ∧ _ ∧ _)
          have t0 := HI9.out.cells.1.1
          have fr := HI9.out.res.frozen
          go_wp2
          (try simp only [Exit.inBlock, Exit.then]); refine bodyPost_ret (ret_slice rfl _ _ (w.heap.size + 1) _ _ _ _ rfl (tri_set3 HI9.out.res _ _ _) rfl) rfl ?_
          obtain ⟨d1, d2⟩ := HI9.out.out hgl (.int .i64 s.id) (.int .i64 0) (.int .i64 am)
          refine HP2.out _ _ ⟨d1, d2, ?_, rfl⟩
          exact (HO9.out.chg (set3_chg w9 (w.heap.size + 1) _ _ _) (fun x hx e => by have := (HO9.out.lt x hx).1; have := HSZ.out; omega)).weaken (by have := HSZ.out; omega)
        · have hd : decide (bey c s am ≤ freR c S n (hasI (lI Q) Q.length) gv) = false := decide_eq_false hrm
          rw [hd] at HRR
          have m3 : am ≠ 1 := fun e => hrm (by rw [e]; exact HR1.out)
          have HN2 : Hid (∀ b, am - 1 < b → b ≤ a0 → ¬ bey c s b ≤ freR c S n (hasL Q) gv) := fun b h1 h2 => by
            by_cases e : b = am
            · rw [e]; exact hrm
            · exact HNB.out b (by omega) h2
          have m4 : 1 ≤ am - 1 := by omega
          clear hd hrm
          go_wp2_with (go_at_call 48; with_reducible refine HRR.out.mono ?_; rintro e w6 ⟨rfl, hb6⟩; have HB6 := hidd hb6; clear hb6)
          have HI6 := hidd (HI5.out.fresh HB6.out)
          have HO6 := hidd (HO5.out.kept HB6.out)
          go_roundw
          case rel => exact ⟨am - 1, by go_num, m4, by omega, fun b h1 h2 => Int.not_le.2 (HN2.out b h1 h2), HI6, HO6⟩
          case measure => simp [intOf]; omega
end Go.Proofs.Ytdceahebkohbjab
