import Derived.Test.YtdceahebkohbjabScRa
namespace Go.Proofs.Ytdceahebkohbjab
open Go.RowKit
/-! The reference's plan: beyond, room. -/
set_option maxRecDepth 20000 in
set_option maxHeartbeats 4000000 in
theorem rbeyond_any {w : World} {g : Nat} {c : Me} {so : Option Addr} {n sc : Nat} {ov : Value} {gv lf : Int} (hw : WkA w g c so n sc ov gv lf) (h1 : 1 ≤ c.bl) (h2 : c.bl ≤ 16) (s : Se) {x : Int} (h3 : 0 ≤ s.ca + x) (h4 : s.ca + x ≤ 100000) (h5 : 0 ≤ s.ca) (h6 : s.ca ≤ 100000) (h7 : s.hn ≤ 256) :
    Calls Try.prog 47 #[.pointer (some ⟨g, 0, none⟩), seV s, .int .i64 x] w fun e w' => e = .returned (.int .i64 (bey c s x)) ∧ Below w.heap.size w w' := by
  have hnb : 0 ≤ need c (s.ca + x) ∧ need c (s.ca + x) ≤ 200000 := by
    unfold need
    have h0 : 0 < c.bl := by omega
    refine ⟨Int.ediv_nonneg (by omega) (by omega), ?_⟩
    exact Int.le_trans (Int.ediv_le_self _ (by omega)) (by omega)
  have HND := hidd (fun z => rneed_any c (s.ca + x) h1 h2 h3 (by omega) z)
  have HBE : Hid (bey c s x = max (need c (s.ca + x) - (s.hn : Int)) 0) := rfl
  rw [HBE.out]
  have HF := hidd (fresh_alloc w (.cells #[.int .i64 s.id, .int .i64 s.kn, .int .i64 s.ca, .int .i64 s.wa, .slice s.ho s.hn s.hc] 32))
  have hbx := box5 w (.int .i64 s.id) (.int .i64 s.kn) (.int .i64 s.ca) (.int .i64 s.wa) (.slice s.ho s.hn s.hc) 32
  have HWF := hidd (hw.fresh HF.out)
  generalize need c (s.ca + x) = nd at *
  obtain ⟨y0, y1, y2, y3, ho, hn0, hc0, HH⟩ := s
  unfold seV
  simp only at HND hbx HF HWF h3 h4 h5 h6 h7 ⊢
  obtain ⟨r, HR⟩ : ∃ r, Hid (r = max (nd - (hn0 : Int)) 0) := ⟨_, rfl⟩
  rw [← HR.out]
  clear hw HBE
  go_enter Try.func47, Try.ntmps47
  go_upto_region 1 with fail
  obtain ⟨_, _, b2, _, b4⟩ := hbx
  generalize w.alloc (.cells #[.int .i64 y0, .int .i64 y1, .int .i64 y2, .int .i64 y3, .slice ho hn0 hc0] 32) = w1 at *
  have g1 : w1.cell? ⟨g, 1, none⟩ = some (.int .i64 c.bl) := World.rowIs.cell HWF.out (i := 1) (by decide)
  have HS := hidd HF.out.size
  obtain ⟨gs, HGS⟩ : ∃ g, Hid (g = w.heap.size) := ⟨_, rfl⟩
  rw [← HGS.out] at b2 b4 ⊢
  generalize c.bl = cbl at *
  have l1 := later_cell b2
  have l2 := later_cell b4
  have l3 := later_cell g1
  have ne := later_some w1
  clear b2 b4 g1 HWF
  have HN2 := hidd (fun z : Later w1 => HND.out z.val)
  refine wp_region_later (by kernel_rfl) (by kernel_rfl) ?_
  repeat (go_big_quiet_step (fail))
  go_big_quiet_step (exact later_same (HN2.out _))
  repeat (go_big_quiet_step (fail))
  refine wpQuiet_nil ?_
  rintro _ ⟨z, rfl⟩
  have HB := hidd z.fresh
  have HBW := hidd (HF.out.trans (HB.out.mono HS.out))
  clear l1 l2 l3 ne HN2 HND HB HS
  generalize z.val = w2 at *
  by_cases hlt : nd - (hn0 : Int) < 0
  · obtain rfl : r = 0 := by have := HR.out; omega
    go_wp2
    go_ret
    exact ⟨rfl, HBW.out⟩
  · obtain rfl : r = nd - (hn0 : Int) := by have := HR.out; omega
    go_wp2
    go_ret
    exact ⟨rfl, HBW.out⟩
set_option maxRecDepth 20000 in
set_option maxHeartbeats 4000000 in
theorem rroom_any {w : World} {g : Nat} {c : Me} {so : Option Addr} {n sc : Nat} {ov : Value} {gv lf : Int} {S : Nat → Se} (hw : WkA w g c so n sc ov gv lf) (hS : SeA w so n sc S) (hn : n ≤ 16) (hb1 : 1 ≤ c.bs) (hb2 : c.bs ≤ 256) (hg : -100000 ≤ gv) (hg2 : gv ≤ 100000) {qo : Option Addr} {k qc : Nat} {Q : Nat → Int} (hQ : RdA w qo 1 k qc (fun i => .int .i64 (Q i))) (h1 : 1 ≤ c.bl) (h2 : c.bl ≤ 16) (s : Se) {x : Int} (h3 : 0 ≤ s.ca + x) (h4 : s.ca + x ≤ 100000) (h5 : 0 ≤ s.ca) (h6 : s.ca ≤ 100000) (h7 : s.hn ≤ 256) :
    Calls Try.prog 48 #[.pointer (some ⟨g, 0, none⟩), seV s, .int .i64 x, .slice qo k qc] w fun e w' => e = .returned (.bool (decide (bey c s x ≤ freR c S n (hasI Q k) gv))) ∧ Below w.heap.size w w' := by
  have HF := hidd (fresh_alloc w (.cells #[.int .i64 s.id, .int .i64 s.kn, .int .i64 s.ca, .int .i64 s.wa, .slice s.ho s.hn s.hc] 32))
  have hbx := box5 w (.int .i64 s.id) (.int .i64 s.kn) (.int .i64 s.ca) (.int .i64 s.wa) (.slice s.ho s.hn s.hc) 32
  have HFR := hidd (fun (z : World) (hz : Below w.heap.size w z) => rfree_any (hw.fresh hz) (hS.fresh hz) hn hb1 hb2 hg hg2 (hQ.fresh hz))
  have HBY := hidd (fun (z : World) (hz : Below w.heap.size w z) => rbeyond_any (hw.fresh hz) h1 h2 s h3 h4 h5 h6 h7)
  generalize bey c s x = by0 at *
  generalize freR c S n (hasI Q k) gv = fr0 at *
  obtain ⟨y0, y1, y2, y3, ho, hn0, hc0, HH⟩ := s
  unfold seV at HBY ⊢
  simp only at HBY hbx HF ⊢
  clear hw hS hQ
  go_enter Try.func48, Try.ntmps48
  go_upto_region 1 with fail
  obtain ⟨b0, b1, b2, b3, b4⟩ := hbx
  generalize w.alloc (.cells #[.int .i64 y0, .int .i64 y1, .int .i64 y2, .int .i64 y3, .slice ho hn0 hc0] 32) = w1 at *
  obtain ⟨gs, HGS⟩ : ∃ g, Hid (g = w.heap.size) := ⟨_, rfl⟩
  rw [← HGS.out] at b0 b1 b2 b3 b4 ⊢
  have l0 := later_cell b0
  have l1 := later_cell b1
  have l2 := later_cell b2
  have l3 := later_cell b3
  have l4 := later_cell b4
  have ne := later_some w1
  have HS := hidd HF.out.size
  have HFR1 := hidd (fun z : Later w1 => HFR.out z.val (HF.out.trans (z.fresh.mono HS.out)))
  have HBY1 := hidd (fun z : Later w1 => HBY.out z.val (HF.out.trans (z.fresh.mono HS.out)))
  clear b0 b1 b2 b3 b4 HFR HBY
  refine wp_region_later (by kernel_rfl) (by kernel_rfl) ?_
  repeat (go_big_quiet_step (fail))
  go_big_quiet_step (exact later_of (HFR1.out _))
  repeat (go_big_quiet_step (fail))
  go_big_quiet_step (exact later_of (HBY1.out _))
  repeat (go_big_quiet_step (fail))
  refine wpQuiet_nil ?_
  rintro _ ⟨z, rfl⟩
  have HBW := hidd (HF.out.trans (z.fresh.mono HS.out))
  clear l0 l1 l2 l3 l4 ne HFR1 HBY1
  go_wp2
  go_ret
  exact ⟨rfl, HBW.out⟩
end Go.Proofs.Ytdceahebkohbjab
