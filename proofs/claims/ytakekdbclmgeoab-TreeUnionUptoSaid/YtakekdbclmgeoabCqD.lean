import Derived.Test.YtakekdbclmgeoabCqC
import Derived.Test.YtakekdbclmgeoabRcFt
import Derived.Test.YtakekdbclmgeoabTjX
namespace Go.Proofs.Ytakekdbclmgeoab
open Go.RowKit
/-! TreeCleans. -/
set_option maxRecDepth 20000 in
set_option maxHeartbeats 1600000 in
theorem cleans_law {w : World} {ao : Option Addr} {cap : Nat} {R : List (Int × Int)} {root v : Int} (h : RdA w ao 2 R.length cap (rwF R)) (hn : R.length * 16 ≤ 140737488351232) (hv : fits v) :
    Calls Try.prog 3 #[.int .i64 root, .slice ao R.length cap, .int .i64 v] w fun e w' => e = .returned (.bool true) ∧ Below w.heap.size w w' := by
  have HH := hidd h
  have K1 := hidd (spareR_big h hn)
  clear h
  have KS : Hid (∀ (w1 w2 : World) (u : Option Addr) (uc : Nat), Mkr w w1 u uc R → Below w1.heap.size w1 w2 → Below w.heap.size w w2 → Calls Try.prog 11 #[.slice u R.length uc, .slice ao R.length cap] w2 fun e w' => e = .returned (.bool true) ∧ Below w2.heap.size w2 w') := fun w1 w2 u uc hm f1 f2 => staysR_any (hm.all.fresh f1) (HH.out.fresh f2)
  obtain ⟨n, HN⟩ : ∃ n, Hid (n = R.length) := ⟨_, rfl⟩
  by_cases hb : 96 < R.length
  · rw [← HN.out] at HH K1 KS hb hn ⊢
    go_enter Try.func3, Try.ntmps3
    go_wp2_with (first
      | (go_at_call 7; with_reducible refine K1.out.mono ?_; rintro e w1 ⟨u, uc, rfl, hm⟩; have HM := hidd hm; have B1 := hidd hm.low; have K2 := hidd (clean_bad (w := w1) (ao := u) (cap := uc) root v hb); clear K1 hm)
      | (go_at_call 8; with_reducible refine K2.out.mono ?_; rintro e w2 ⟨rfl, hb2⟩; have L2 := hidd hb2; have B2 := hidd (B1.out.trans (hb2.mono B1.out.size)); have K3 := hidd (rclean_bad (root := root) (v := v) hb (HH.out.fresh B2.out)); clear K2 hb2)
      | (go_at_call 9; with_reducible refine K3.out.mono ?_; rintro e w3 ⟨rfl, hw3⟩; rw [hw3]; clear hw3 K3; have K4 := hidd (eqNodes_same (P := fun _ => 0) (T := fun _ => 0) (D := fun _ => 0) (own_rda (own_nil w2 0 35 3 (nds (fun _ => 0) (fun _ => 0) (fun _ => 0)))) (own_rda (own_nil w2 0 35 3 (nds (fun _ => 0) (fun _ => 0) (fun _ => 0))))))
      | (go_at_call 10; with_reducible refine K4.out.mono ?_; rintro e w4 ⟨rfl, hb4⟩; have B4 := hidd (B2.out.trans (hb4.mono B2.out.size)); have K5 := hidd (KS.out w1 w4 u uc HM.out (L2.out.trans (hb4.mono L2.out.size)) B4.out); clear K4 hb4)
      | (go_at_call 11; with_reducible refine K5.out.mono ?_; rintro e w5 ⟨rfl, hb5⟩; have B5 := hidd (B4.out.trans (hb5.mono B4.out.size)); clear K5 hb5))
    go_ret
    exact ⟨rfl, B5.out⟩
  · obtain ⟨s, HS⟩ : ∃ s, Hid (s = gaS root v (rP R) (rT R) R.length) := ⟨_, rfl⟩
    obtain ⟨m, HM0⟩ : ∃ m, Hid (m = min 32 s.n) := ⟨_, rfl⟩
    have KC : Hid (∀ (w1 : World) (u : Option Addr) (uc : Nat), RdA w1 u 2 R.length uc (rwF R) → Calls Try.prog 8 #[.int .i64 root, .slice u R.length uc, .int .i64 v] w1 fun e w' => ∃ u2 c2, e = .returned (.tuple #[.slice u2 m c2, .int .i64 0]) ∧ RdA w' u2 3 m c2 (nds (rcP (wsD (rP R) (rT R) v R.length R.length)) (rcT root (wsD (rP R) (rT R) v R.length R.length)) (rcD (wsD (rP R) (rT R) v R.length R.length))) ∧ min 32 ((wsD (rP R) (rT R) v R.length R.length).length + 1) = m ∧ Below w1.heap.size w1 w') := fun w1 u uc hr => (clean_ok (root := root) (vocab := v) hr (by omega) hv HS.out HM0.out).mono (fun e w' q => by
      obtain ⟨d, ⟨d1, d2, d3⟩, u2, c2, e1, o, b⟩ := q
      rw [HS.out] at d1 d2 o
      have ts := (trees_same d1 d2 d3).2
      have tl := (trees_same d1 d2 d3).1
      refine ⟨u2, c2, e1, (own_rda o).congr (fun j hj => nds_congr (n := m) (fun i hi => ?_) hj), by rw [tl, ← HS.out]; exact HM0.out.symm, b⟩
      exact ts i (by have := HM0.out; rw [HS.out] at this; omega))
    have KR : Hid (min 32 ((wsD (rP R) (rT R) v R.length R.length).length + 1) = m → ∀ w1 : World, Below w.heap.size w w1 → Calls Try.prog 9 #[.int .i64 root, .slice ao R.length cap, .int .i64 v] w1 fun e w' => ∃ u2 c2, e = .returned (.tuple #[.slice u2 m c2, .int .i64 0]) ∧ RdA w' u2 3 m c2 (nds (rcP (wsD (rP R) (rT R) v R.length R.length)) (rcT root (wsD (rP R) (rT R) v R.length R.length)) (rcD (wsD (rP R) (rT R) v R.length R.length))) ∧ Below w1.heap.size w1 w') := fun hmm w1 f1 => (rclean_ok (root := root) (v := v) (show R.length ≤ 96 by omega) (HH.out.fresh f1)).mono (fun e w' q => by
      obtain ⟨u2, c2, e1, o, b⟩ := q
      rw [hmm] at e1 o
      exact ⟨u2, c2, e1, own_rda o, b⟩)
    obtain ⟨WS, HWS⟩ : ∃ x, Hid (x = wsD (rP R) (rT R) v R.length R.length) := ⟨_, rfl⟩
    rw [← HWS.out] at KC KR
    have KSP : Hid (∀ (w1 : World) (u : Option Addr) (uc : Nat), Mkr w w1 u uc R → RdA w1 u 2 R.length uc (rwF R)) := fun w1 u uc hm => mkR_rd hm.all
    rw [← HN.out] at HH K1 KS hb hn KC KR KSP ⊢
    go_enter Try.func3, Try.ntmps3
    go_wp2_with (first
      | (go_at_call 7; with_reducible refine K1.out.mono ?_; rintro e w1 ⟨u, uc, rfl, hm⟩; have HM := hidd hm; have B1 := hidd hm.low; have K2 := hidd (KC.out w1 u uc (KSP.out w1 u uc hm)); clear K1 hm KC KSP)
      | (go_at_call 8; with_reducible refine K2.out.mono ?_; rintro e w2 ⟨u2, c2, rfl, hr2, hmm, hb2⟩; have L2 := hidd hb2; have R2 := hidd hr2; have B2 := hidd (B1.out.trans (hb2.mono B1.out.size)); have K3 := hidd (KR.out hmm w2 B2.out); clear K2 hb2 hr2 hmm KR)
      | (go_at_call 9; with_reducible refine K3.out.mono ?_; rintro e w3 ⟨u3, c3, rfl, hr3, hb3⟩; have L3 := hidd (L2.out.trans (hb3.mono L2.out.size)); have B3 := hidd (B2.out.trans (hb3.mono B2.out.size)); have K4 := hidd (eqNodes_same (R2.out.fresh hb3) hr3); clear K3 hb3 hr3)
      | (go_at_call 10; with_reducible refine K4.out.mono ?_; rintro e w4 ⟨rfl, hb4⟩; have B4 := hidd (B3.out.trans (hb4.mono B3.out.size)); have K5 := hidd (KS.out w1 w4 u uc HM.out (L3.out.trans (hb4.mono L3.out.size)) B4.out); clear K4 hb4)
      | (go_at_call 11; with_reducible refine K5.out.mono ?_; rintro e w5 ⟨rfl, hb5⟩; have B5 := hidd (B4.out.trans (hb5.mono B4.out.size)); clear K5 hb5))
    go_ret
    exact ⟨rfl, B5.out⟩
end Go.Proofs.Ytakekdbclmgeoab
