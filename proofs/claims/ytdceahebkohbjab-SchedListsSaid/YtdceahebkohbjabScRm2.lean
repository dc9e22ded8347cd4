import Derived.Test.YtdceahebkohbjabScRl
namespace Go.Proofs.Ytdceahebkohbjab
open Go.RowKit
/-! The reference's Make, where it answers an error. -/
set_option maxRecDepth 20000 in
set_option maxHeartbeats 4000000 in
theorem rmake_bad {w : World} {c : Me} (hc : ¬ okM c 1) {so po : Option Addr} {n sc m pc : Nat} :
    Calls Try.prog 14 #[mV c, .slice so n sc, .slice po m pc] w fun e w' => e = .returned (.tuple #[.agg #[.slice none 0 0, .slice none 0 0], .int .i64 200]) ∧ Below w.heap.size w w' := by
  have HCK := hidd (fun z => rcheck_any z c 1 200 (fun h => absurd h hc) (fun _ => rfl))
  have HF : Hid (Below w.heap.size w ((w.alloc (.cells #[.int .i64 c.bs, .int .i64 c.bl, .int .i64 c.bu, .int .i64 c.ch, .int .i64 c.tr] 23)).alloc (.cells #[.slice none 0 0, .slice none 0 0] 28))) := (fresh_alloc w _).trans ((fresh_alloc _ _).mono (fresh_alloc w _).size)
  have HR0 : Hid (((w.alloc (.cells #[.int .i64 c.bs, .int .i64 c.bl, .int .i64 c.bu, .int .i64 c.ch, .int .i64 c.tr] 23)).alloc (.cells #[.slice none 0 0, .slice none 0 0] 28)).rowIs (w.heap.size + 1) 28 2 (two (.slice none 0 0) (.slice none 0 0))) := by
    have := two_new (w.alloc (.cells #[.int .i64 c.bs, .int .i64 c.bl, .int .i64 c.bu, .int .i64 c.ch, .int .i64 c.tr] 23)) (.slice none 0 0) (.slice none 0 0) 28
    rwa [show (w.alloc (.cells #[.int .i64 c.bs, .int .i64 c.bl, .int .i64 c.bu, .int .i64 c.ch, .int .i64 c.tr] 23)).heap.size = w.heap.size + 1 by simp] at this
  have HBX : Hid (let z := ((w.alloc (.cells #[.int .i64 c.bs, .int .i64 c.bl, .int .i64 c.bu, .int .i64 c.ch, .int .i64 c.tr] 23)).alloc (.cells #[.slice none 0 0, .slice none 0 0] 28)); z.cell? ⟨w.heap.size, 0, none⟩ = some (.int .i64 c.bs) ∧ z.cell? ⟨w.heap.size, 1, none⟩ = some (.int .i64 c.bl) ∧ z.cell? ⟨w.heap.size, 2, none⟩ = some (.int .i64 c.bu) ∧ z.cell? ⟨w.heap.size, 3, none⟩ = some (.int .i64 c.ch) ∧ z.cell? ⟨w.heap.size, 4, none⟩ = some (.int .i64 c.tr)) := by
    obtain ⟨e0, e1, e2, e3, e4⟩ := box5 w (.int .i64 c.bs) (.int .i64 c.bl) (.int .i64 c.bu) (.int .i64 c.ch) (.int .i64 c.tr) 23
    have f := fresh_alloc (w.alloc (.cells #[.int .i64 c.bs, .int .i64 c.bl, .int .i64 c.bu, .int .i64 c.ch, .int .i64 c.tr] 23)) (.cells #[.slice none 0 0, .slice none 0 0] 28)
    exact ⟨fresh_cell f e0, fresh_cell f e1, fresh_cell f e2, fresh_cell f e3, fresh_cell f e4⟩
  have HMV : Hid (mV c = .agg #[.int .i64 c.bs, .int .i64 c.bl, .int .i64 c.bu, .int .i64 c.ch, .int .i64 c.tr]) := rfl
  rw [HMV.out] at HCK ⊢
  clear HMV hc
  go_enter Try.func14, Try.ntmps14
  go_upto_region 1 with fail
  generalize (w.alloc (.cells #[.int .i64 c.bs, .int .i64 c.bl, .int .i64 c.bu, .int .i64 c.ch, .int .i64 c.tr] 23)).alloc (.cells #[.slice none 0 0, .slice none 0 0] 28) = w1 at *
  obtain ⟨e0, e1, e2, e3, e4⟩ := HBX.out
  go_upto_region 2 with (go_at_call 22; with_reducible refine (HCK.out _).mono ?_; rintro e w2 ⟨rfl, hb2⟩; have HB2 := hidd hb2; clear hb2)
  have HF2 := hidd (HF.out.trans (HB2.out.mono HF.out.size))
  have HR2 := hidd (HR0.out.of_block (HB2.out.block _ HR0.out.lt))
  clear HCK HB2 HF HR0 HBX e0 e1 e2 e3 e4
  have c0 := HR2.out.cell (i := 0) (by decide)
  have c1 := HR2.out.cell (i := 1) (by decide)
  have fr := HR2.out.frozen
  go_wp2
  (try simp only [Exit.inBlock, Exit.then]); refine bodyPost_ret (ret_plan rfl _ _ (w.heap.size + 1) _ _ _ rfl (two_set2 HR2.out _ _) rfl) rfl ?_
  exact ⟨rfl, (HF2.out.setCell (by simp) _).setCell (by simp) _⟩
set_option maxRecDepth 20000 in
set_option maxHeartbeats 4000000 in
theorem rmake_seats {w : World} {c : Me} (hc : okM c 1) {so po : Option Addr} {n sc m pc : Nat} {S : Nat → Se} (hS : SeA w so n sc S) (hA : ¬ okA c n S) :
    Calls Try.prog 14 #[mV c, .slice so n sc, .slice po m pc] w fun e w' => e = .returned (.tuple #[.agg #[.slice none 0 0, .slice none 0 0], .int .i64 1]) ∧ Below w.heap.size w w' := by
  have HCK := hidd (fun z => rcheck_any z c 1 0 (fun _ => rfl) (fun h => absurd hc h))
  have HSK := hidd (fun (z : World) (hz : Below w.heap.size w z) => rseats_any c hc (hS.fresh hz) 1 (fun h => absurd h hA) (fun _ => rfl))
  have HF : Hid (Below w.heap.size w ((w.alloc (.cells #[.int .i64 c.bs, .int .i64 c.bl, .int .i64 c.bu, .int .i64 c.ch, .int .i64 c.tr] 23)).alloc (.cells #[.slice none 0 0, .slice none 0 0] 28))) := (fresh_alloc w _).trans ((fresh_alloc _ _).mono (fresh_alloc w _).size)
  have HR0 : Hid (((w.alloc (.cells #[.int .i64 c.bs, .int .i64 c.bl, .int .i64 c.bu, .int .i64 c.ch, .int .i64 c.tr] 23)).alloc (.cells #[.slice none 0 0, .slice none 0 0] 28)).rowIs (w.heap.size + 1) 28 2 (two (.slice none 0 0) (.slice none 0 0))) := by
    have := two_new (w.alloc (.cells #[.int .i64 c.bs, .int .i64 c.bl, .int .i64 c.bu, .int .i64 c.ch, .int .i64 c.tr] 23)) (.slice none 0 0) (.slice none 0 0) 28
    rwa [show (w.alloc (.cells #[.int .i64 c.bs, .int .i64 c.bl, .int .i64 c.bu, .int .i64 c.ch, .int .i64 c.tr] 23)).heap.size = w.heap.size + 1 by simp] at this
  have HBX : Hid (let z := ((w.alloc (.cells #[.int .i64 c.bs, .int .i64 c.bl, .int .i64 c.bu, .int .i64 c.ch, .int .i64 c.tr] 23)).alloc (.cells #[.slice none 0 0, .slice none 0 0] 28)); z.cell? ⟨w.heap.size, 0, none⟩ = some (.int .i64 c.bs) ∧ z.cell? ⟨w.heap.size, 1, none⟩ = some (.int .i64 c.bl) ∧ z.cell? ⟨w.heap.size, 2, none⟩ = some (.int .i64 c.bu) ∧ z.cell? ⟨w.heap.size, 3, none⟩ = some (.int .i64 c.ch) ∧ z.cell? ⟨w.heap.size, 4, none⟩ = some (.int .i64 c.tr)) := by
    obtain ⟨e0, e1, e2, e3, e4⟩ := box5 w (.int .i64 c.bs) (.int .i64 c.bl) (.int .i64 c.bu) (.int .i64 c.ch) (.int .i64 c.tr) 23
    have f := fresh_alloc (w.alloc (.cells #[.int .i64 c.bs, .int .i64 c.bl, .int .i64 c.bu, .int .i64 c.ch, .int .i64 c.tr] 23)) (.cells #[.slice none 0 0, .slice none 0 0] 28)
    exact ⟨fresh_cell f e0, fresh_cell f e1, fresh_cell f e2, fresh_cell f e3, fresh_cell f e4⟩
  have HMV : Hid (mV c = .agg #[.int .i64 c.bs, .int .i64 c.bl, .int .i64 c.bu, .int .i64 c.ch, .int .i64 c.tr]) := rfl
  rw [HMV.out] at HCK HSK ⊢
  clear HMV hc hA hS
  go_enter Try.func14, Try.ntmps14
  go_upto_region 1 with fail
  generalize (w.alloc (.cells #[.int .i64 c.bs, .int .i64 c.bl, .int .i64 c.bu, .int .i64 c.ch, .int .i64 c.tr] 23)).alloc (.cells #[.slice none 0 0, .slice none 0 0] 28) = w1 at *
  obtain ⟨e0, e1, e2, e3, e4⟩ := HBX.out
  go_upto_region 4 with (go_at_call 22; with_reducible refine (HCK.out _).mono ?_; rintro e w2 ⟨rfl, hb2⟩; have HB2 := hidd hb2; clear hb2)
  have HFa := hidd (HF.out.trans (HB2.out.mono HF.out.size))
  have HRa := hidd (HR0.out.of_block (HB2.out.block _ HR0.out.lt))
  replace e0 := fresh_cell HB2.out e0
  replace e1 := fresh_cell HB2.out e1
  replace e2 := fresh_cell HB2.out e2
  replace e3 := fresh_cell HB2.out e3
  replace e4 := fresh_cell HB2.out e4
  have HS2 := hidd (HSK.out w2 HFa.out)
  go_upto_region 5 with (go_at_call 23; with_reducible refine HS2.out.mono ?_; rintro e w3 ⟨rfl, hb3⟩; have HB3 := hidd hb3; clear hb3)
  have HF2 := hidd (HFa.out.trans (HB3.out.mono HFa.out.size))
  have HR2 := hidd (HRa.out.of_block (HB3.out.block _ HRa.out.lt))
  clear HCK HSK HS2 HB2 HB3 HF HFa HR0 HRa HBX e0 e1 e2 e3 e4
  have c0 := HR2.out.cell (i := 0) (by decide)
  have c1 := HR2.out.cell (i := 1) (by decide)
  have fr := HR2.out.frozen
  go_wp2
  (try simp only [Exit.inBlock, Exit.then]); refine bodyPost_ret (ret_plan rfl _ _ (w.heap.size + 1) _ _ _ rfl (two_set2 HR2.out _ _) rfl) rfl ?_
  exact ⟨rfl, (HF2.out.setCell (by simp) _).setCell (by simp) _⟩
end Go.Proofs.Ytdceahebkohbjab
