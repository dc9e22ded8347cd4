import Derived.Test.YtmhjpfjhppcfoaaGreatDoorML
import Derived.Test.YtmhjpfjhppcfoaaGreatDoorWtRef2
import Derived.Test.YtmhjpfjhppcfoaaGreatDoorNwA
namespace Go.Proofs.YtmhjpfjhppcfoaaGreatDoor
open Go.RowKit
/-! modelOf: the model of any weights. -/
theorem SmM.symm {a b : MtD} (h : SmM a b) : SmM b a := ⟨h.1.symm, h.2.1.symm, h.2.2.1.symm, h.2.2.2.symm⟩
theorem SmS.symm {a b : LsD} (h : SmS a b) : SmS b a := ⟨h.1.symm, h.2.symm⟩
theorem SmL.symm {a b : LyD} (h : SmL a b) : SmL b a := ⟨h.1.symm, h.2.1.symm, fun q hq => (h.2.2.1 q hq).symm, h.2.2.2.symm⟩
theorem BS.symm {x y : WtD} (h : BS x y) : BS y x := by
  obtain ⟨a1, a2, a3, a4, a5, a6, a7, a8⟩ := h.cfg
  exact ⟨⟨a1.symm, a2.symm, a3.symm, a4.symm, a5.symm, a6.symm, a7.symm, a8.symm⟩, h.E.symm, h.Q.symm, h.F.symm, ⟨h.T.1.symm, h.T.2.1.symm, h.T.2.2.symm⟩, h.Y.symm, h.M.symm⟩
theorem Sm.symm {x y : WtD} (h : Sm x y) : Sm y x := ⟨h.bs.symm, fun j hj => (h.yy j (by rw [← h.bs.Y]; exact hj)).symm, fun j hj => (h.mm j (by rw [← h.bs.M]; exact hj)).symm⟩
theorem Sm.isE {x y : WtD} (h : Sm x y) {er : Int} (k : IsE x er) : IsE y er := by
  rcases k with ⟨k1, k2⟩ | ⟨k1, k2, k3⟩ | ⟨k1, k2, k3⟩
  · exact .inl ⟨fun q => k1 (h.symm.may q), k2⟩
  · exact .inr (.inl ⟨h.may k1, fun q => k2 (h.symm.wtp q), k3⟩)
  · exact .inr (.inr ⟨h.may k1, h.wtp k2, k3⟩)
/-- what modelOf answers -/
def MoP (w : World) (x : WtD) (er : Int) (e : Ending) (w' : World) : Prop := Below w.heap.size w w' ∧ ∃ p, e = .returned (.tuple #[.pointer p, .bool true]) ∧ (er ≠ 0 → p = none) ∧ (er = 0 → ∃ g y, p = some ⟨g, 0, none⟩ ∧ Mdl w' g x y)
set_option maxRecDepth 100000 in
set_option maxHeartbeats 4000000 in
theorem modelOf_any {w : World} {x : WtD} (hx : WtR w x) (hB : WtB x) {er : Int} (he : IsE x er) :
    Calls Tryz.prog 17 #[.agg #[.int .i64 x.V, .int .i64 x.W, .int .i64 x.H, .int .i64 x.K, .int .i64 x.L, .int .i64 x.D, .int .i64 x.N, .int .i64 x.M, .int .i64 x.E.R, .int .i64 x.E.C, .slice x.E.O x.E.n x.E.c, .slice x.tO x.tn x.tc, .slice x.yO x.yn x.yc, .slice x.F.O x.F.n x.F.c, .int .i64 x.Q.R, .int .i64 x.Q.C, .slice x.Q.O x.Q.n x.Q.c, .slice x.mO x.mn x.mc]] w (MoP w x er) := by
  obtain ⟨T, hT⟩ : ∃ T, T = wtA x := ⟨_, rfl⟩
  have hr : (w.alloc (.cells #[.int .i64 x.V, .int .i64 x.W, .int .i64 x.H, .int .i64 x.K, .int .i64 x.L, .int .i64 x.D, .int .i64 x.N, .int .i64 x.M, .int .i64 x.E.R, .int .i64 x.E.C, .slice x.E.O x.E.n x.E.c, .slice x.tO x.tn x.tc, .slice x.yO x.yn x.yc, .slice x.F.O x.F.n x.F.c, .int .i64 x.Q.R, .int .i64 x.Q.C, .slice x.Q.O x.Q.n x.Q.c, .slice x.mO x.mn x.mc] 31)).rowIs w.heap.size 31 18 (wtc x) := World.rowIs_list w (wtL x) 31
  have f1 := fresh_alloc w (.cells #[.int .i64 x.V, .int .i64 x.W, .int .i64 x.H, .int .i64 x.K, .int .i64 x.L, .int .i64 x.D, .int .i64 x.N, .int .i64 x.M, .int .i64 x.E.R, .int .i64 x.E.C, .slice x.E.O x.E.n x.E.c, .slice x.tO x.tn x.tc, .slice x.yO x.yn x.yc, .slice x.F.O x.F.n x.F.c, .int .i64 x.Q.R, .int .i64 x.Q.C, .slice x.Q.O x.Q.n x.Q.c, .slice x.mO x.mn x.mc] 31)
  have SL : Hid ((Tryz.prog.info? 31).map (·.size) = some T.toList.length) := by rw [hT]; exact sizeW
  have HRG : Hid (∀ z, Below (w.alloc (.cells #[.int .i64 x.V, .int .i64 x.W, .int .i64 x.H, .int .i64 x.K, .int .i64 x.L, .int .i64 x.D, .int .i64 x.N, .int .i64 x.M, .int .i64 x.E.R, .int .i64 x.E.C, .slice x.E.O x.E.n x.E.c, .slice x.tO x.tn x.tc, .slice x.yO x.yn x.yc, .slice x.F.O x.F.n x.F.c, .int .i64 x.Q.R, .int .i64 x.Q.C, .slice x.Q.O x.Q.n x.Q.c, .slice x.mO x.mn x.mc] 31)).heap.size (w.alloc (.cells #[.int .i64 x.V, .int .i64 x.W, .int .i64 x.H, .int .i64 x.K, .int .i64 x.L, .int .i64 x.D, .int .i64 x.N, .int .i64 x.M, .int .i64 x.E.R, .int .i64 x.E.C, .slice x.E.O x.E.n x.E.c, .slice x.tO x.tn x.tc, .slice x.yO x.yn x.yc, .slice x.F.O x.F.n x.F.c, .int .i64 x.Q.R, .int .i64 x.Q.C, .slice x.Q.O x.Q.n x.Q.c, .slice x.mO x.mn x.mc] 31)) z → z.rangeAt w.heap.size 0 T.toList) := fun z hz => by rw [hT]; exact row_range (row_fresh hr hz) rfl
  have HCK : Hid (∀ z, Below w.heap.size w z → Calls Tryz.prog 52 #[.agg T] z fun e w' => e = .returned (.int .i64 er) ∧ Below z.heap.size z w') := fun z hz => by rw [hT]; exact check_wref (hx.fresh hz) er he
  have HCW : Hid (∀ z, Below w.heap.size w z → Calls Tryz.prog 51 #[.agg T] z fun e w' => ∃ y, e = .returned (.agg (wtA y)) ∧ WtR w' y ∧ Sm x y ∧ Below z.heap.size z w') := fun z hz => by
    rw [hT]
    exact (copyW_any (hx.fresh hz) hB).mono fun e w' ⟨y, h1, h2⟩ => ⟨y, h1, h2.wtr hx, h2.sm, h2.low⟩
  have HNW : Hid (∀ (z : World) (y : WtD), WtR z y → Sm x y → Calls Tryz.prog 50 #[.agg (wtA y)] z fun e w' => Below z.heap.size z w' ∧ ∃ p, e = .returned (.tuple #[.pointer p, .int .i64 er]) ∧ (er ≠ 0 → p = none) ∧ (er = 0 → ∃ g y', p = some ⟨g, 0, none⟩ ∧ Mdl w' g x y')) := fun z y h1 h2 => by
    by_cases h0 : er = 0
    · have hmp : x.may ∧ WtP x := by
        rcases he with ⟨_, k⟩ | ⟨_, _, k⟩ | ⟨k1, k2, _⟩
        · omega
        · omega
        · exact ⟨k1, k2⟩
      refine (new_ok h1 (h2.may hmp.1) (h2.wtp hmp.2)).mono fun e w' q => ?_
      obtain ⟨y', g, h3, h4, h5, h6⟩ := q
      exact ⟨h6, _, by rw [h3, h0], fun k => absurd h0 k, fun _ => ⟨g, y', rfl, ⟨h4.row, h4.rd, h2.trans h4.sm⟩⟩⟩
    · refine (new_bad h1 er (h2.isE he) h0).mono fun e w' q => ?_
      exact ⟨q.2, _, q.1, fun _ => rfl, fun k => absurd k h0⟩
  clear hx hr hT he hB
  go_enter Tryz.func17, Tryz.ntmps17
  go_upto_region 1 with fail
  generalize w.alloc (.cells #[.int .i64 x.V, .int .i64 x.W, .int .i64 x.H, .int .i64 x.K, .int .i64 x.L, .int .i64 x.D, .int .i64 x.N, .int .i64 x.M, .int .i64 x.E.R, .int .i64 x.E.C, .slice x.E.O x.E.n x.E.c, .slice x.tO x.tn x.tc, .slice x.yO x.yn x.yc, .slice x.F.O x.F.n x.F.c, .int .i64 x.Q.R, .int .i64 x.Q.C, .slice x.Q.O x.Q.n x.Q.c, .slice x.mO x.mn x.mc] 31) = wa at *
  have RG := hidd (HRG.out wa (Below.refl _ _))
  go_wp2_with (refine wpList_load_mid rfl 31 _ rfl w.heap.size 0 rfl T.toList _ RG.out Tryz.underlying31 rfl SL.out ?_)
  refine (HCW.out _ f1).mono ?_
  rintro e w2 ⟨y, rfl, hy, hs, f3⟩
  have HY := hidd hy
  have HS := hidd hs
  have F2 := hidd (fresh_trans f1 f3)
  have FA := hidd f3
  clear hy hs f1 f3 RG HCW
  go_wp2_with fail
  refine (HNW.out _ y HY.out HS.out).mono ?_
  rintro e w3 ⟨f4, p, rfl, hp1, hp2⟩
  have F3 := hidd (fresh_trans F2.out f4)
  have FB := hidd (fresh_trans FA.out f4)
  have HP1 := hidd hp1
  have HP2 := hidd hp2
  have RG := hidd (HRG.out w3 FB.out)
  clear f4 F2 FA HNW HS HY hp1 hp2
  go_wp2_with (refine wpList_load_mid rfl 31 _ rfl w.heap.size 0 rfl T.toList _ RG.out Tryz.underlying31 rfl SL.out ?_)
  refine (HCK.out _ F3.out).mono ?_
  rintro e w4 ⟨rfl, f5⟩
  have F4 := hidd (fresh_trans F3.out f5)
  have H5 := hidd f5
  clear f5 RG HRG HCK F3 FB SL
  by_cases h0 : er = 0
  · obtain ⟨g, y', rfl, hm⟩ := HP2.out h0
    subst h0
    have HM := hidd (hm.fresh H5.out)
    clear hm HP1 HP2
    go_wp2
    go_ret2
    exact ⟨F4.out, _, rfl, fun k => absurd rfl k, fun _ => ⟨g, y', rfl, HM.out⟩⟩
  · obtain rfl := HP1.out h0
    have d0 : (er == 0) = false := by simp; exact h0
    have H0 := hidd h0
    clear HP1 HP2 h0
    go_wp2
    go_ret2
    exact ⟨F4.out, _, rfl, fun _ => rfl, fun k => absurd k H0.out⟩
end Go.Proofs.YtmhjpfjhppcfoaaGreatDoor
