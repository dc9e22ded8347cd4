import Derived.Test.YtmhjpfjhppcfoaaGreatDoorEgC
import Derived.Deep.DeepCutAuto
import Derived.BigQuiet
import Derived.Deep.RegionHeld3
namespace Go.Proofs.YtmhjpfjhppcfoaaGreatDoor
open Go.RowKit
/-! engine.New over a model. -/
theorem Chg.cell {w w' : World} {T : Nat → Prop} (h : Chg w w' T) {b o : Nat} {v : Value} (hc : w.cell? ⟨b, o, none⟩ = some v) (hb : ¬ T b) : w'.cell? ⟨b, o, none⟩ = some v := by
  rw [← hc]; unfold World.cell?; rw [h.block b (lt_of_cell hc) hb]
theorem twelve_c10 {w : World} {n : Nat} (hn : n = w.heap.size) (a0 a1 a2 a3 a4 a5 a6 a7 a8 a9 b c : Value) (t : TypeId) : (w.alloc (.cells #[a0, a1, a2, a3, a4, a5, a6, a7, a8, a9, b, c] t)).cell? ⟨n, 10, none⟩ = some b := by
  subst hn
  exact (World.rowIs_list w [a0, a1, a2, a3, a4, a5, a6, a7, a8, a9, b, c] t).cell (i := 10) (by simp)
theorem alloc2_row {z w' : World} {v u : Value} (h : Below (z.alloc (.cells #[v, u] 35)).heap.size (z.alloc (.cells #[v, u] 35)) w') : w'.rowIs z.heap.size 35 2 (fun i => [v, u].getD i undef) :=
  (World.rowIs_list z [v, u] 35).of_block (h.block _ (World.rowIs_list z [v, u] 35).lt)
theorem alloc2_rowd {z w' : World} {v u : Value} (h : Below (z.alloc (.cells #[v, u] 35)).drew.heap.size (z.alloc (.cells #[v, u] 35)).drew w') : w'.rowIs z.heap.size 35 2 (fun i => [v, u].getD i undef) :=
  alloc2_row ((Below.refl _ (z.alloc (.cells #[v, u] 35))).drew.trans (h.mono (Nat.le_refl _)))
theorem row2_c0 {w : World} {o : Nat} {v u : Value} (h : w.rowIs o 35 2 (fun i => [v, u].getD i undef)) : w.cell? ⟨o, 0, none⟩ = some v := h.cell (i := 0) (by decide)
theorem row2_c1 {w : World} {o : Nat} {v u : Value} (h : w.rowIs o 35 2 (fun i => [v, u].getD i undef)) : w.cell? ⟨o, 1, none⟩ = some u := h.cell (i := 1) (by decide)
theorem row2_set {w : World} {o : Nat} {v u a b : Value} (h : w.rowIs o 35 2 (fun i => [v, u].getD i undef)) : ((w.setCell ⟨o, 0, none⟩ a).setCell ⟨o, 1, none⟩ b).cell? ⟨o, 0, none⟩ = some a ∧ ((w.setCell ⟨o, 0, none⟩ a).setCell ⟨o, 1, none⟩ b).cell? ⟨o, 1, none⟩ = some b :=
  ⟨((h.set 0 a).set 1 b).cell (i := 0) (by decide), ((h.set 0 a).set 1 b).cell (i := 1) (by decide)⟩
theorem set2_keep {w : World} {o gv : Nat} {a b v u : Value} (h : w.cell? ⟨gv, 0, none⟩ = some v ∧ w.cell? ⟨gv, 1, none⟩ = some u) (hne : gv < o) : ((w.setCell ⟨o, 0, none⟩ a).setCell ⟨o, 1, none⟩ b).cell? ⟨gv, 0, none⟩ = some v ∧ ((w.setCell ⟨o, 0, none⟩ a).setCell ⟨o, 1, none⟩ b).cell? ⟨gv, 1, none⟩ = some u := by
  have c1 := Chg.of_set w o 0 a
  have c2 := Chg.of_set (w.setCell ⟨o, 0, none⟩ a) o 1 b
  exact ⟨c2.cell (c1.cell h.1 (by omega)) (by omega), c2.cell (c1.cell h.2 (by omega)) (by omega)⟩
theorem hb_alloc {w z : World} (h : Hid (Below w.heap.size w z)) (o : Obj) : Hid (Below w.heap.size w (z.alloc o)) := h.out.alloc h.out.size o
set_option maxRecDepth 100000 in
set_option maxHeartbeats 8000000 in
theorem enew_any {w : World} {g : Nat} {x y : WtD} (hM : Mdl w g x y) (hm : x.may) {d : VD} {bo po : Option Addr} {cb cp : Nat} (hb : RdA w bo 1 d.nb cb (fun i => .int .u8 (d.B i))) (hp : RdA w po 2 d.np cp (tcs d.P d.Q)) (n1 : d.nb ≤ 1048576) (n2 : d.np ≤ 1048576) (sz : Int) (hs : d.sized sz) (c : Me) (er : Int) (he : EnE x sz c er) :
    Calls Tryz.prog 19 #[.pointer (some ⟨g, 0, none⟩), .agg #[.slice bo d.nb cb, .slice po d.np cp], mV c] w (EnP w er) := by
  have HMC := hidd (fun (z : World) (hz : Below w.heap.size w z) => mconfig_any (hM.fresh hz))
  have HSZ := hidd (fun (z : World) (hz : Below w.heap.size w z) => psize_any (hb.fresh hz) (hp.fresh hz) sz hs)
  have HCB := hidd (fun (z : World) (hz : Below w.heap.size w z) => cloneVB_any (hb.fresh hz) (fun j _ => rfl) n1)
  have HCP := hidd (fun (z : World) (hz : Below w.heap.size w z) => cloneVP_any (hp.fresh hz) (fun j _ => tcs_oneV _ _ j) n2)
  have HSC := hidd (fun (z : World) (v : Int) (h1 : okM c x.N → v = 0) (h2 : ¬ okM c x.N → v = 200) => sck_any z c x.N v h1 h2)
  have HE := hidd he
  have HMY := hidd hm
  obtain ⟨bs, bl, bu, ch, tr⟩ := c
  unfold mV at *
  simp only at HSC ⊢
  clear hM hm hb hp hs he
  have HF : Hid (Below w.heap.size w ((w.alloc (.cells #[.slice bo d.nb cb, .slice po d.np cp] 35)).alloc (.cells #[.int .i64 bs, .int .i64 bl, .int .i64 bu, .int .i64 ch, .int .i64 tr] 37))) := (fresh_alloc w _).alloc (by simp) _
  have HRV : Hid (((w.alloc (.cells #[.slice bo d.nb cb, .slice po d.np cp] 35)).alloc (.cells #[.int .i64 bs, .int .i64 bl, .int .i64 bu, .int .i64 ch, .int .i64 tr] 37)).rowIs w.heap.size 35 2 (fun i => [.slice bo d.nb cb, .slice po d.np cp].getD i undef)) := (World.rowIs_list w [.slice bo d.nb cb, .slice po d.np cp] 35).alloc _
  have HRS : Hid (((w.alloc (.cells #[.slice bo d.nb cb, .slice po d.np cp] 35)).alloc (.cells #[.int .i64 bs, .int .i64 bl, .int .i64 bu, .int .i64 ch, .int .i64 tr] 37)).rowIs (w.heap.size + 1) 37 5 (fun i => [.int .i64 bs, .int .i64 bl, .int .i64 bu, .int .i64 ch, .int .i64 tr].getD i undef)) := by
    have := World.rowIs_list (w.alloc (.cells #[.slice bo d.nb cb, .slice po d.np cp] 35)) [.int .i64 bs, .int .i64 bl, .int .i64 bu, .int .i64 ch, .int .i64 tr] 37
    rwa [World.size_alloc] at this
  have HW1 : Hid (w.heap.size + 2 ≤ ((w.alloc (.cells #[.slice bo d.nb cb, .slice po d.np cp] 35)).alloc (.cells #[.int .i64 bs, .int .i64 bl, .int .i64 bu, .int .i64 ch, .int .i64 tr] 37)).heap.size) := hidd (by simp)
  go_enter Tryz.func19, Tryz.ntmps19
  go_upto_region 1 with fail
  generalize ((w.alloc (.cells #[.slice bo d.nb cb, .slice po d.np cp] 35)).alloc (.cells #[.int .i64 bs, .int .i64 bl, .int .i64 bu, .int .i64 ch, .int .i64 tr] 37)) = w1 at *
  obtain ⟨gv, HGV⟩ : ∃ g, Hid (g = w.heap.size) := ⟨_, rfl⟩
  obtain ⟨gs, HGS⟩ : ∃ g, Hid (g = w.heap.size + 1) := ⟨_, rfl⟩
  rw [← HGS.out] at HRS ⊢
  rw [← HGV.out] at HRV ⊢
  have HM1 := hidd (HMC.out w1 HF.out)
  go_upto_region 4 with (go_at_call 32; with_reducible refine HM1.out.mono ?_; rintro e w2 ⟨rfl, hb2⟩)
  have HB3 := hidd (hb2.alloc hb2.size (.cells #[.int .i64 x.V, .int .i64 x.W, .int .i64 x.H, .int .i64 x.K, .int .i64 x.L, .int .i64 x.D, .int .i64 x.N, .int .i64 x.M] 23))
  have HRC : Hid ((w2.alloc (.cells #[.int .i64 x.V, .int .i64 x.W, .int .i64 x.H, .int .i64 x.K, .int .i64 x.L, .int .i64 x.D, .int .i64 x.N, .int .i64 x.M] 23)).rowIs w2.heap.size 23 8 (fun i => [.int .i64 x.V, .int .i64 x.W, .int .i64 x.H, .int .i64 x.K, .int .i64 x.L, .int .i64 x.D, .int .i64 x.N, .int .i64 x.M].getD i undef)) := World.rowIs_list w2 [.int .i64 x.V, .int .i64 x.W, .int .i64 x.H, .int .i64 x.K, .int .i64 x.L, .int .i64 x.D, .int .i64 x.N, .int .i64 x.M] 23
  clear hb2 HM1 HMC
  obtain ⟨gc, HGC⟩ : ∃ g, Hid (g = w2.heap.size) := ⟨_, rfl⟩
  rw [← HGC.out] at HRC ⊢
  generalize w2.alloc (.cells #[.int .i64 x.V, .int .i64 x.W, .int .i64 x.H, .int .i64 x.K, .int .i64 x.L, .int .i64 x.D, .int .i64 x.N, .int .i64 x.M] 23) = w3 at *
  clear HGC
  have HFW := hidd (HF.out.trans (HB3.out.mono HF.out.size))
  have HV : Hid (∀ z, Below w3.heap.size w3 z → z.cell? ⟨gv, 0, none⟩ = some (.slice bo d.nb cb) ∧ z.cell? ⟨gv, 1, none⟩ = some (.slice po d.np cp)) := fun z hz => ⟨fresh_cell hz (fresh_cell HB3.out (HRV.out.cell (i := 0) (by decide))), fresh_cell hz (fresh_cell HB3.out (HRV.out.cell (i := 1) (by decide)))⟩
  have HS : Hid (∀ z, Below w3.heap.size w3 z → z.cell? ⟨gs, 0, none⟩ = some (.int .i64 bs) ∧ z.cell? ⟨gs, 1, none⟩ = some (.int .i64 bl) ∧ z.cell? ⟨gs, 2, none⟩ = some (.int .i64 bu) ∧ z.cell? ⟨gs, 3, none⟩ = some (.int .i64 ch) ∧ z.cell? ⟨gs, 4, none⟩ = some (.int .i64 tr)) := fun z hz => ⟨fresh_cell hz (fresh_cell HB3.out (HRS.out.cell (i := 0) (by decide))), fresh_cell hz (fresh_cell HB3.out (HRS.out.cell (i := 1) (by decide))), fresh_cell hz (fresh_cell HB3.out (HRS.out.cell (i := 2) (by decide))), fresh_cell hz (fresh_cell HB3.out (HRS.out.cell (i := 3) (by decide))), fresh_cell hz (fresh_cell HB3.out (HRS.out.cell (i := 4) (by decide)))⟩
  have HC : Hid (∀ z, Below w3.heap.size w3 z → z.cell? ⟨gc, 0, none⟩ = some (.int .i64 x.V) ∧ z.cell? ⟨gc, 1, none⟩ = some (.int .i64 x.W) ∧ z.cell? ⟨gc, 2, none⟩ = some (.int .i64 x.H) ∧ z.cell? ⟨gc, 3, none⟩ = some (.int .i64 x.K) ∧ z.cell? ⟨gc, 4, none⟩ = some (.int .i64 x.L) ∧ z.cell? ⟨gc, 6, none⟩ = some (.int .i64 x.N)) := fun z hz => ⟨fresh_cell hz (HRC.out.cell (i := 0) (by decide)), fresh_cell hz (HRC.out.cell (i := 1) (by decide)), fresh_cell hz (HRC.out.cell (i := 2) (by decide)), fresh_cell hz (HRC.out.cell (i := 3) (by decide)), fresh_cell hz (HRC.out.cell (i := 4) (by decide)), fresh_cell hz (HRC.out.cell (i := 6) (by decide))⟩
  have HW13 := hidd HB3.out.size
  clear HRV HRS HRC HB3 HF
  have HSZ3 := hidd (fun z : Later w3 => HSZ.out z.val (HFW.out.trans (z.fresh.mono HFW.out.size)))
  have l1 := later_cell (HV.out _ (Below.refl _ _)).1
  have l2 := later_cell (HV.out _ (Below.refl _ _)).2
  have l3 := later_cell (HC.out _ (Below.refl _ _)).1
  have ne := later_some w3
  clear HSZ
  refine wp_region_later (by kernel_rfl) (by kernel_rfl) ?_
  repeat (go_big_quiet_step (fail))
  go_big_quiet_step (exact later_of (HSZ3.out _))
  repeat (go_big_quiet_step (fail))
  refine wpQuiet_nil ?_
  rintro _ ⟨z, rfl⟩
  have HB4 := hidd z.fresh
  clear l1 l2 l3 ne HSZ3
  generalize z.val = w4 at *
  have HW4 := hidd (HFW.out.trans (HB4.out.mono HFW.out.size))
  obtain ⟨s0, s1, s2, s3, s4⟩ := HS.out _ HB4.out
  obtain ⟨c0, c1, c2, c3, c4, c6⟩ := HC.out _ HB4.out
  by_cases hsz : sz = x.V
  · subst hsz
    by_cases hok : okM ⟨bs, bl, bu, ch, tr⟩ x.N
    · have her : er = 0 := by
        rcases HE.out with ⟨q, _⟩ | ⟨_, q, _⟩ | ⟨_, _, q⟩
        · exact absurd rfl q
        · exact absurd hok q
        · exact q
      subst her
      have HCK := hidd (HSC.out w4 0 (fun _ => rfl) (fun q => absurd hok q))
      have HOK := hidd hok
      clear HSC hok HE
      go_upto_region 9 with (go_at_call 55; with_reducible refine HCK.out.mono ?_; rintro e w5 ⟨rfl, hb5⟩)
      have HB5 := hidd (HB4.out.trans (hb5.mono HB4.out.size))
      have HW5 := hidd (HW4.out.trans (hb5.mono HW4.out.size))
      clear s0 s1 s2 s3 s4 c0 c1 c2 c3 c4 c6 hb5 HCK
      obtain ⟨⟨_, _⟩, ⟨mw1, mw2⟩, ⟨mh1, mh2⟩, mwh, ⟨mk1, mk2⟩, mhk, ⟨ml1, ml2⟩, _, ⟨mn1, mn2⟩, _⟩ := HMY.out
      obtain ⟨k1, k2, k3, k4, k5, k6, k7, k8, k9, k10, k11, k12⟩ := HOK.out
      simp only at k3 k4 k5 k6
      obtain ⟨q, kvn, hq, hkv, hkv1, hkv2⟩ := kv_pos mh1 mk1 mk2 mw1 mw2 mwh
      obtain ⟨s0, s1, _, _, _⟩ := HS.out w5.drew (HB5.out.trans ((Below.refl _ w5).drew.mono HB5.out.size))
      obtain ⟨c0, c1, c2, c3, c4, c6⟩ := HC.out w5.drew (HB5.out.trans ((Below.refl _ w5).drew.mono HB5.out.size))
      obtain ⟨ln, hln⟩ : ∃ n : Nat, x.L = (n : Int) := ⟨x.L.toNat, by omega⟩
      obtain ⟨bn, rfl⟩ : ∃ n : Nat, bs = (n : Int) := ⟨bs.toNat, by omega⟩
      obtain ⟨sn, rfl⟩ : ∃ n : Nat, bl = (n : Int) := ⟨bl.toNat, by omega⟩
      have hq3 : (q : Int) ≤ 32 := by
        have h1 : 1 * (q : Int) ≤ x.K * (q : Int) := Int.mul_le_mul_of_nonneg_right mk1 (by omega)
        omega
      have ew : IntKind.i64.wrap (x.K * IntKind.i64.wrap (q : Int)) = (kvn : Int) := by
        have e1 : IntKind.i64.wrap (q : Int) = (q : Int) := by rw [IntKind.wrap_i64]; omega
        rw [e1, hkv, IntKind.wrap_i64]; omega
      have HB5d := hidd (HB5.out.trans ((Below.refl _ w5).drew.mono HB5.out.size))
      have HN9 : Hid (Calls Tryz.prog 56 #[.int .i64 (ln : Int), .int .i64 (IntKind.i64.wrap (x.K * IntKind.i64.wrap (q : Int))), .int .i64 (bn : Int), .int .i64 (sn : Int)] w5.drew fun e w' => ∃ g cb nb, e = .returned (.tuple #[.pointer (some ⟨g, 0, none⟩), .int .i64 0]) ∧ (w'.cell? ⟨gs, 0, none⟩ = some (.int .i64 (bn : Int)) ∧ w'.cell? ⟨gs, 1, none⟩ = some (.int .i64 (sn : Int)) ∧ w'.cell? ⟨gc, 1, none⟩ = some (.int .i64 x.W) ∧ w'.cell? ⟨gc, 2, none⟩ = some (.int .i64 x.H) ∧ w'.cell? ⟨gc, 3, none⟩ = some (.int .i64 x.K) ∧ w'.cell? ⟨gc, 4, none⟩ = some (.int .i64 (ln : Int))) ∧ Hid (PoolAt w' g cb nb ln kvn bn sn (fun _ => 0) (fun _ => 0) ∧ Below w3.heap.size w3 w')) := by
        show Calls _ _ _ _ _
        rw [ew]
        refine (new_any (L := ln) (W := kvn) (B := bn) (S := sn) w5.drew (by omega) ⟨hkv1, hkv2⟩ (by omega) (by omega)).mono ?_
        rintro e w' ⟨g, a, b, h1, h2, _, h3⟩
        have h4 := HB5d.out.trans (h3.mono HB5d.out.size)
        obtain ⟨t0, t1, _, _, _⟩ := HS.out _ h4
        obtain ⟨_, u1, u2, u3, u4, _⟩ := HC.out _ h4
        rw [hln] at u4
        exact ⟨g, a, b, h1, ⟨t0, t1, u1, u2, u3, u4⟩, h2, h4⟩
      rw [hln] at c4
      have S9 := And.intro s0 (And.intro s1 (And.intro c1 (And.intro c2 (And.intro c3 c4))))
      clear hkv ew hq3 s0 s1 c1 c2 c3 c4
      clear c0 c6
      generalize hWg : x.W = Wx at *
      generalize hHg : x.H = Hx at *
      generalize hKg : x.K = Kx at *
      have hdv : Wx.tdiv Hx = (q : Int) := by rw [Int.tdiv_eq_ediv_of_nonneg (by omega)]; exact hq
      have hh0 : ¬ Hx = 0 := by omega
      go_region_held3 (fun w' => w'.cell? ⟨gs, 0, none⟩ = some (.int .i64 (bn : Int)) ∧ w'.cell? ⟨gs, 1, none⟩ = some (.int .i64 (sn : Int)) ∧ w'.cell? ⟨gc, 1, none⟩ = some (.int .i64 Wx) ∧ w'.cell? ⟨gc, 2, none⟩ = some (.int .i64 Hx) ∧ w'.cell? ⟨gc, 3, none⟩ = some (.int .i64 Kx) ∧ w'.cell? ⟨gc, 4, none⟩ = some (.int .i64 (ln : Int)))
        (first | (with_reducible exact S9) | (with_reducible exact T9) | go_keep)
        (first | (go_at_call 56; with_reducible refine HN9.out.mono ?_; rintro e w6 ⟨pg, pc, pn, rfl, T9, H6⟩))
      have HPA := hidd H6.out.1
      have HB6 := hidd H6.out.2
      clear S9 T9 HN9 HB5d HC H6
      go_upto_region 12 with fail
      have HD0 : Hid (Below w6.heap.size w6 w6.drew) := (Below.refl _ w6).drew
      have S12 := HV.out _ (HB6.out.trans (HD0.out.mono HB6.out.size))
      have HCB2 : Hid (∀ z, Hid (Below w6.heap.size w6 z) → Calls Tryz.prog 57 #[.slice bo d.nb cb] z fun e w' => ∃ u' c', e = .returned (.slice u' d.nb c') ∧ (w'.cell? ⟨gv, 0, none⟩ = some (.slice bo d.nb cb) ∧ w'.cell? ⟨gv, 1, none⟩ = some (.slice po d.np cp)) ∧ Hid (Below w6.heap.size w6 w') ∧ Below z.heap.size z w') := fun z hz => by
        have hz3 := HB6.out.trans (hz.out.mono HB6.out.size)
        refine (HCB.out _ (HFW.out.trans (hz3.mono HFW.out.size))).mono ?_
        rintro e w' ⟨u', c', h1, _, h2⟩
        have h3 : Below w6.heap.size w6 w' := hz.out.trans (h2.mono hz.out.size)
        exact ⟨u', c', h1, HV.out _ (HB6.out.trans (h3.mono HB6.out.size)), h3, h2⟩
      have HCP2 : Hid (∀ z, Hid (Below w6.heap.size w6 z) → Calls Tryz.prog 58 #[.slice po d.np cp] z fun e w' => ∃ u' c', e = .returned (.slice u' d.np c') ∧ (w'.cell? ⟨gv, 0, none⟩ = some (.slice bo d.nb cb) ∧ w'.cell? ⟨gv, 1, none⟩ = some (.slice po d.np cp)) ∧ Hid (Below w6.heap.size w6 w') ∧ Below z.heap.size z w') := fun z hz => by
        have hz3 := HB6.out.trans (hz.out.mono HB6.out.size)
        refine (HCP.out _ (HFW.out.trans (hz3.mono HFW.out.size))).mono ?_
        rintro e w' ⟨u', c', h1, _, h2⟩
        have h3 : Below w6.heap.size w6 w' := hz.out.trans (h2.mono hz.out.size)
        exact ⟨u', c', h1, HV.out _ (HB6.out.trans (h3.mono HB6.out.size)), h3, h2⟩
      clear HCB HCP
      have hgv6 : gv < w6.heap.size := by have h1 := HGV.out; have h2 := HW1.out; have h3 := HFW.out.size; have h4 := HB6.out.size; have h5 := HW13.out; omega
      have HDA : Hid (∀ o : Obj, Hid (Below w6.heap.size w6 (w6.alloc o).drew)) := fun o => (fresh_alloc w6 o).drew
      have SAL : ∀ o : Obj, (w6.alloc o).drew.cell? ⟨gv, 0, none⟩ = some (.slice bo d.nb cb) ∧ (w6.alloc o).drew.cell? ⟨gv, 1, none⟩ = some (.slice po d.np cp) := fun o => HV.out _ (HB6.out.trans ((HDA.out o).out.mono HB6.out.size))
      go_cut [12] from 50 to 56 (fun v12 wx => ∃ o v0 v1, v12 = .pointer (some ⟨o, 0, none⟩) ∧ Hid (wx.cell? ⟨o, 0, none⟩ = some v0 ∧ wx.cell? ⟨o, 1, none⟩ = some v1) ∧ Hid (Below w6.heap.size w6 wx))
      case first =>
        go_region_held3 (fun w' => w'.cell? ⟨gv, 0, none⟩ = some (.slice bo d.nb cb) ∧ w'.cell? ⟨gv, 1, none⟩ = some (.slice po d.np cp))
          (first | (with_reducible exact S12) | (exact SAL _) | (with_reducible exact T7) | (with_reducible exact T8) | (exact set2_keep T8 (by first | omega | (simp; omega))) | go_keep)
          (first
            | (go_at_call 57; with_reducible refine (HCB2.out _ (by first | exact HD0 | exact HDA.out _)).mono ?_; rintro e w7 ⟨u7, k7, rfl, T7, H7, hb7⟩; have hs7 := H7.out.size; (try (have R7 := alloc2_rowd hb7; have g0 := row2_c0 R7; have g1 := row2_c1 R7; have gf := R7.frozen)))
            | (go_at_call 58; with_reducible refine (HCP2.out _ (by first | exact H7 | exact hb_alloc H7 _)).mono ?_; rintro e w8 ⟨u8, k8, rfl, T8, H8, hb8⟩; (first | (have R8 := alloc2_row hb8; have g0 := row2_c0 R8; have g1 := row2_c1 R8; have gf := R8.frozen) | (have R8 := R7.of_block (hb8.block _ R7.lt); have g0 := row2_c0 R8; have g1 := row2_c1 R8; have gf := R8.frozen) | skip))
            | (go_at_call 58; with_reducible refine (HCP2.out _ (by first | exact HD0 | exact HDA.out _)).mono ?_; rintro e w7 ⟨u8, k8, rfl, T7, H7, hb7⟩; have hs7 := H7.out.size; (try (have R7 := alloc2_rowd hb7; have g0 := row2_c0 R7; have g1 := row2_c1 R7; have gf := R7.frozen)))
            | (go_at_call 57; with_reducible refine (HCB2.out _ (by first | exact H7 | exact hb_alloc H7 _)).mono ?_; rintro e w8 ⟨u7, k7, rfl, T8, H8, hb8⟩; (first | (have R8 := alloc2_row hb8; have g0 := row2_c0 R8; have g1 := row2_c1 R8; have gf := R8.frozen) | (have R8 := R7.of_block (hb8.block _ R7.lt); have g0 := row2_c0 R8; have g1 := row2_c1 R8; have gf := R8.frozen) | skip)))
        all_goals
          go_wp2_with fail
          go_meet
        all_goals first
          | exact ⟨_, _, _, rfl, ⟨row2_c0 (World.rowIs_list _ [_, _] 35), row2_c1 (World.rowIs_list _ [_, _] 35)⟩, hb_alloc H8 _⟩
          | exact ⟨_, _, _, rfl, row2_set R8, (H8.out.setCell (by first | omega | (simp; done) | (simp; omega)) _).setCell (by first | omega | (simp; done) | (simp; omega)) _⟩
      case rest =>
      obtain ⟨o, v0, v1, rfl, HOC, HB8⟩ := hcut
      have HB8w := hidd (HFW.out.trans ((HB6.out.trans (HB8.out.mono HB6.out.size)).mono HFW.out.size))
      have HD8 : Hid (Below wc.heap.size wc wc.drew) := (Below.refl _ wc).drew
      have HS8 : Hid (∀ z, Below wc.heap.size wc z → (z.cell? ⟨o, 0, none⟩ = some v0 ∧ z.cell? ⟨o, 1, none⟩ = some v1) ∧ z.cell? ⟨gs, 0, none⟩ = some (.int .i64 (bn : Int)) ∧ z.cell? ⟨gs, 1, none⟩ = some (.int .i64 (sn : Int)) ∧ z.cell? ⟨gs, 2, none⟩ = some (.int .i64 bu) ∧ z.cell? ⟨gs, 3, none⟩ = some (.int .i64 ch) ∧ z.cell? ⟨gs, 4, none⟩ = some (.int .i64 tr)) := fun z hz => ⟨⟨fresh_cell hz HOC.out.1, fresh_cell hz HOC.out.2⟩, HS.out _ ((HB6.out.trans (HB8.out.mono HB6.out.size)).trans (hz.mono (HB6.out.trans (HB8.out.mono HB6.out.size)).size))⟩
      have HPA8 := hidd (fun (z : World) (hz : Hid (Below wc.heap.size wc z)) => pnew_any ((HPA.out.fresh HB8.out).fresh hz.out))
      have S13 := HS8.out _ HD8.out
      have HDM : Hid (∀ o : Obj, Hid (Below wc.heap.size wc (wc.alloc o).drew)) := fun o => (fresh_alloc wc o).drew
      have SM : ∀ ob : Obj, ((wc.alloc ob).drew.cell? ⟨o, 0, none⟩ = some v0 ∧ (wc.alloc ob).drew.cell? ⟨o, 1, none⟩ = some v1) ∧ (wc.alloc ob).drew.cell? ⟨gs, 0, none⟩ = some (.int .i64 (bn : Int)) ∧ (wc.alloc ob).drew.cell? ⟨gs, 1, none⟩ = some (.int .i64 (sn : Int)) ∧ (wc.alloc ob).drew.cell? ⟨gs, 2, none⟩ = some (.int .i64 bu) ∧ (wc.alloc ob).drew.cell? ⟨gs, 3, none⟩ = some (.int .i64 ch) ∧ (wc.alloc ob).drew.cell? ⟨gs, 4, none⟩ = some (.int .i64 tr) := fun ob => HS8.out _ (HDM.out ob).out
      have HPN : Hid (∀ z, Hid (Below wc.heap.size wc z) → Calls Tryz.prog 59 #[.pointer (some ⟨pg, 0, none⟩)] z fun e w' => ∃ c, e = .returned (.pointer (some ⟨c, 0, none⟩)) ∧ ((w'.cell? ⟨o, 0, none⟩ = some v0 ∧ w'.cell? ⟨o, 1, none⟩ = some v1) ∧ w'.cell? ⟨gs, 0, none⟩ = some (.int .i64 (bn : Int)) ∧ w'.cell? ⟨gs, 1, none⟩ = some (.int .i64 (sn : Int)) ∧ w'.cell? ⟨gs, 2, none⟩ = some (.int .i64 bu) ∧ w'.cell? ⟨gs, 3, none⟩ = some (.int .i64 ch) ∧ w'.cell? ⟨gs, 4, none⟩ = some (.int .i64 tr)) ∧ Hid (Below wc.heap.size wc w')) := fun z hz => by
        refine (HPA8.out z hz).mono ?_
        rintro e w' ⟨c, h1, h2⟩
        have h3 := hz.out.trans (h2.mono hz.out.size)
        exact ⟨c, h1, HS8.out _ h3, h3⟩
      have hmm := @run_makeMap Tryz.prog
      clear HPA8
      go_upto_region 13 with fail
      go_region_held3 (fun w' => (w'.cell? ⟨o, 0, none⟩ = some v0 ∧ w'.cell? ⟨o, 1, none⟩ = some v1) ∧ w'.cell? ⟨gs, 0, none⟩ = some (.int .i64 (bn : Int)) ∧ w'.cell? ⟨gs, 1, none⟩ = some (.int .i64 (sn : Int)) ∧ w'.cell? ⟨gs, 2, none⟩ = some (.int .i64 bu) ∧ w'.cell? ⟨gs, 3, none⟩ = some (.int .i64 ch) ∧ w'.cell? ⟨gs, 4, none⟩ = some (.int .i64 tr))
        (first | (with_reducible exact S13) | (exact SM _) | (with_reducible exact T9) | go_keep)
        (first | (go_at_call 59; with_reducible refine (HPN.out _ (by first | exact HD8 | exact HDM.out _)).mono ?_; rintro e w9 ⟨pc9, rfl, T9, H9⟩))
      all_goals
        have HB9 := hidd (HB8w.out.trans (H9.out.mono HB8w.out.size))
        have HSZ9 := hidd HB9.out.size
        clear S13 T9 SM HDM HPN HS8 HOC HPA HV HS
        go_wp2
        go_ret2
        first
          | exact ⟨((HB9.out.alloc HB9.out.size _).alloc (by have := HSZ9.out; simp; omega) _), _, rfl, fun k => absurd rfl k, fun _ => ⟨_, rfl, by have := HSZ9.out; omega, twelve_c10 (by simp) _ _ _ _ _ _ _ _ _ _ _ _ _⟩⟩
          | exact ⟨HB9.out.alloc HB9.out.size _, _, rfl, fun k => absurd rfl k, fun _ => ⟨_, rfl, by have := HSZ9.out; omega, twelve_c10 rfl _ _ _ _ _ _ _ _ _ _ _ _ _⟩⟩
    · have her : er = 200 := by
        rcases HE.out with ⟨q, _⟩ | ⟨_, _, q⟩ | ⟨_, q, _⟩
        · exact absurd rfl q
        · exact q
        · exact absurd q hok
      subst her
      have HCK := hidd (HSC.out w4 200 (fun q => absurd q hok) (fun _ => rfl))
      clear HSC hok HE HV HS HC HCB HCP
      go_wp2_with (go_at_call 55; with_reducible refine HCK.out.mono ?_; rintro e w5 ⟨rfl, hb5⟩)
      go_ret2
      exact ⟨HW4.out.trans (hb5.mono HW4.out.size), none, rfl, fun _ => rfl, fun k => absurd k (by decide)⟩
  · have her : er = 50 := by
      rcases HE.out with ⟨_, q⟩ | ⟨q, _⟩ | ⟨q, _⟩
      · exact q
      · exact absurd q hsz
      · exact absurd q hsz
    subst her
    have hd : (sz == x.V) = false := by simp; exact hsz
    clear HSC HE HV HS HC HCB HCP
    go_wp2
    go_ret2
    exact ⟨HW4.out, none, rfl, fun _ => rfl, fun k => absurd k (by decide)⟩
end Go.Proofs.YtmhjpfjhppcfoaaGreatDoor
