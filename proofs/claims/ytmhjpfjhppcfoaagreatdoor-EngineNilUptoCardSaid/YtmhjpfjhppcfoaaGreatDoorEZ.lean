import Derived.Test.YtmhjpfjhppcfoaaGreatDoorEgG
import Derived.Test.YtmhjpfjhppcfoaaGreatDoorMJ
import Derived.WalkKit
import Derived.ProofKit
import Derived.OpenShut
import Derived.SizedLaws
import Derived.Deep.SlicePairs
import Derived.Deep.Matrix
import Derived.ChangeArms
namespace Go.Proofs.YtmhjpfjhppcfoaaGreatDoor
open Go.RowKit
/-! EngineNil. -/
set_option maxRecDepth 20000 in
theorem live_empty {w : World} {E : Nat} (h : w.cell? ⟨E, 10, none⟩ = some (.slice none 0 0)) : Calls Tryz.prog 15 #[.pointer (some ⟨E, 0, none⟩)] w fun e w' => e = .returned (.slice none 0 0) ∧ Below w.heap.size w w' := by
  go_enter Tryz.func15, Tryz.ntmps15
  go_wp2
  go_loopw [3, 13] (fun v i wr => v = .slice none 0 0 ∧ i = .int .i64 0 ∧ Below w.heap.size w wr) (fun _ _ _ => 0)
  case atStart => exact ⟨rfl, rfl, Below.refl _ _⟩
  case round =>
    obtain ⟨rfl, rfl, hf⟩ := hrel
    go_wp2
    go_ret
    exact ⟨rfl, hf⟩
theorem size_setup : (Tryz.prog.info? 39).map (·.size) = some 25 := by kernel_rfl
set_option maxRecDepth 100000 in
set_option maxHeartbeats 8000000 in
theorem nil_law {w : World} {x : WtD} (hx : WtR w x) (hB : WtB x) {d : VD} {bo po : Option Addr} {cb cp : Nat} (hb : RdA w bo 1 d.nb cb (fun i => .int .u8 (d.B i))) (hp : RdA w po 2 d.np cp (tcs d.P d.Q)) (n1 : d.nb ≤ 1048576) (n2 : d.np ≤ 1048576) (bs bl bu ch tr : Int) {ao : Option Addr} {n cap : Nat} {f : Nat → Int} (ha : RdA w ao 1 n cap (fun i => .int .i64 (f i))) (hn : n ≤ 1048576) (y1 y2 y3 y4 y5 y6 y7 : Int) (y8 : ByteArray) (id : Int) (ko : Option Addr) (kn kc : Nat) :
    Calls Tryz.prog 3 #[.agg #[.int .i64 x.V, .int .i64 x.W, .int .i64 x.H, .int .i64 x.K, .int .i64 x.L, .int .i64 x.D, .int .i64 x.N, .int .i64 x.M, .int .i64 x.E.R, .int .i64 x.E.C, .slice x.E.O x.E.n x.E.c, .slice x.tO x.tn x.tc, .slice x.yO x.yn x.yc, .slice x.F.O x.F.n x.F.c, .int .i64 x.Q.R, .int .i64 x.Q.C, .slice x.Q.O x.Q.n x.Q.c, .slice x.mO x.mn x.mc, .slice bo d.nb cb, .slice po d.np cp, .int .i64 bs, .int .i64 bl, .int .i64 bu, .int .i64 ch, .int .i64 tr, .slice ao n cap, .int .i64 y1, .int .i64 y2, .int .i64 y3, .int .i64 y4, .int .i64 y5, .int .u64 y6, .int .i64 y7, .string y8, .int .i64 id, .slice ko kn kc]] w fun e w' => e = .returned (.bool true) ∧ Below w.heap.size w w' := by
  obtain ⟨T, hT⟩ : ∃ T : Array Value, T = #[.int .i64 x.V, .int .i64 x.W, .int .i64 x.H, .int .i64 x.K, .int .i64 x.L, .int .i64 x.D, .int .i64 x.N, .int .i64 x.M, .int .i64 x.E.R, .int .i64 x.E.C, .slice x.E.O x.E.n x.E.c, .slice x.tO x.tn x.tc, .slice x.yO x.yn x.yc, .slice x.F.O x.F.n x.F.c, .int .i64 x.Q.R, .int .i64 x.Q.C, .slice x.Q.O x.Q.n x.Q.c, .slice x.mO x.mn x.mc, .slice bo d.nb cb, .slice po d.np cp, .int .i64 bs, .int .i64 bl, .int .i64 bu, .int .i64 ch, .int .i64 tr] := ⟨_, rfl⟩
  have SL : Hid ((Tryz.prog.info? 39).map (·.size) = some T.toList.length) := by rw [hT]; exact size_setup
  have HBG : Hid (∀ z, Below w.heap.size w z → Calls Tryz.prog 4 #[.agg T] z (BgP z)) := fun z hz => by rw [hT]; exact begin_any (hx.fresh hz) hB (hb.fresh hz) (hp.fresh hz) n1 n2 bs bl bu ch tr
  have HCA := hidd (fun (z : World) (hz : Below w.heap.size w z) => copyAsk_any (ha.fresh hz) (by omega) y1 y2 y3 y4 y5 y6 y7 y8)
  have HF := hidd (fresh_alloc w (.cells #[.int .i64 x.V, .int .i64 x.W, .int .i64 x.H, .int .i64 x.K, .int .i64 x.L, .int .i64 x.D, .int .i64 x.N, .int .i64 x.M, .int .i64 x.E.R, .int .i64 x.E.C, .slice x.E.O x.E.n x.E.c, .slice x.tO x.tn x.tc, .slice x.yO x.yn x.yc, .slice x.F.O x.F.n x.F.c, .int .i64 x.Q.R, .int .i64 x.Q.C, .slice x.Q.O x.Q.n x.Q.c, .slice x.mO x.mn x.mc, .slice bo d.nb cb, .slice po d.np cp, .int .i64 bs, .int .i64 bl, .int .i64 bu, .int .i64 ch, .int .i64 tr, .slice ao n cap, .int .i64 y1, .int .i64 y2, .int .i64 y3, .int .i64 y4, .int .i64 y5, .int .u64 y6, .int .i64 y7, .string y8, .int .i64 id, .slice ko kn kc] 47))
  have HRU : Hid ((w.alloc (.cells #[.int .i64 x.V, .int .i64 x.W, .int .i64 x.H, .int .i64 x.K, .int .i64 x.L, .int .i64 x.D, .int .i64 x.N, .int .i64 x.M, .int .i64 x.E.R, .int .i64 x.E.C, .slice x.E.O x.E.n x.E.c, .slice x.tO x.tn x.tc, .slice x.yO x.yn x.yc, .slice x.F.O x.F.n x.F.c, .int .i64 x.Q.R, .int .i64 x.Q.C, .slice x.Q.O x.Q.n x.Q.c, .slice x.mO x.mn x.mc, .slice bo d.nb cb, .slice po d.np cp, .int .i64 bs, .int .i64 bl, .int .i64 bu, .int .i64 ch, .int .i64 tr, .slice ao n cap, .int .i64 y1, .int .i64 y2, .int .i64 y3, .int .i64 y4, .int .i64 y5, .int .u64 y6, .int .i64 y7, .string y8, .int .i64 id, .slice ko kn kc] 47)).rowIs w.heap.size 47 36 (fun i => (([.int .i64 x.V, .int .i64 x.W, .int .i64 x.H, .int .i64 x.K, .int .i64 x.L, .int .i64 x.D, .int .i64 x.N, .int .i64 x.M, .int .i64 x.E.R, .int .i64 x.E.C, .slice x.E.O x.E.n x.E.c, .slice x.tO x.tn x.tc, .slice x.yO x.yn x.yc, .slice x.F.O x.F.n x.F.c, .int .i64 x.Q.R, .int .i64 x.Q.C, .slice x.Q.O x.Q.n x.Q.c, .slice x.mO x.mn x.mc, .slice bo d.nb cb, .slice po d.np cp, .int .i64 bs, .int .i64 bl, .int .i64 bu, .int .i64 ch, .int .i64 tr] : List Value) ++ ([.slice ao n cap, .int .i64 y1, .int .i64 y2, .int .i64 y3, .int .i64 y4, .int .i64 y5, .int .u64 y6, .int .i64 y7, .string y8, .int .i64 id, .slice ko kn kc] : List Value)).getD i undef)) := World.rowIs_list w (([.int .i64 x.V, .int .i64 x.W, .int .i64 x.H, .int .i64 x.K, .int .i64 x.L, .int .i64 x.D, .int .i64 x.N, .int .i64 x.M, .int .i64 x.E.R, .int .i64 x.E.C, .slice x.E.O x.E.n x.E.c, .slice x.tO x.tn x.tc, .slice x.yO x.yn x.yc, .slice x.F.O x.F.n x.F.c, .int .i64 x.Q.R, .int .i64 x.Q.C, .slice x.Q.O x.Q.n x.Q.c, .slice x.mO x.mn x.mc, .slice bo d.nb cb, .slice po d.np cp, .int .i64 bs, .int .i64 bl, .int .i64 bu, .int .i64 ch, .int .i64 tr] : List Value) ++ ([.slice ao n cap, .int .i64 y1, .int .i64 y2, .int .i64 y3, .int .i64 y4, .int .i64 y5, .int .u64 y6, .int .i64 y7, .string y8, .int .i64 id, .slice ko kn kc] : List Value)) 47
  have HRG : Hid (∀ z, Below (w.alloc (.cells #[.int .i64 x.V, .int .i64 x.W, .int .i64 x.H, .int .i64 x.K, .int .i64 x.L, .int .i64 x.D, .int .i64 x.N, .int .i64 x.M, .int .i64 x.E.R, .int .i64 x.E.C, .slice x.E.O x.E.n x.E.c, .slice x.tO x.tn x.tc, .slice x.yO x.yn x.yc, .slice x.F.O x.F.n x.F.c, .int .i64 x.Q.R, .int .i64 x.Q.C, .slice x.Q.O x.Q.n x.Q.c, .slice x.mO x.mn x.mc, .slice bo d.nb cb, .slice po d.np cp, .int .i64 bs, .int .i64 bl, .int .i64 bu, .int .i64 ch, .int .i64 tr, .slice ao n cap, .int .i64 y1, .int .i64 y2, .int .i64 y3, .int .i64 y4, .int .i64 y5, .int .u64 y6, .int .i64 y7, .string y8, .int .i64 id, .slice ko kn kc] 47)).heap.size (w.alloc (.cells #[.int .i64 x.V, .int .i64 x.W, .int .i64 x.H, .int .i64 x.K, .int .i64 x.L, .int .i64 x.D, .int .i64 x.N, .int .i64 x.M, .int .i64 x.E.R, .int .i64 x.E.C, .slice x.E.O x.E.n x.E.c, .slice x.tO x.tn x.tc, .slice x.yO x.yn x.yc, .slice x.F.O x.F.n x.F.c, .int .i64 x.Q.R, .int .i64 x.Q.C, .slice x.Q.O x.Q.n x.Q.c, .slice x.mO x.mn x.mc, .slice bo d.nb cb, .slice po d.np cp, .int .i64 bs, .int .i64 bl, .int .i64 bu, .int .i64 ch, .int .i64 tr, .slice ao n cap, .int .i64 y1, .int .i64 y2, .int .i64 y3, .int .i64 y4, .int .i64 y5, .int .u64 y6, .int .i64 y7, .string y8, .int .i64 id, .slice ko kn kc] 47)) z → z.rangeAt w.heap.size 0 T.toList) := fun z hz => by
    rw [hT]
    exact range_head (L1 := [.int .i64 x.V, .int .i64 x.W, .int .i64 x.H, .int .i64 x.K, .int .i64 x.L, .int .i64 x.D, .int .i64 x.N, .int .i64 x.M, .int .i64 x.E.R, .int .i64 x.E.C, .slice x.E.O x.E.n x.E.c, .slice x.tO x.tn x.tc, .slice x.yO x.yn x.yc, .slice x.F.O x.F.n x.F.c, .int .i64 x.Q.R, .int .i64 x.Q.C, .slice x.Q.O x.Q.n x.Q.c, .slice x.mO x.mn x.mc, .slice bo d.nb cb, .slice po d.np cp, .int .i64 bs, .int .i64 bl, .int .i64 bu, .int .i64 ch, .int .i64 tr]) (L2 := [.slice ao n cap, .int .i64 y1, .int .i64 y2, .int .i64 y3, .int .i64 y4, .int .i64 y5, .int .u64 y6, .int .i64 y7, .string y8, .int .i64 id, .slice ko kn kc]) (row_fresh HRU.out hz) (by show 25 ≤ 36; omega)
  have HC : Hid (∀ z, Below (w.alloc (.cells #[.int .i64 x.V, .int .i64 x.W, .int .i64 x.H, .int .i64 x.K, .int .i64 x.L, .int .i64 x.D, .int .i64 x.N, .int .i64 x.M, .int .i64 x.E.R, .int .i64 x.E.C, .slice x.E.O x.E.n x.E.c, .slice x.tO x.tn x.tc, .slice x.yO x.yn x.yc, .slice x.F.O x.F.n x.F.c, .int .i64 x.Q.R, .int .i64 x.Q.C, .slice x.Q.O x.Q.n x.Q.c, .slice x.mO x.mn x.mc, .slice bo d.nb cb, .slice po d.np cp, .int .i64 bs, .int .i64 bl, .int .i64 bu, .int .i64 ch, .int .i64 tr, .slice ao n cap, .int .i64 y1, .int .i64 y2, .int .i64 y3, .int .i64 y4, .int .i64 y5, .int .u64 y6, .int .i64 y7, .string y8, .int .i64 id, .slice ko kn kc] 47)).heap.size (w.alloc (.cells #[.int .i64 x.V, .int .i64 x.W, .int .i64 x.H, .int .i64 x.K, .int .i64 x.L, .int .i64 x.D, .int .i64 x.N, .int .i64 x.M, .int .i64 x.E.R, .int .i64 x.E.C, .slice x.E.O x.E.n x.E.c, .slice x.tO x.tn x.tc, .slice x.yO x.yn x.yc, .slice x.F.O x.F.n x.F.c, .int .i64 x.Q.R, .int .i64 x.Q.C, .slice x.Q.O x.Q.n x.Q.c, .slice x.mO x.mn x.mc, .slice bo d.nb cb, .slice po d.np cp, .int .i64 bs, .int .i64 bl, .int .i64 bu, .int .i64 ch, .int .i64 tr, .slice ao n cap, .int .i64 y1, .int .i64 y2, .int .i64 y3, .int .i64 y4, .int .i64 y5, .int .u64 y6, .int .i64 y7, .string y8, .int .i64 id, .slice ko kn kc] 47)) z → z.cell? ⟨w.heap.size, 25, none⟩ = some (.slice ao n cap) ∧ z.cell? ⟨w.heap.size, 26, none⟩ = some (.int .i64 y1) ∧ z.cell? ⟨w.heap.size, 27, none⟩ = some (.int .i64 y2) ∧ z.cell? ⟨w.heap.size, 28, none⟩ = some (.int .i64 y3) ∧ z.cell? ⟨w.heap.size, 29, none⟩ = some (.int .i64 y4) ∧ z.cell? ⟨w.heap.size, 30, none⟩ = some (.int .i64 y5) ∧ z.cell? ⟨w.heap.size, 31, none⟩ = some (.int .u64 y6) ∧ z.cell? ⟨w.heap.size, 32, none⟩ = some (.int .i64 y7) ∧ z.cell? ⟨w.heap.size, 33, none⟩ = some (.string y8) ∧ z.cell? ⟨w.heap.size, 34, none⟩ = some (.int .i64 id) ∧ z.cell? ⟨w.heap.size, 35, none⟩ = some (.slice ko kn kc)) := fun z hz => ⟨fresh_cell hz (HRU.out.cell (i := 25) (by decide)), fresh_cell hz (HRU.out.cell (i := 26) (by decide)), fresh_cell hz (HRU.out.cell (i := 27) (by decide)), fresh_cell hz (HRU.out.cell (i := 28) (by decide)), fresh_cell hz (HRU.out.cell (i := 29) (by decide)), fresh_cell hz (HRU.out.cell (i := 30) (by decide)), fresh_cell hz (HRU.out.cell (i := 31) (by decide)), fresh_cell hz (HRU.out.cell (i := 32) (by decide)), fresh_cell hz (HRU.out.cell (i := 33) (by decide)), fresh_cell hz (HRU.out.cell (i := 34) (by decide)), fresh_cell hz (HRU.out.cell (i := 35) (by decide))⟩
  clear hx hB hb hp ha hT
  go_enter Tryz.func3, Tryz.ntmps3
  go_upto_region 1 with fail
  generalize w.alloc (.cells #[.int .i64 x.V, .int .i64 x.W, .int .i64 x.H, .int .i64 x.K, .int .i64 x.L, .int .i64 x.D, .int .i64 x.N, .int .i64 x.M, .int .i64 x.E.R, .int .i64 x.E.C, .slice x.E.O x.E.n x.E.c, .slice x.tO x.tn x.tc, .slice x.yO x.yn x.yc, .slice x.F.O x.F.n x.F.c, .int .i64 x.Q.R, .int .i64 x.Q.C, .slice x.Q.O x.Q.n x.Q.c, .slice x.mO x.mn x.mc, .slice bo d.nb cb, .slice po d.np cp, .int .i64 bs, .int .i64 bl, .int .i64 bu, .int .i64 ch, .int .i64 tr, .slice ao n cap, .int .i64 y1, .int .i64 y2, .int .i64 y3, .int .i64 y4, .int .i64 y5, .int .u64 y6, .int .i64 y7, .string y8, .int .i64 id, .slice ko kn kc] 47) = w1 at *
  obtain ⟨gu, HGU⟩ : ∃ g, Hid (g = w.heap.size) := ⟨_, rfl⟩
  rw [← HGU.out] at HRU HC HRG ⊢
  obtain ⟨c25, c26, c27, c28, c29, c30, c31, c32, c33, c34, c35⟩ := HC.out w1 (Below.refl _ _)
  go_upto_region 2 with fail
  clear c25 c26 c27 c28 c29 c30 c31 c32 c33 c34 c35
  have RG := hidd (HRG.out w1 (Below.refl _ _))
  go_wp2_with (refine wpList_load_mid rfl 39 _ rfl gu 0 rfl T.toList _ RG.out Tryz.underlying39 rfl SL.out ?_)
  refine (HBG.out _ HF.out).mono ?_
  rintro e w2 ⟨hb2, p, rfl, hp⟩
  have HB2 := hidd hb2
  have HW2 := hidd (HF.out.trans (hb2.mono HF.out.size))
  have HP := hidd hp
  clear hb2 hp RG HRG HBG SL HRU
  obtain ⟨c25, c26, c27, c28, c29, c30, c31, c32, c33, c34, c35⟩ := HC.out w2 HB2.out
  have HC2 := hidd (HCA.out w2 HW2.out)
  clear HCA
  go_upto_region 5 with (first
    | (go_at_call 6; with_reducible refine HC2.out.mono ?_; rintro e w3 ⟨b0, b1, b2, b3, b4, b5, b6, b7, b8, rfl, hb3⟩)
    | (go_at_call 5; with_reducible refine (submit_nil _ _ _ _ _ _ _ _ _ _).mono ?_; rintro e w4 ⟨rfl, hb4⟩))
  have HB4 := hidd (hb3.trans (hb4.mono hb3.size))
  clear hb3 hb4 HC2 c25 c26 c27 c28 c29 c30 c31 c32 c33 c34 c35
  go_upto_region 7 with (first
    | (go_at_call 7; refine (offer_nil _ _ _).mono ?_; rintro e w5 ⟨rfl, hw⟩; replace hw := hw.symm; subst hw)
    | (go_at_call 8; refine (cancel_nil _ _).mono ?_; rintro e w5 ⟨rfl, hw⟩; replace hw := hw.symm; subst hw))
  go_upto_region 8 with (go_at_call 9; refine (poll_nil _ _).mono ?_; rintro e w5 ⟨rfl, hb5⟩)
  have HB5 := hidd (HB4.out.trans (hb5.mono HB4.out.size))
  have HR5 : Hid ((w5.alloc (.cells #[.int .i64 0, .slice none 0 0] 59)).rowIs w5.heap.size 59 2 (fun i => ([.int .i64 0, .slice none 0 0] : List Value).getD i undef)) := World.rowIs_list w5 [.int .i64 0, .slice none 0 0] 59
  have HB6 := hidd (HB5.out.alloc HB5.out.size (.cells #[.int .i64 0, .slice none 0 0] 59))
  obtain ⟨gs, HGS⟩ : ∃ g, Hid (g = w5.heap.size) := ⟨_, rfl⟩
  rw [← HGS.out] at HR5 ⊢
  generalize w5.alloc (.cells #[.int .i64 0, .slice none 0 0] 59) = w6 at *
  clear hb5 HGS
  go_upto_region 12 with (first
    | (go_at_call 10; refine (cached_nil _ _ _ _).mono ?_; rintro e w5 ⟨rfl, hw⟩; replace hw := hw.symm; subst hw)
    | (go_at_call 11; refine (filled_nil _ _).mono ?_; rintro e w5 ⟨rfl, hw⟩; replace hw := hw.symm; subst hw)
    | (go_at_call 12; refine (blocks_nil _ _).mono ?_; rintro e w5 ⟨rfl, hw⟩; replace hw := hw.symm; subst hw)
    | (go_at_call 13; refine (room_nil _).mono ?_; rintro e w5 ⟨rfl, hw⟩; replace hw := hw.symm; subst hw))
  have HB7 := hidd (HB2.out.trans (HB6.out.mono HB2.out.size))
  obtain ⟨_, _, _, _, _, _, _, _, _, _, c35⟩ := HC.out w6 HB7.out
  go_upto_region 13 with (go_at_call 14; refine (step_nil _ _).mono ?_; rintro e w7 ⟨rfl, hb7⟩)
  have HB8 := hidd (HB6.out.trans (hb7.mono HB6.out.size))
  have HR8 : Hid ((w7.alloc (.cells #[.slice none 0 0, .slice none 0 0, .int .i64 0] 71)).rowIs w7.heap.size 71 3 (fun i => ([.slice none 0 0, .slice none 0 0, .int .i64 0] : List Value).getD i undef)) := World.rowIs_list w7 [.slice none 0 0, .slice none 0 0, .int .i64 0] 71
  have HB9 := hidd (HB8.out.alloc HB8.out.size (.cells #[.slice none 0 0, .slice none 0 0, .int .i64 0] 71))
  have HR9 := hidd ((HR5.out.of_block (hb7.block _ HR5.out.lt)).alloc (.cells #[.slice none 0 0, .slice none 0 0, .int .i64 0] 71))
  obtain ⟨gr, HGR⟩ : ∃ g, Hid (g = w7.heap.size) := ⟨_, rfl⟩
  rw [← HGR.out] at HR8 ⊢
  generalize w7.alloc (.cells #[.slice none 0 0, .slice none 0 0, .int .i64 0] 71) = w8 at *
  clear hb7 HGR HR5 c35
  have t0 : w8.cell? ⟨gs, 0, none⟩ = some (.int .i64 0) := HR9.out.cell (i := 0) (by decide)
  have t1 : w8.cell? ⟨gs, 1, none⟩ = some (.slice none 0 0) := HR9.out.cell (i := 1) (by decide)
  have r0 : w8.cell? ⟨gr, 0, none⟩ = some (.slice none 0 0) := HR8.out.cell (i := 0) (by decide)
  have r1 : w8.cell? ⟨gr, 1, none⟩ = some (.slice none 0 0) := HR8.out.cell (i := 1) (by decide)
  have r2 : w8.cell? ⟨gr, 2, none⟩ = some (.int .i64 0) := HR8.out.cell (i := 2) (by decide)
  go_upto_region 19 with (first
    | (go_at_call 15; refine (live_nil _).mono ?_; rintro e w9 ⟨rfl, hw⟩; replace hw := hw.symm; subst hw)
    | (go_at_call 16; refine (eqRep_nil _).mono ?_; rintro e w9 ⟨rfl, hb9⟩))
  have HBA := hidd (HB9.out.trans (hb9.mono HB9.out.size))
  have HBW := hidd (HW2.out.trans (HBA.out.mono HW2.out.size))
  clear t0 t1 r0 r1 r2
  rcases HP.out with rfl | ⟨P, E, rfl, hP, hE⟩
  · clear HP
    go_wp2
    go_ret
    exact ⟨rfl, HBW.out⟩
  · have q25 := fresh_cell HBA.out hP
    have HL := hidd (live_empty (fresh_cell HBA.out hE))
    clear hP hE HP
    go_wp2_with (go_at_call 15; refine HL.out.mono ?_; rintro e wa ⟨rfl, hba⟩)
    go_ret
    exact ⟨rfl, HBW.out.trans (hba.mono HBW.out.size)⟩
end Go.Proofs.YtmhjpfjhppcfoaaGreatDoor
namespace Go.Proofs.YtmhjpfjhppcfoaaGreatDoor
open Go.ChangeShapes Go.WideShapes Go.ChangeAt Go.RowKit Go.Deep
/-! A nil engine's input, as it came in. -/
theorem add_lit (b off j : Nat) : (⟨b, off, none⟩ : Addr).add j = ⟨b, off + j, none⟩ := by unfold Addr.add; split <;> simp_all
theorem plain_addr {w : World} {a : Addr} {v : Value} (h : w.cell? (a.add 0) = some v) : ∃ b off, a = ⟨b, off, none⟩ := by
  obtain ⟨b, off, sp⟩ := a
  cases sp with
  | none => exact ⟨b, off, rfl⟩
  | some x =>
    have e : (⟨b, off, some x⟩ : Addr).add 0 = ⟨b, off, some x⟩ := by unfold Addr.add; simp
    rw [e] at h
    unfold World.cell? at h
    split at h <;> simp at h
section
variable {H : Type} {enc : TypeId × Value → H} {P : Program} {w : World} {base : Nat} {sp : Nat → Bool} {held : Bool}
theorem open_row {t e : TypeId} {k : IntKind} {fuel : Nat} {v : Value} {x : DataW H × List MemPlace} (ht : P.underlying t = some (.slice e)) (he : P.underlying e = some (.int k)) (hc : P.cellsOf e = 1)
    (h : DataW.trod enc P w base sp held fuel t [v] = some x) :
    ∃ (ao : Option Addr) (n cap : Nat) (f : Nat → Int), v = .slice ao n cap ∧ RdA w ao 1 n cap (fun i => .int k (f i)) ∧ (∀ i, i < n → (Lit.int k (f i)).wf = true) ∧ ((x.1 = .nil ∧ n = 0) ∨ ∃ el rest, x.1 = .slice el rest ∧ el.length = n) := by
  rcases open_ints ht he hc h with ⟨hcs, hx⟩ | ⟨a, len, cap, zs, hcs, _, hl, hm, hz, hx, hcell, hwz⟩
  · simp at hcs
    exact ⟨none, 0, 0, fun _ => 0, hcs, ⟨Nat.le_refl _, Nat.zero_le _, fun h => absurd h (by omega)⟩, fun i hi => absurd hi (by omega), .inl ⟨by rw [hx], rfl⟩⟩
  · simp at hcs
    have hlz : len ≤ zs.length := by rw [hz]; split <;> omega
    refine ⟨some a, len, cap, fun i => zs.getD i 0, hcs, ⟨hl, hm, fun h0 => ?_⟩, fun i hi => ?_, .inr ⟨_, _, by rw [hx], ?_⟩⟩
    · have h1 := hcell 0 (by omega)
      obtain ⟨b, off, rfl⟩ := plain_addr h1
      exact ⟨b, off, rfl, fun j hj => by have := hcell j (by omega); rwa [add_lit] at this⟩
    · apply hwz
      dsimp only
      rw [List.getD_eq_getElem?_getD, List.getElem?_eq_getElem (by omega)]
      exact List.getElem_mem _
    · simp [lits]; omega
theorem open_apairs {t e q : TypeId} {fuel : Nat} {v : Value} {x : DataW H × List MemPlace} (ht : P.underlying t = some (.slice e)) (he : P.underlying e = some (.array 2 q))
    (ce : P.cellsOf e = 2) (hq : P.underlying q = some (.int .i64)) (cq : P.cellsOf q = 1) (h : DataW.trod enc P w base sp held fuel t [v] = some x) :
    ∃ (ao : Option Addr) (n cap : Nat) (C S : Nat → Int), v = .slice ao n cap ∧ RdA w ao 2 n cap (tcs C S) ∧ (∀ i, i < n → (Lit.int .i64 (C i)).wf = true ∧ (Lit.int .i64 (S i)).wf = true) ∧ ((x.1 = .nil ∧ n = 0) ∨ ∃ el rest, x.1 = .slice el rest ∧ el.length = n) := by
  rcases open_slice ht h with ⟨hcs, hx⟩ | ⟨a, len, cap, m, n, D, Pl, hcs, _, hl, hm, hmm, hx, hcell⟩
  · simp at hcs
    exact ⟨none, 0, 0, fun _ => 0, fun _ => 0, hcs, ⟨Nat.le_refl _, Nat.zero_le _, fun h => absurd h (by omega)⟩, fun i hi => absurd hi (by omega), .inl ⟨by rw [hx], rfl⟩⟩
  · simp at hcs
    have hlm : len ≤ m := by rw [hmm]; split <;> omega
    have key : ∀ i, ∃ y : Int × Int, i < m → w.cell? (a.add (i * 2)) = some (.int .i64 y.1) ∧ w.cell? (a.add (i * 2 + 1)) = some (.int .i64 y.2) ∧ (Lit.int .i64 y.1).wf = true ∧ (Lit.int .i64 y.2).wf = true := by
      intro i
      by_cases hi : i < m
      · obtain ⟨cs', h1, h2⟩ := hcell i hi
        rw [ce] at h1
        obtain ⟨_, hlen, hc⟩ := World.cells?_some h1
        obtain ⟨xs, k, _, _, _, hxl, hf⟩ := DataW.trod_array he h2
        match xs, hxl, cs', hlen with
        | [y0, y1], _, [v0, v1], _ =>
          have g0 := hf 0 (by omega)
          have g1 := hf 1 (by omega)
          simp [cq] at g0 g1
          have e0 := hc 0 (by omega)
          have e1 := hc 1 (by omega)
          rw [add_add] at e0 e1
          obtain ⟨z0, q0, _, w0⟩ := DataW.trod_int hq g0
          obtain ⟨z1, q1, _, w1⟩ := DataW.trod_int hq g1
          simp at q0 q1 e0 e1
          rw [q0] at e0
          rw [q1] at e1
          exact ⟨(z0, z1), fun _ => ⟨e0, e1, w0, w1⟩⟩
      · exact ⟨(0, 0), fun h => absurd h hi⟩
    obtain ⟨f, hf⟩ := Classical.axiomOfChoice key
    refine ⟨some a, len, cap, fun i => (f i).1, fun i => (f i).2, hcs, ⟨hl, hm, fun h0 => ?_⟩, fun i hi => (hf i (by omega)).2.2, .inr ⟨_, _, by rw [hx], by simp⟩⟩
    obtain ⟨b, off, rfl⟩ := plain_addr (show w.cell? (a.add 0) = _ from (hf 0 (by omega)).1)
    refine ⟨b, off, rfl, fun j hj => ?_⟩
    obtain ⟨i, rfl | rfl⟩ : ∃ i, j = i * 2 ∨ j = i * 2 + 1 := ⟨j / 2, by omega⟩
    · rw [tcs0, ← (hf i (by omega)).1, add_lit]
    · rw [tcs1, ← (hf i (by omega)).2.1, add_lit]
end
theorem nc_5 : Tryz.prog.cellsOf 5 = 1 := by kernel_rfl
theorem nc_88 : Tryz.prog.cellsOf 88 = 2 := by kernel_rfl
theorem nc_32 : Tryz.prog.cellsOf 32 = 1 := by kernel_rfl
theorem nc_33 : Tryz.prog.cellsOf 33 = 1 := by kernel_rfl
theorem nc_35 : Tryz.prog.cellsOf 35 = 2 := by kernel_rfl
theorem nc_37 : Tryz.prog.cellsOf 37 = 5 := by kernel_rfl
theorem nc_39 : Tryz.prog.cellsOf 39 = 25 := by kernel_rfl
theorem nc_45 : Tryz.prog.cellsOf 45 = 9 := by kernel_rfl
theorem nc_43 : Tryz.prog.cellsOf 43 = 5 := by kernel_rfl
theorem nc_9 : Tryz.prog.cellsOf 9 = 1 := by kernel_rfl
theorem nc_41 : Tryz.prog.cellsOf 41 = 1 := by kernel_rfl
theorem nc_40 : Tryz.prog.cellsOf 40 = 1 := by kernel_rfl
theorem nc_47 : Tryz.prog.cellsOf 47 = 36 := by kernel_rfl
theorem bulk_len {H : Type} {d : DataW H} {n : Nat} (h : (d = .nil ∧ n = 0) ∨ ∃ el rest, d = .slice el rest ∧ el.length = n) : n ≤ Rows.uptoBulk d := by
  rcases h with ⟨_, e⟩ | ⟨el, rest, rfl, e⟩
  · omega
  · exact bulk_sl e
theorem parts1 {α : Type} {l : List α} (h : l.length = 1) : ∃ c0, l = [c0] :=
  match l, h with
  | [c0], _ => ⟨c0, rfl⟩
theorem parts5 {α : Type} {l : List α} (h : l.length = 5) : ∃ c0 c1 c2 c3 c4, l = [c0, c1, c2, c3, c4] :=
  match l, h with
  | [c0, c1, c2, c3, c4], _ => ⟨c0, c1, c2, c3, c4, rfl⟩
theorem parts9 {α : Type} {l : List α} (h : l.length = 9) : ∃ c0 c1 c2 c3 c4 c5 c6 c7 c8, l = [c0, c1, c2, c3, c4, c5, c6, c7, c8] :=
  match l, h with
  | [c0, c1, c2, c3, c4, c5, c6, c7, c8], _ => ⟨c0, c1, c2, c3, c4, c5, c6, c7, c8, rfl⟩
theorem drop_split {α : Type} (l : List α) (a b : Nat) : l.drop a = (l.drop a).take b ++ l.drop (a + b) := by
  rw [← List.drop_drop, List.take_append_drop]
section
variable {H : Type} {enc : TypeId × Value → H} {w : World} {base : Nat} {sp : Nat → Bool} {held : Bool}
theorem open_serve {fuel : Nat} {cs : List Value} {x : DataW H × List MemPlace} (h : DataW.trod enc Tryz.prog w base sp held fuel 37 cs = some x) : ∃ bs bl bu ch tr : Int, cs = [.int .i64 bs, .int .i64 bl, .int .i64 bu, .int .i64 ch, .int .i64 tr] := by
  obtain ⟨ys, n, rfl, rfl, hl, hlen, hf⟩ := DataW.trod_struct Tryz.underlying37 h
  have e0 : DataW.trod enc Tryz.prog w base sp held n 3 ((cs.drop 0).take (Tryz.prog.cellsOf 3)) = ys[0]? := hf 0 _ rfl
  have e1 : DataW.trod enc Tryz.prog w base sp held n 3 ((cs.drop 1).take (Tryz.prog.cellsOf 3)) = ys[1]? := hf 1 _ rfl
  have e2 : DataW.trod enc Tryz.prog w base sp held n 3 ((cs.drop 2).take (Tryz.prog.cellsOf 3)) = ys[2]? := hf 2 _ rfl
  have e3 : DataW.trod enc Tryz.prog w base sp held n 3 ((cs.drop 3).take (Tryz.prog.cellsOf 3)) = ys[3]? := hf 3 _ rfl
  have e4 : DataW.trod enc Tryz.prog w base sp held n 3 ((cs.drop 4).take (Tryz.prog.cellsOf 3)) = ys[4]? := hf 4 _ rfl
  rw [nc_37] at hl
  rw [nc_3] at e0
  rw [nc_3] at e1
  rw [nc_3] at e2
  rw [nc_3] at e3
  rw [nc_3] at e4
  obtain ⟨c0, c1, c2, c3, c4, rfl⟩ := parts5 hl
  replace e0 : DataW.trod enc Tryz.prog w base sp held n 3 [c0] = ys[0]? := e0
  replace e1 : DataW.trod enc Tryz.prog w base sp held n 3 [c1] = ys[1]? := e1
  replace e2 : DataW.trod enc Tryz.prog w base sp held n 3 [c2] = ys[2]? := e2
  replace e3 : DataW.trod enc Tryz.prog w base sp held n 3 [c3] = ys[3]? := e3
  replace e4 : DataW.trod enc Tryz.prog w base sp held n 3 [c4] = ys[4]? := e4
  obtain ⟨_, e0, _⟩ := some_of hlen (by decide) e0
  obtain ⟨_, e1, _⟩ := some_of hlen (by decide) e1
  obtain ⟨_, e2, _⟩ := some_of hlen (by decide) e2
  obtain ⟨_, e3, _⟩ := some_of hlen (by decide) e3
  obtain ⟨_, e4, _⟩ := some_of hlen (by decide) e4
  obtain ⟨n0, q0, _, _⟩ := DataW.trod_int Tryz.underlying3 e0
  obtain ⟨n1, q1, _, _⟩ := DataW.trod_int Tryz.underlying3 e1
  obtain ⟨n2, q2, _, _⟩ := DataW.trod_int Tryz.underlying3 e2
  obtain ⟨n3, q3, _, _⟩ := DataW.trod_int Tryz.underlying3 e3
  obtain ⟨n4, q4, _, _⟩ := DataW.trod_int Tryz.underlying3 e4
  simp only [List.cons.injEq, and_true] at q0 q1 q2 q3 q4
  subst q0 q1 q2 q3 q4
  exact ⟨n0, n1, n2, n3, n4, rfl⟩
theorem open_params {fuel : Nat} {cs : List Value} {x : DataW H × List MemPlace} (h : DataW.trod enc Tryz.prog w base sp held fuel 43 cs = some x) : ∃ bs bl bu ch tr : Int, cs = [.int .i64 bs, .int .i64 bl, .int .i64 bu, .int .i64 ch, .int .u64 tr] := by
  obtain ⟨ys, n, rfl, rfl, hl, hlen, hf⟩ := DataW.trod_struct Tryz.underlying43 h
  have e0 : DataW.trod enc Tryz.prog w base sp held n 3 ((cs.drop 0).take (Tryz.prog.cellsOf 3)) = ys[0]? := hf 0 _ rfl
  have e1 : DataW.trod enc Tryz.prog w base sp held n 3 ((cs.drop 1).take (Tryz.prog.cellsOf 3)) = ys[1]? := hf 1 _ rfl
  have e2 : DataW.trod enc Tryz.prog w base sp held n 3 ((cs.drop 2).take (Tryz.prog.cellsOf 3)) = ys[2]? := hf 2 _ rfl
  have e3 : DataW.trod enc Tryz.prog w base sp held n 3 ((cs.drop 3).take (Tryz.prog.cellsOf 3)) = ys[3]? := hf 3 _ rfl
  have e4 : DataW.trod enc Tryz.prog w base sp held n 41 ((cs.drop 4).take (Tryz.prog.cellsOf 41)) = ys[4]? := hf 4 _ rfl
  rw [nc_43] at hl
  rw [nc_3] at e0
  rw [nc_3] at e1
  rw [nc_3] at e2
  rw [nc_3] at e3
  rw [nc_41] at e4
  obtain ⟨c0, c1, c2, c3, c4, rfl⟩ := parts5 hl
  replace e0 : DataW.trod enc Tryz.prog w base sp held n 3 [c0] = ys[0]? := e0
  replace e1 : DataW.trod enc Tryz.prog w base sp held n 3 [c1] = ys[1]? := e1
  replace e2 : DataW.trod enc Tryz.prog w base sp held n 3 [c2] = ys[2]? := e2
  replace e3 : DataW.trod enc Tryz.prog w base sp held n 3 [c3] = ys[3]? := e3
  replace e4 : DataW.trod enc Tryz.prog w base sp held n 41 [c4] = ys[4]? := e4
  obtain ⟨_, e0, _⟩ := some_of hlen (by decide) e0
  obtain ⟨_, e1, _⟩ := some_of hlen (by decide) e1
  obtain ⟨_, e2, _⟩ := some_of hlen (by decide) e2
  obtain ⟨_, e3, _⟩ := some_of hlen (by decide) e3
  obtain ⟨_, e4, _⟩ := some_of hlen (by decide) e4
  obtain ⟨n0, q0, _, _⟩ := DataW.trod_int Tryz.underlying3 e0
  obtain ⟨n1, q1, _, _⟩ := DataW.trod_int Tryz.underlying3 e1
  obtain ⟨n2, q2, _, _⟩ := DataW.trod_int Tryz.underlying3 e2
  obtain ⟨n3, q3, _, _⟩ := DataW.trod_int Tryz.underlying3 e3
  obtain ⟨n4, q4, _, _⟩ := DataW.trod_int Tryz.underlying41 e4
  simp only [List.cons.injEq, and_true] at q0 q1 q2 q3 q4
  subst q0 q1 q2 q3 q4
  exact ⟨n0, n1, n2, n3, n4, rfl⟩
theorem open_vocab {fuel : Nat} {cs : List Value} {x : DataW H × List MemPlace} (h : DataW.trod enc Tryz.prog w base sp held fuel 35 cs = some x) : ∃ (d : VD) (bo po : Option Addr) (cb cp : Nat), cs = [.slice bo d.nb cb, .slice po d.np cp] ∧ RdA w bo 1 d.nb cb (fun i => .int .u8 (d.B i)) ∧ RdA w po 2 d.np cp (tcs d.P d.Q) ∧ d.nb ≤ Rows.uptoBulk x.1 ∧ d.np ≤ Rows.uptoBulk x.1 := by
  obtain ⟨ys, n, rfl, rfl, hl, hlen, hf⟩ := DataW.trod_struct Tryz.underlying35 h
  have e0 : DataW.trod enc Tryz.prog w base sp held n 32 ((cs.drop 0).take (Tryz.prog.cellsOf 32)) = ys[0]? := hf 0 _ rfl
  have e1 : DataW.trod enc Tryz.prog w base sp held n 33 ((cs.drop 1).take (Tryz.prog.cellsOf 33)) = ys[1]? := hf 1 _ rfl
  rw [nc_35] at hl
  rw [nc_32] at e0
  rw [nc_33] at e1
  obtain ⟨c0, c1, rfl⟩ := parts2 hl
  replace e0 : DataW.trod enc Tryz.prog w base sp held n 32 [c0] = ys[0]? := e0
  replace e1 : DataW.trod enc Tryz.prog w base sp held n 33 [c1] = ys[1]? := e1
  obtain ⟨y0, e0, k0⟩ := some_of hlen (by decide) e0
  obtain ⟨y1, e1, k1⟩ := some_of hlen (by decide) e1
  obtain ⟨bo, nb, cb, f, rfl, hr, _, hs⟩ := open_row Tryz.underlying32 Tryz.underlying5 nc_5 e0
  obtain ⟨po, np, cp, C, S, rfl, hr2, _, hs2⟩ := open_apairs Tryz.underlying33 Tryz.underlying88 nc_88 Tryz.underlying3 nc_3 e1
  exact ⟨⟨nb, np, f, C, S⟩, bo, po, cb, cp, rfl, hr, hr2, Nat.le_trans (bulk_len hs) (bulk_ag k0), Nat.le_trans (bulk_len hs2) (bulk_ag k1)⟩
theorem open_ask {fuel : Nat} {cs : List Value} {x : DataW H × List MemPlace} (h : DataW.trod enc Tryz.prog w base sp held fuel 45 cs = some x) : ∃ (ao : Option Addr) (m cap : Nat) (f : Nat → Int) (y1 y2 y3 y4 y5 y6 y7 : Int) (y8 : ByteArray), cs = [.slice ao m cap, .int .i64 y1, .int .i64 y2, .int .i64 y3, .int .i64 y4, .int .i64 y5, .int .u64 y6, .int .i64 y7, .string y8] ∧ RdA w ao 1 m cap (fun i => .int .i64 (f i)) ∧ m ≤ Rows.uptoBulk x.1 := by
  obtain ⟨ys, n, rfl, rfl, hl, hlen, hf⟩ := DataW.trod_struct Tryz.underlying45 h
  have e0 : DataW.trod enc Tryz.prog w base sp held n 40 ((cs.drop 0).take (Tryz.prog.cellsOf 40)) = ys[0]? := hf 0 _ rfl
  have e1 : DataW.trod enc Tryz.prog w base sp held n 3 ((cs.drop 1).take (Tryz.prog.cellsOf 3)) = ys[1]? := hf 1 _ rfl
  have e2 : DataW.trod enc Tryz.prog w base sp held n 43 ((cs.drop 2).take (Tryz.prog.cellsOf 43)) = ys[2]? := hf 2 _ rfl
  have e3 : DataW.trod enc Tryz.prog w base sp held n 3 ((cs.drop 7).take (Tryz.prog.cellsOf 3)) = ys[3]? := hf 3 _ rfl
  have e4 : DataW.trod enc Tryz.prog w base sp held n 9 ((cs.drop 8).take (Tryz.prog.cellsOf 9)) = ys[4]? := hf 4 _ rfl
  rw [nc_45] at hl
  rw [nc_40] at e0
  rw [nc_3] at e1
  rw [nc_43] at e2
  rw [nc_3] at e3
  rw [nc_9] at e4
  obtain ⟨c0, c1, c2, c3, c4, c5, c6, c7, c8, rfl⟩ := parts9 hl
  replace e0 : DataW.trod enc Tryz.prog w base sp held n 40 [c0] = ys[0]? := e0
  replace e1 : DataW.trod enc Tryz.prog w base sp held n 3 [c1] = ys[1]? := e1
  replace e2 : DataW.trod enc Tryz.prog w base sp held n 43 [c2, c3, c4, c5, c6] = ys[2]? := e2
  replace e3 : DataW.trod enc Tryz.prog w base sp held n 3 [c7] = ys[3]? := e3
  replace e4 : DataW.trod enc Tryz.prog w base sp held n 9 [c8] = ys[4]? := e4
  obtain ⟨y0, e0, k0⟩ := some_of hlen (by decide) e0
  obtain ⟨_, e1, _⟩ := some_of hlen (by decide) e1
  obtain ⟨_, e2, _⟩ := some_of hlen (by decide) e2
  obtain ⟨_, e3, _⟩ := some_of hlen (by decide) e3
  obtain ⟨_, e4, _⟩ := some_of hlen (by decide) e4
  obtain ⟨ao, m, cap, f, rfl, hr, _, hs⟩ := open_row Tryz.underlying40 Tryz.underlying3 nc_3 e0
  obtain ⟨n1, q1, _, _⟩ := DataW.trod_int Tryz.underlying3 e1
  obtain ⟨p0, p1, p2, p3, p4, q2⟩ := open_params e2
  obtain ⟨n3, q3, _, _⟩ := DataW.trod_int Tryz.underlying3 e3
  obtain ⟨s, q4, _⟩ := DataW.trod_string Tryz.underlying9 e4
  simp only [List.cons.injEq, and_true] at q1 q2 q3 q4
  obtain ⟨r0, r1, r2, r3, r4⟩ := q2
  subst q1 r0 r1 r2 r3 r4 q3 q4
  exact ⟨ao, m, cap, f, n1, p0, p1, p2, p3, p4, n3, s, rfl, hr, Nat.le_trans (bulk_len hs) (bulk_ag k0)⟩
theorem open_setup {fuel : Nat} {cs : List Value} {x : DataW H × List MemPlace} (h : DataW.trod enc Tryz.prog w base sp held fuel 39 cs = some x) : ∃ (X : WtD) (d : VD) (bo po : Option Addr) (cb cp : Nat) (bs bl bu ch tr : Int), cs = wtL X ++ [.slice bo d.nb cb, .slice po d.np cp, .int .i64 bs, .int .i64 bl, .int .i64 bu, .int .i64 ch, .int .i64 tr] ∧ WtR w X ∧ (Rows.uptoBulk x.1 ≤ 1048576 → WtB X) ∧ RdA w bo 1 d.nb cb (fun i => .int .u8 (d.B i)) ∧ RdA w po 2 d.np cp (tcs d.P d.Q) ∧ d.nb ≤ Rows.uptoBulk x.1 ∧ d.np ≤ Rows.uptoBulk x.1 := by
  obtain ⟨ys, n, rfl, rfl, hl, hlen, hf⟩ := DataW.trod_struct Tryz.underlying39 h
  have e0 : DataW.trod enc Tryz.prog w base sp held n 31 ((cs.drop 0).take (Tryz.prog.cellsOf 31)) = ys[0]? := hf 0 _ rfl
  have e1 : DataW.trod enc Tryz.prog w base sp held n 35 ((cs.drop 18).take (Tryz.prog.cellsOf 35)) = ys[1]? := hf 1 _ rfl
  have e2 : DataW.trod enc Tryz.prog w base sp held n 37 ((cs.drop 20).take (Tryz.prog.cellsOf 37)) = ys[2]? := hf 2 _ rfl
  rw [nc_39] at hl
  rw [nc_31] at e0
  rw [nc_35] at e1
  rw [nc_37] at e2
  obtain ⟨y0, e0, k0⟩ := some_of hlen (by decide) e0
  obtain ⟨y1, e1, k1⟩ := some_of hlen (by decide) e1
  obtain ⟨y2, e2, k2⟩ := some_of hlen (by decide) e2
  obtain ⟨X, q0, hX, hXB⟩ := open_wt e0
  obtain ⟨d, bo, po, cb, cp, q1, hb, hp, hn1, hn2⟩ := open_vocab e1
  obtain ⟨bs, bl, bu, ch, tr, q2⟩ := open_serve e2
  have hcs : cs = wtL X ++ [.slice bo d.nb cb, .slice po d.np cp, .int .i64 bs, .int .i64 bl, .int .i64 bu, .int .i64 ch, .int .i64 tr] := by
    have s0 := drop_split cs 0 18
    have s1 := drop_split cs 18 2
    have s2 := drop_split cs 20 5
    have s3 : cs.drop 25 = [] := List.drop_of_length_le (by omega)
    rw [q2] at s2
    rw [s2, s3, q1] at s1
    rw [s1, q0] at s0
    simpa using s0
  exact ⟨X, d, bo, po, cb, cp, bs, bl, bu, ch, tr, hcs, hX, fun hh => hXB (Nat.le_trans (bulk_ag k0) hh), hb, hp, Nat.le_trans hn1 (bulk_ag k1), Nat.le_trans hn2 (bulk_ag k1)⟩
theorem open_lone {fuel : Nat} {cs : List Value} {x : DataW H × List MemPlace} (h : DataW.trod enc Tryz.prog w base sp held fuel 47 cs = some x) : ∃ (X : WtD) (d : VD) (bo po : Option Addr) (cb cp : Nat) (bs bl bu ch tr : Int) (ao : Option Addr) (m cap : Nat) (f : Nat → Int) (y1 y2 y3 y4 y5 y6 y7 : Int) (y8 : ByteArray) (id : Int) (ko : Option Addr) (kn kc : Nat), cs = (wtL X ++ [.slice bo d.nb cb, .slice po d.np cp, .int .i64 bs, .int .i64 bl, .int .i64 bu, .int .i64 ch, .int .i64 tr]) ++ [.slice ao m cap, .int .i64 y1, .int .i64 y2, .int .i64 y3, .int .i64 y4, .int .i64 y5, .int .u64 y6, .int .i64 y7, .string y8, .int .i64 id, .slice ko kn kc] ∧ WtR w X ∧ (Rows.uptoBulk x.1 ≤ 1048576 → WtB X) ∧ RdA w bo 1 d.nb cb (fun i => .int .u8 (d.B i)) ∧ RdA w po 2 d.np cp (tcs d.P d.Q) ∧ d.nb ≤ Rows.uptoBulk x.1 ∧ d.np ≤ Rows.uptoBulk x.1 ∧ RdA w ao 1 m cap (fun i => .int .i64 (f i)) ∧ m ≤ Rows.uptoBulk x.1 := by
  obtain ⟨ys, n, rfl, rfl, hl, hlen, hf⟩ := DataW.trod_struct Tryz.underlying47 h
  have e0 : DataW.trod enc Tryz.prog w base sp held n 39 ((cs.drop 0).take (Tryz.prog.cellsOf 39)) = ys[0]? := hf 0 _ rfl
  have e1 : DataW.trod enc Tryz.prog w base sp held n 45 ((cs.drop 25).take (Tryz.prog.cellsOf 45)) = ys[1]? := hf 1 _ rfl
  have e2 : DataW.trod enc Tryz.prog w base sp held n 3 ((cs.drop 34).take (Tryz.prog.cellsOf 3)) = ys[2]? := hf 2 _ rfl
  have e3 : DataW.trod enc Tryz.prog w base sp held n 40 ((cs.drop 35).take (Tryz.prog.cellsOf 40)) = ys[3]? := hf 3 _ rfl
  rw [nc_47] at hl
  rw [nc_39] at e0
  rw [nc_45] at e1
  rw [nc_3] at e2
  rw [nc_40] at e3
  obtain ⟨y0, e0, k0⟩ := some_of hlen (by decide) e0
  obtain ⟨y1, e1, k1⟩ := some_of hlen (by decide) e1
  obtain ⟨y2, e2, k2⟩ := some_of hlen (by decide) e2
  obtain ⟨y3, e3, k3⟩ := some_of hlen (by decide) e3
  obtain ⟨X, d, bo, po, cb, cp, bs, bl, bu, ch, tr, q0, hX, hXB, hb, hp, hn1, hn2⟩ := open_setup e0
  obtain ⟨ao, m, cap, f, a1, a2, a3, a4, a5, a6, a7, a8, q1, ha, hm⟩ := open_ask e1
  obtain ⟨id, q2, _, _⟩ := DataW.trod_int Tryz.underlying3 e2
  have s0 := drop_split cs 0 25
  have s1 := drop_split cs 25 9
  have s2 := drop_split cs 34 1
  have s3 := drop_split cs 35 1
  have s4 : cs.drop 36 = [] := List.drop_of_length_le (by omega)
  obtain ⟨v3, hv3⟩ : ∃ v3, (cs.drop 35).take 1 = [v3] := by
    have hl1 : ((cs.drop 35).take 1).length = 1 := by simp; omega
    exact parts1 hl1
  rw [hv3] at e3
  obtain ⟨ko, kn, kc, f3, rfl, _, _, _⟩ := open_row Tryz.underlying40 Tryz.underlying3 nc_3 e3
  have hcs : cs = (wtL X ++ [.slice bo d.nb cb, .slice po d.np cp, .int .i64 bs, .int .i64 bl, .int .i64 bu, .int .i64 ch, .int .i64 tr]) ++ [.slice ao m cap, .int .i64 a1, .int .i64 a2, .int .i64 a3, .int .i64 a4, .int .i64 a5, .int .u64 a6, .int .i64 a7, .string a8, .int .i64 id, .slice ko kn kc] := by
    rw [hv3, s4] at s3
    rw [s3, q2] at s2
    rw [s2, q1] at s1
    rw [s1, q0] at s0
    simpa using s0
  exact ⟨X, d, bo, po, cb, cp, bs, bl, bu, ch, tr, ao, m, cap, f, a1, a2, a3, a4, a5, a6, a7, a8, id, ko, kn, kc, hcs, hX, fun hh => hXB (Nat.le_trans (bulk_ag k0) hh), hb, hp, Nat.le_trans hn1 (bulk_ag k0), Nat.le_trans hn2 (bulk_ag k0), ha, Nat.le_trans hm (bulk_ag k1)⟩
set_option maxRecDepth 100000 in
theorem engineNil_walk {r : Reach} {b0 : Nat} {v0 : Value} {d0 : DataW H} {ps0 : List MemPlace} (W : World)
    (hval0 : Value.okWide Tryz.prog W r b0 47 v0) (h0 : DataW.Trod enc Tryz.prog W base sp held 47 v0 d0 ps0) (hb : Rows.uptoBulkAll [d0] ≤ 1048576) :
    Calls Tryz.prog 3 #[v0] W fun e w' => e = .returned (.bool true) ∧ Below W.heap.size W w' := by
  obtain ⟨cs, rfl, _⟩ := okWide_struct Tryz.underlying47 hval0
  obtain ⟨fuel, hd⟩ := h0
  obtain ⟨X, d, bo, po, cb, cp, bs, bl, bu, ch, tr, ao, m, cap, f, a1, a2, a3, a4, a5, a6, a7, a8, id, ko, kn, kc, hcs, hX, hXB, hbb, hpp, hn1, hn2, ha, hm⟩ := open_lone hd
  have hB : Rows.uptoBulk d0 ≤ 1048576 := Nat.le_trans (bulk_mem (by simp)) hb
  obtain rfl : cs = ((wtL X ++ ([.slice bo d.nb cb, .slice po d.np cp, .int .i64 bs, .int .i64 bl, .int .i64 bu, .int .i64 ch, .int .i64 tr] : List Value)) ++ ([.slice ao m cap, .int .i64 a1, .int .i64 a2, .int .i64 a3, .int .i64 a4, .int .i64 a5, .int .u64 a6, .int .i64 a7, .string a8, .int .i64 id, .slice ko kn kc] : List Value)).toArray := Array.ext' hcs
  exact nil_law hX (hXB hB) hbb hpp (Nat.le_trans hn1 hB) (Nat.le_trans hn2 hB) bs bl bu ch tr ha (Nat.le_trans hm hB) a1 a2 a3 a4 a5 a6 a7 a8 id ko kn kc
end
end Go.Proofs.YtmhjpfjhppcfoaaGreatDoor
