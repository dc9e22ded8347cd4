import Derived.Test.YtjjfbpjejhjdiabDoorRkH
import Derived.Deep.DeepCutAuto
namespace Go.Proofs.YtjjfbpjejhjdiabDoor
open Go.RowKit
/-! PickLists: the law. -/
theorem Own.set {w : World} {base : Nat} {e : TypeId} {sz : Nat} {v : Value} {n : Nat} {cs : Nat → Value} (h : Own w base e sz v n cs) {g j : Nat} {x : Value} (hg : v.ownBlock ≠ some g) : Own (w.setCell ⟨g, j, none⟩ x) base e sz v n cs := by
  refine ⟨h.1, ?_⟩
  rcases h.2 with hn | ⟨k, cap, cur, rfl, hb, hgg, rest⟩
  · exact .inl hn
  · refine .inr ⟨k, cap, cur, rfl, hb, ?_, rest⟩
    have hk : k ≠ g := fun e => hg (by simp [Value.ownBlock, e])
    rw [Below.heap_setCell _ _ _ _ hk]; exact hgg
set_option maxRecDepth 20000 in
set_option maxHeartbeats 1600000 in
theorem copyW_any {w : World} {ao : Option Addr} {n cap : Nat} {f : Nat → Int} (h : RdA w ao 1 n cap (fun i => .int .i64 (f i))) (hn : n ≤ 17592186043904) :
    Calls Tryd.prog 14 #[.slice ao n cap] w fun e w' => ∃ u uc, e = .returned (.slice u n uc) ∧ Own w' w.heap.size 2 1 (.slice u n uc) n (fun i => .int .i64 (f i)) ∧ Below w.heap.size w w' := by
  have hn2 : n ≤ 9223372036854775807 := by omega
  go_enter Tryd.func14, Tryd.ntmps14
  go_wp2
  go_loopw [3, 4] (fun v i wr => ∃ k : Nat, k ≤ n ∧ i = .int .i64 k ∧ Own wr w.heap.size 2 1 v k (fun j => .int .i64 (f j)) ∧ Below w.heap.size w wr) (fun _ i _ => n - (intOf i).toNat)
  case atStart => exact ⟨0, by omega, rfl, own_nil _ _ _ _ _, Below.refl _ _⟩
  case round =>
    obtain ⟨k, hk, rfl, hown, hf⟩ := hrel
    have hsz := hf.size
    by_cases hlt : k < n
    · obtain ⟨b1, o1, rfl, h1⟩ := (h.fresh hf).one (by omega)
      have d := h1 k hlt
      have hle := h.le
      have HX : Hid (∀ (w0 : World) (t : TypeId), (w0.alloc (.cells #[.int .i64 (f k)] t)).cell? ⟨w0.heap.size, 0, none⟩ = some ((fun j => Value.int .i64 (f j)) k)) := fun w0 t => new_cell _ _ _
      clear h1
      generalize f k = y at d HX
      go_wp2_with (at_builtin; refine wpList_app1 _ rfl _ _ 25 rfl w.heap.size 2 (.int .i64 0) 8 Tryd.underlying25 infoW rfl _ k (fun j => .int .i64 (f j)) rfl (hown.kept (fresh_alloc _ _)) _ 1 rfl (HX.out _ _) rfl (by omega) (by omega) (by simp; omega) ?_)
      intro v' w1 hown' happ
      have hf1 := happ.below (hf.alloc hsz _) (hown.kept (fresh_alloc _ _)) (Nat.le_refl _) (by simp; omega)
      clear happ hown
      go_wp2
      go_roundw
      case rel => exact ⟨k + 1, by omega, by go_num, hown', hf1⟩
      case measure => simp [intOf]; omega
    · obtain rfl : k = n := by omega
      obtain ⟨u, uc, rfl, hu⟩ := hown.rd
      go_wp2
      go_ret
      exact ⟨u, uc, rfl, hown, hf⟩
/-- a list that is written full and grown, another that stays, over a world -/
structure LS (w2 wr : World) (v : Value) (nn : Nat) (ub : Option Addr) (cb : Nat) (L : List (Int × Int)) : Prop where
  own : ∃ F, Own wr w2.heap.size 36 2 v nn F
  oth : PL wr w2.heap.size ub cb L
  off : Off v (.slice ub L.length cb)
  low : Below w2.heap.size w2 wr
theorem LS.put {w2 wr : World} {g nn c : Nat} {ub : Option Addr} {cb : Nat} {L : List (Int × Int)} (h : LS w2 wr (.slice (some ⟨g, 0, none⟩) nn c) nn ub cb L) (j : Nat) (x : Value) : LS w2 (wr.setCell ⟨g, j, none⟩ x) (.slice (some ⟨g, 0, none⟩) nn c) nn ub cb L := by
  obtain ⟨F, ho⟩ := h.own
  have hb : w2.heap.size ≤ g := (ho.lt g (by simp [Value.ownBlock])).1
  exact ⟨⟨_, ho.put j x⟩, Own.set h.oth (fun e => h.off g (by simp [Value.ownBlock]) e), h.off, h.low.setCell hb _⟩
theorem LS.cells {w2 wr : World} {u : Option Addr} {nn c : Nat} {ub : Option Addr} {cb : Nat} {L : List (Int × Int)} (h : LS w2 wr (.slice u nn c) nn ub cb L) {k : Nat} (hk : k < nn) : ∃ g x y, u = some ⟨g, 0, none⟩ ∧ wr.cell? ⟨g, k * 2, none⟩ = some x ∧ wr.cell? ⟨g, k * 2 + 1, none⟩ = some y ∧ ∀ j, wr.frozen? ⟨g, j, none⟩ = false := by
  obtain ⟨F, ho⟩ := h.own
  obtain ⟨g, rfl, h1, h2, h3, h4⟩ := Own.at_ ho (by omega)
  exact ⟨g, _, _, rfl, h3 _ (by omega), h3 _ (by omega), h4⟩
theorem LS.app {w2 wr w9 : World} {v v9 : Value} {nn n9 : Nat} {ub : Option Addr} {cb : Nat} {L : List (Int × Int)} (h : LS w2 wr v nn ub cb L) {F : Nat → Value} (h9 : Own w9 w2.heap.size 36 2 v9 n9 F) (ha : App wr w9 v v9) : LS w2 w9 v9 n9 ub cb L := by
  obtain ⟨F0, ho⟩ := h.own
  exact ⟨⟨_, h9⟩, ha.own h.oth h.off, ha.off h.oth h.off, ha.below h.low ho (Nat.le_refl _) h.low.size⟩
theorem LS.alloc {w2 wr : World} {v : Value} {nn : Nat} {ub : Option Addr} {cb : Nat} {L : List (Int × Int)} (h : LS w2 wr v nn ub cb L) (o : Obj) : LS w2 (wr.alloc o) v nn ub cb L := by
  obtain ⟨F0, ho⟩ := h.own
  exact ⟨⟨_, ho.kept (fresh_alloc _ _)⟩, h.oth.kept (fresh_alloc _ _), h.off, h.low.alloc h.low.size _⟩
theorem LS.ownE {w2 wr : World} {v : Value} {nn : Nat} {ub : Option Addr} {cb : Nat} {L : List (Int × Int)} (h : LS w2 wr v nn ub cb L) (x y : Value) (hx : x.oneCell' = true) (hy : y.oneCell' = true) : ∃ F, Own wr w2.heap.size 36 2 v nn F ∧ (∀ i, i < 1 * 2 → (F (nn * 2 + i)).oneCell' = true) ∧ ∀ (w0 : World) (ty : TypeId) (i : Nat), i < 1 * 2 → (w0.alloc (.cells #[x, y] ty)).cell? ⟨w0.heap.size, i, none⟩ = some (F (nn * 2 + i)) := by
  obtain ⟨F0, ho⟩ := h.own
  have e0 : (fun j => if j < nn * 2 then F0 j else if j = nn * 2 then x else y) (nn * 2 + 0) = x := by simp
  have e1 : (fun j => if j < nn * 2 then F0 j else if j = nn * 2 then x else y) (nn * 2 + 1) = y := by
    show (if nn * 2 + 1 < nn * 2 then _ else _) = _
    rw [if_neg (by omega), if_neg (by omega)]
  refine ⟨fun j => if j < nn * 2 then F0 j else if j = nn * 2 then x else y, ho.congr (fun j hj => by rw [if_pos hj]), fun i hi => ?_, fun w0 ty i hi => ?_⟩
  · match i, hi with
    | 0, _ => rw [e0]; exact hx
    | 1, _ => rw [e1]; exact hy
  · match i, hi with
    | 0, _ => rw [e0]; simp
    | 1, _ => rw [e1]; simp
/-- a list of wide numbers of one's own -/
structure XS (w5 wr : World) (u : Option Addr) (n c : Nat) (f : Nat → Int) : Prop where
  own : Own wr w5.heap.size 2 1 (.slice u n c) n (fun i => .int .i64 (f i))
  bd : ∀ i, i < n → -9223372036854775808 ≤ f i ∧ f i ≤ 9223372036854775807
  low : Below w5.heap.size w5 wr
theorem XS.cells {w5 wr : World} {u : Option Addr} {n c : Nat} {f : Nat → Int} (h : XS w5 wr u n c f) (hn : 0 < n) : ∃ g, u = some ⟨g, 0, none⟩ ∧ (∀ k, k < n → wr.cell? ⟨g, k, none⟩ = some (.int .i64 (f k))) ∧ ∀ j, wr.frozen? ⟨g, j, none⟩ = false := by
  obtain ⟨g, rfl, h1, h2, h3, h4⟩ := Own.at_ h.own hn
  exact ⟨g, rfl, fun k hk => h3 k (by omega), h4⟩
theorem XS.swap {w5 wr : World} {g n c : Nat} {f : Nat → Int} (h : XS w5 wr (some ⟨g, 0, none⟩) n c f) {i j : Nat} (hi : i < n) (hj : j < n) : ∃ f', XS w5 ((wr.setCell ⟨g, i, none⟩ (.int .i64 (f j))).setCell ⟨g, j, none⟩ (.int .i64 (f i))) (some ⟨g, 0, none⟩) n c f' := by
  have hb := (h.own.lt g (by simp [Value.ownBlock])).1
  refine ⟨fun q => if q = j then f i else if q = i then f j else f q, ((h.own.put i (.int .i64 (f j))).put j (.int .i64 (f i))).congr (fun q hq => ?_), fun q hq => ?_, (h.low.setCell hb _).setCell hb _⟩
  · by_cases e : q = j
    · rw [if_pos e, if_pos e]
    · rw [if_neg e, if_neg e]
      by_cases e2 : q = i
      · rw [if_pos e2, if_pos e2]
      · rw [if_neg e2, if_neg e2]
  · show -9223372036854775808 ≤ (if q = j then f i else if q = i then f j else f q) ∧ (if q = j then f i else if q = i then f j else f q) ≤ _
    by_cases e : q = j
    · rw [if_pos e]; exact h.bd i hi
    · rw [if_neg e]
      by_cases e2 : q = i
      · rw [if_pos e2]; exact h.bd j hj
      · rw [if_neg e2]; exact h.bd q hq
set_option maxRecDepth 20000 in
set_option maxHeartbeats 6400000 in
theorem llists_law (p : Prm) {w : World} {ao so bo : Option Addr} {n ca m cb l cl : Nat} {f s : Nat → Int} {b : Nat → Bool} (h : In3 w ao so bo n ca m cb l cl f s b) (hD : Dw.Holds w) :
    Calls Tryd.prog 4 #[.agg #[.int .i64 p.temp, .int .i64 p.topk, .int .i64 p.topp, .int .i64 p.pen, .int .u64 (p.seed : Int)], .slice ao n ca, .slice so m cb, .slice bo l cl] w fun e w' => e = .returned (.bool true) ∧ Below w.heap.size w w' := by
  have f1 := fresh_alloc w (.cells #[.int .i64 p.temp, .int .i64 p.topk, .int .i64 p.topp, .int .i64 p.pen, .int .u64 (p.seed : Int)] 24)
  have HWK := hidd (works_any (h.ta.fresh f1) (hD.fresh f1))
  have HP0 := hidd (PrmAt.new w p 24)
  have HI := hidd h
  have hn := h.hn
  have hle := h.lo.le
  have htop := h.lo.top
  unfold maxLen at htop
  obtain ⟨CH, hCH⟩ : ∃ CH : (Nat → Int) → List (Int × Int), CH = fun f' => chA p n m l f' s b := ⟨_, rfl⟩
  have HCA : Hid (∀ (w1 : World) (ao' : Option Addr) (ca' : Nat) (f' : Nat → Int), In3 w1 ao' so bo n ca' m cb l cl f' s b → Calls Tryd.prog 8 #[.agg #[.int .i64 p.temp, .int .i64 p.topk, .int .i64 p.topp, .int .i64 p.pen, .int .u64 (p.seed : Int)], .slice ao' n ca', .slice so m cb, .slice bo l cl] w1 fun e w' => ∃ u c, e = .returned (.tuple #[.slice u (CH f').length c, .int .i64 (erOf p)]) ∧ PL w' w1.heap.size u c (CH f') ∧ Below w1.heap.size w1 w') := fun w1 ao' ca' f' h1 => by rw [hCH]; exact chances_any p h1
  have HCR : Hid (∀ (w1 : World) (ao' : Option Addr) (ca' : Nat) (f' : Nat → Int), In3 w1 ao' so bo n ca' m cb l cl f' s b → Calls Tryd.prog 12 #[.agg #[.int .i64 p.temp, .int .i64 p.topk, .int .i64 p.topp, .int .i64 p.pen, .int .u64 (p.seed : Int)], .slice ao' n ca', .slice so m cb, .slice bo l cl] w1 fun e w' => ∃ u c, e = .returned (.tuple #[.slice u (CH f').length c, .int .i64 (erOf p)]) ∧ PL w' w1.heap.size u c (CH f') ∧ Below w1.heap.size w1 w') := fun w1 ao' ca' f' h1 => by rw [hCH]; exact chances_ref_any p h1
  have hLL : (CH f).length ≤ 1048576 := by
    rw [hCH]
    show (chA p n m l f s b).length ≤ _
    unfold chA
    split
    · have := chL_len p (scF p.pen f (seenB s m)) n (mayB l b)
      unfold chOf; omega
    · exact Nat.zero_le _
  have HXI : Hid (∀ (w5 wr : World) (u : Option Addr) (c : Nat) (f' : Nat → Int), Below w.heap.size w w5 → XS w5 wr u n c f' → In3 wr u so bo n c m cb l cl f' s b) := fun w5 wr u c f' hw hx => by
    have hw9 := hw.trans (hx.low.mono hw.size)
    exact ⟨Own.rda' hx.own, h.se.fresh hw9, h.al.fresh hw9, hx.bd, h.hn, h.hm, h.ta.fresh hw9⟩
  clear h hD hCH
  generalize erOf p = er at *
  go_enter Tryd.func4, Tryd.ntmps4
  go_wp2_with fail
  refine HWK.out.mono ?_
  rintro e w1 ⟨rfl, f2⟩
  have F1 := hidd (fresh_trans f1 f2)
  have hp := HP0.out.fresh f2
  have r0 := hp.c0
  have r1 := hp.c1
  have r2 := hp.c2
  have r3 := hp.c3
  have r4 := hp.c4
  have HP1 := hidd hp
  clear f1 f2 HWK HP0 hp
  go_wp2_with fail
  refine (HCR.out _ _ _ _ (HI.out.fresh F1.out)).mono ?_
  rintro e w2 ⟨u0, c0, rfl, hpl, f2⟩
  have F2 := hidd (fresh_trans F1.out f2)
  have hp := HP1.out.fresh f2
  have HW2 := hidd hpl
  replace r0 := hp.c0
  replace r1 := hp.c1
  replace r2 := hp.c2
  replace r3 := hp.c3
  replace r4 := hp.c4
  have HP2 := hidd hp
  clear f2 hp hpl HP1
  go_wp2_with fail
  refine (HCA.out _ _ _ _ (HI.out.fresh F2.out)).mono ?_
  rintro e w3 ⟨u1, c1, rfl, hpl, f2⟩
  have F3 := hidd (fresh_trans F2.out f2)
  have f23 := f2
  have hp := HP2.out.fresh f2
  have HA3 := hidd hpl
  replace r0 := hp.c0
  replace r1 := hp.c1
  replace r2 := hp.c2
  replace r3 := hp.c3
  replace r4 := hp.c4
  have HP3 := hidd hp
  clear f2 hp hpl
  go_wp2_with fail
  refine (HCA.out _ _ _ _ (HI.out.fresh F3.out)).mono ?_
  rintro e w4 ⟨u2, c2, rfl, hpl, f2⟩
  have HLS : Hid (LS w2 w4 (.slice u1 (CH f).length c1) (CH f).length u2 c2 (CH f)) := ⟨⟨_, HA3.out.kept f2⟩, hpl.weaken f23.size, fun k h1 h2 => by
    have a1 := (Own.lt HA3.out k h1).2
    have a2 := (Own.lt hpl k h2).1
    omega, f23.trans (f2.mono f23.size)⟩
  have hls := Own.les hpl
  have hls1 := Own.les HA3.out
  clear f2 f23 hpl HA3 HP3 r0 r1 r2 r3 r4 F1 F3
  generalize hL : CH f = L at *
  have HLE := hidd hL
  clear hL
  go_wp2
  go_loopw [16] (fun i wr => ∃ k : Nat, k ≤ L.length ∧ i = .int .i64 (k : Int) ∧ Hid (LS w2 wr (.slice u1 L.length c1) L.length u2 c2 L)) (fun i _ => L.length - (intOf i).toNat)
  case atStart => exact ⟨0, Nat.zero_le _, by simp, HLS.out⟩
  case round =>
    clear HLS
    obtain ⟨k, hk, rfl, HS⟩ := hrel
    by_cases hlt : k < L.length
    · obtain ⟨g, x, y, rfl, d0, d1, fz⟩ := HS.out.cells hlt
      have i0 : (0 : Int) ≤ (k : Int) := by omega
      have i1 : (k : Int) < (L.length : Int) := by omega
      have fz0 := fz (k * 2)
      have fz1 := fz (k * 2 + 1)
      have HN := hidd ((HS.out.put (k * 2) (.int .i64 (-7))).put (k * 2 + 1) (.int .i64 1))
      clear HS
      go_wp2
      go_roundw
      case rel => exact ⟨k + 1, by omega, by go_num, HN.out⟩
      case measure => simp [intOf]; omega
    · obtain rfl : k = L.length := by omega
      go_wp2
      go_loopw [17, 18] (fun v i wz => ∃ j : Nat, j ≤ 64 ∧ i = .int .i64 (j : Int) ∧ Hid (LS w2 wz v (L.length + j) u2 c2 L)) (fun _ i _ => 64 - (intOf i).toNat)
      case atStart => exact ⟨0, by omega, by simp, HS.out⟩
      case round =>
        clear HS
        obtain ⟨j, hj, rfl, HT⟩ := hrel
        by_cases hlt2 : j < 64
        · obtain ⟨F, ho, hone, hx⟩ := HT.out.ownE (.int .i64 (-8)) (.int .i64 0) rfl rfl
          have HO := hidd ho
          have HONE := hidd hone
          have HX := hidd hx
          obtain ⟨v', c', rfl, hrd⟩ := ho.rd
          have hsw := HT.out.low.size
          clear ho hone hx hrd
          go_wp2_with (at_builtin; refine wpList_app _ rfl _ _ 29 rfl w2.heap.size 36 (.agg #[.int .i64 0, .int .i64 0]) 2 16 Tryd.underlying29 infoCh rfl (by decide) _ (L.length + j) F rfl (HO.out.kept (fresh_alloc _ _)) _ 1 1 rfl (HX.out _ _) HONE.out (by decide) (by unfold maxLen; omega) (by omega) (by simp; omega) ?_)
          intro v9 w9 ho9 ha9
          have HN := hidd ((HT.out.alloc _).app ho9 ha9)
          clear HT HO
          go_wp2
          go_roundw
          case rel => exact ⟨j + 1, by omega, by go_num, HN.out⟩
          case measure => simp [intOf]; omega
        · obtain rfl : j = 64 := by omega
          obtain ⟨F, ho⟩ := HT.out.own
          obtain ⟨v', c', rfl, hrd⟩ := ho.rd
          have hlow := HT.out.low
          have F4 := hidd (F2.out.trans (hlow.mono F2.out.size))
          have HB4 := hidd HT.out.oth
          have HW4 := hidd (HW2.out.kept hlow)
          have hp := HP2.out.fresh hlow
          have r0 := hp.c0
          have r1 := hp.c1
          have r2 := hp.c2
          have r3 := hp.c3
          have r4 := hp.c4
          have HP4 := hidd hp
          clear ho hrd hlow hp HT HP2 HW2 F2
          go_wp2_with fail
          refine (HCA.out _ _ _ _ (HI.out.fresh F4.out)).mono ?_
          rw [HLE.out]
          rintro e w5 ⟨u5, c5, rfl, hpl, f2⟩
          have F5 := hidd (fresh_trans F4.out f2)
          have HB5 := hidd (HB4.out.kept f2)
          have HW5 := hidd (HW4.out.kept f2)
          have HC5 := hidd hpl
          have HP5 := hidd (HP4.out.fresh f2)
          clear f2 hpl HB4 HW4 HP4 r0 r1 r2 r3 r4 F4
          go_wp2_with fail
          refine (eqc_any HB5.out HW5.out).mono ?_
          rintro e w6 ⟨rfl, f2⟩
          have F6 := hidd (fresh_trans F5.out f2)
          have HW6 := hidd (HW5.out.kept f2)
          have HC6 := hidd (HC5.out.kept f2)
          have HP6 := hidd (HP5.out.fresh f2)
          clear f2 HB5 HW5 HC5 HP5 F5
          go_wp2_with fail
          refine (eqc_any HC6.out HW6.out).mono ?_
          rintro e w7 ⟨rfl, f2⟩
          have F7 := hidd (fresh_trans F6.out f2)
          have HP7 := hidd (HP6.out.fresh f2)
          clear f2 HW6 HC6 HP6 F6
          go_wp2_with fail
          refine (copyW_any (HI.out.lo.fresh F7.out) (by omega)).mono ?_
          rintro e w8 ⟨ux, cx, rfl, hox, f2⟩
          have HX8 : Hid (XS w7 w8 ux n cx f) := ⟨hox, HI.out.fb, f2⟩
          have hp := HP7.out.fresh f2
          have hlx := Own.les hox
          have r0 := hp.c0
          have r1 := hp.c1
          have r2 := hp.c2
          have r3 := hp.c3
          have r4 := hp.c4
          clear f2 hox hp
          go_wp2_with fail
          refine (HCA.out _ _ _ _ (HXI.out _ _ _ _ _ F7.out HX8.out)).mono ?_
          rintro e w9 ⟨u9, c9, rfl, hpl, f2⟩
          have HX9 : Hid (XS w7 w9 ux n cx f) := ⟨HX8.out.own.kept f2, HX8.out.bd, HX8.out.low.trans (f2.mono HX8.out.low.size)⟩
          have hls9 := Own.les hpl
          clear f2 hpl HX8 r0 r1 r2 r3 r4
          have hdv : Int.tdiv (n : Int) 2 = ((n / 2 : Nat) : Int) := by
            rw [Int.tdiv_eq_ediv_of_nonneg (by omega)]; omega
          go_wp2
          go_loopw [23, 24] (fun i _ wq => ∃ q : Nat, q ≤ n / 2 ∧ i = .int .i64 (q : Int) ∧ Hid (∃ f', XS w7 wq ux n cx f')) (fun i _ _ => n / 2 - (intOf i).toNat)
          case atStart => exact ⟨0, Nat.zero_le _, by simp, ⟨_, HX9.out⟩⟩
          case round =>
            clear HX9
            obtain ⟨q, hq, rfl, HQ⟩ := hrel
            obtain ⟨f', hx⟩ := HQ.out
            clear HQ
            by_cases hlt3 : q < n / 2
            · obtain ⟨g, rfl, hc, fz⟩ := hx.cells (by omega)
              have d0 := hc q (by omega)
              have d1 := hc (n - 1 - q) (by omega)
              have i0 : (0 : Int) ≤ (q : Int) := by omega
              have i1 : (q : Int) < (n : Int) := by omega
              have e1 : (n : Int) - 1 - (q : Int) = ((n - 1 - q : Nat) : Int) := by omega
              have fz0 := fz q
              have fz1 := fz (n - 1 - q)
              have HN := hidd (hx.swap (i := q) (j := n - 1 - q) (by omega) (by omega))
              clear hx hc fz
              generalize f' q = y0 at *
              generalize f' (n - 1 - q) = y1 at *
              generalize hqq : n - 1 - q = qq at *
              have hqb : qq < n := by omega
              have i2 : (0 : Int) ≤ (qq : Int) := by omega
              have i3 : (qq : Int) < (n : Int) := by omega
              have hne : q ≠ qq := by omega
              go_wp2
              go_roundw
              case rel => exact ⟨q + 1, by omega, by go_num, HN.out⟩
              case measure => simp [intOf]; omega
            · obtain rfl : q = n / 2 := by omega
              have HXA := hidd hx
              have hlow := hx.low
              have FA := hidd (F7.out.trans (hlow.mono F7.out.size))
              have hp := HP7.out.fresh hlow
              have r0 := hp.c0
              have r1 := hp.c1
              have r2 := hp.c2
              have r3 := hp.c3
              have r4 := hp.c4
              have HPA := hidd hp
              clear hx hlow hp HP7
              go_wp2_with fail
              refine (HCA.out _ _ _ _ (HXI.out _ _ _ _ _ F7.out HXA.out)).mono ?_
              rintro e wB ⟨uB, cB, rfl, hpl, f2⟩
              have HXB : Hid (XS w7 wB ux n cx f') := ⟨HXA.out.own.kept f2, HXA.out.bd, HXA.out.low.trans (f2.mono HXA.out.low.size)⟩
              have HLB := hidd hpl
              have HPB := hidd (HPA.out.fresh f2)
              have FB := hidd (fresh_trans FA.out f2)
              have hlsB := Own.les hpl
              clear f2 hpl HXA HPA FA r0 r1 r2 r3 r4
              go_wp2_with fail
              have fd : Below wB.heap.size wB wB.drew := (Below.refl _ _).drew
              have HRR : Hid (∀ z, Below wB.heap.size wB z → z.cell? ⟨w.heap.size, 0, none⟩ = some (.int .i64 p.temp) ∧ z.cell? ⟨w.heap.size, 1, none⟩ = some (.int .i64 p.topk) ∧ z.cell? ⟨w.heap.size, 2, none⟩ = some (.int .i64 p.topp) ∧ z.cell? ⟨w.heap.size, 3, none⟩ = some (.int .i64 p.pen) ∧ z.cell? ⟨w.heap.size, 4, none⟩ = some (.int .u64 (p.seed : Int))) := fun z hz => by
                have hp := HPB.out.fresh hz
                exact ⟨hp.c0, hp.c1, hp.c2, hp.c3, hp.c4⟩
              have HCW : Hid (∀ z, Below wB.heap.size wB z → Calls Tryd.prog 14 #[.slice ux n cx] z fun e w' => ∃ u c, e = .returned (.slice u n c) ∧ Hid (In3 w' u so bo n c m cb l cl f' s b) ∧ Below wB.heap.size wB w') := fun z hz => (copyW_any (Own.rda' (HXB.out.own.kept hz)) (by omega)).mono fun e w' ⟨u, c, h1, h2, h3⟩ => ⟨u, c, h1, HXI.out z w' u c f' (fresh_trans FB.out hz) ⟨h2, HXB.out.bd, h3⟩, fresh_trans hz h3⟩
              have HC2 : Hid (∀ (z : World) (u : Option Addr) (c : Nat), Hid (In3 z u so bo n c m cb l cl f' s b) → Below wB.heap.size wB z → Calls Tryd.prog 12 #[.agg #[.int .i64 p.temp, .int .i64 p.topk, .int .i64 p.topp, .int .i64 p.pen, .int .u64 (p.seed : Int)], .slice u n c, .slice so m cb, .slice bo l cl] z fun e w' => ∃ uD cD, e = .returned (.tuple #[.slice uD (CH f').length cD, .int .i64 er]) ∧ PL w' wB.heap.size uD cD (CH f') ∧ Below wB.heap.size wB w') := fun z u c h1 hz => (HCR.out z u c f' h1.out).mono fun e w' ⟨uD, cD, h2, h3, h4⟩ => ⟨uD, cD, h2, h3.weaken hz.size, fresh_trans hz h4⟩
              obtain ⟨r0, r1, r2, r3, r4⟩ := HRR.out _ fd
              clear HXB HPB HCA HCR HXI HI
              go_cut [27, 28] (fun t y wx => ∃ uD cD, t = .slice uD (CH f').length cD ∧ y = .int .i64 er ∧ PL wx wB.heap.size uD cD (CH f') ∧ Below wB.heap.size wB wx)
              case first =>
                clear HLB FB
                generalize CH f' = L9 at *
                go_region_with (first
                  | (go_at_call 14; with_reducible refine (HCW.out _ fd).mono ?_; rintro e wC ⟨uC, cC, rfl, HIC, gC⟩; obtain ⟨s0, s1, s2, s3, s4⟩ := HRR.out _ gC)
                  | (go_at_call 12; with_reducible refine (HC2.out _ _ _ HIC gC).mono ?_; rintro e wD ⟨uD, cD, rfl, hpD, gD⟩))
                all_goals
                  go_wp2
                  go_meet
                  case rel => exact ⟨uD, cD, rfl, rfl, hpD, gD⟩
              case rest =>
                obtain ⟨uD, cD, h27, h28, hpl, f2⟩ := hcut
                subst h27 h28
                have HLD := hidd (HLB.out.kept f2)
                have HMD := hidd hpl
                have FD := hidd (fresh_trans FB.out f2)
                clear f2 hpl HLB HC2 HCW HRR fd r0 r1 r2 r3 r4
                go_wp2_with fail
                refine (eqc_any HLD.out HMD.out).mono ?_
                rintro e wE ⟨rfl, f2⟩
                have FE := hidd (fresh_trans FD.out f2)
                clear f2
                go_wp2
                go_ret
                exact ⟨by first | rfl | simp, FE.out⟩
end Go.Proofs.YtjjfbpjejhjdiabDoor
