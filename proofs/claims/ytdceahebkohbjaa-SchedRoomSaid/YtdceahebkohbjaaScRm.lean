import Derived.Test.YtdceahebkohbjaaScBu
namespace Go.Proofs.Ytdceahebkohbjaa
open Go.RowKit
/-! SchedRoom. -/
theorem cnt_up (f : Nat → Bool) {a b : Nat} (h : a ≤ b) : cnt f a ≤ cnt f b := by
  induction b with
  | zero => rw [show a = 0 by omega]; exact Nat.le_refl _
  | succ b ih =>
    by_cases e : a = b + 1
    · rw [e]; exact Nat.le_refl _
    · have := ih (by omega)
      show cnt f a ≤ cnt f b + _
      omega
/-- some seat that is not out holds the block, of the seats as they came -/
def Uo (oI : Nat → Int) (mO : Nat) (S : Nat → Se) (n : Nat) (b : Nat) : Bool := (List.range n).any fun i => !hasI oI mO (S i).id && hasI (S i).H (S i).hn (b : Int)
theorem Uo_iff (oI : Nat → Int) (mO : Nat) (S : Nat → Se) (n : Nat) (b : Nat) : Uo oI mO S n b = true ↔ ∃ i, i < n ∧ hasI oI mO (S i).id = false ∧ hasI (S i).H (S i).hn (b : Int) = true := by
  unfold Uo
  simp
structure RmF (c : Me) (n : Nat) (S : Nat → Se) (mO mZ : Nat) (oI zI zT zG gv : Nat → Int) : Prop where
  mz : mZ ≤ 16
  zat : ∀ k, k < mZ → ∃ q, q < n ∧ zI k = (S q).id ∧ 0 ≤ zT k ∧ zT k ≤ 1024 ∧ 0 ≤ zG k ∧ zG k ≤ 1024 ∧ gv (k + 1) = gv k + max (need c ((S q).ca + zT k + zG k) - ((S q).hn : Int)) 0
  g0 : gv 0 = 0
  le : ∀ k, k ≤ mZ → 0 ≤ gv k ∧ (cnt (Uo oI mO S n) c.bs.toNat : Int) + gv k ≤ c.bs
theorem gvn_split (c : Me) (L : Nat → Se) (A B : List (Nat × Int)) : gvn c L (A ++ B) = gvn c L A + gvn c L B := by
  induction A with
  | nil => simp [gvn]
  | cons z A ih => simp only [List.cons_append, gvn, ih]; omega
theorem gvn_nn (c : Me) (L : Nat → Se) (Z : List (Nat × Int)) : 0 ≤ gvn c L Z := by
  induction Z with
  | nil => exact Int.le_refl _
  | cons z Z ih => show 0 ≤ _; unfold gvn bey; omega
theorem PlD.rooms {w' : World} {base : Nat} {c : Me} {n : Nat} {S : Nat → Se} {pk : Int → Bool} {vO vZ : Value} (h : PlD w' base c n S pk vO vZ) (hc : okM c 1) (hn : n ≤ 16) :
    ∃ mO mZ oI zI zT zG gv, Own w' base 3 1 vO mO (fun j => .int .i64 (oI j)) ∧ Own w' base 38 3 vZ mZ (trF zI zT zG) ∧ RmF c n S mO mZ oI zI zT zG gv := by
  obtain ⟨L, hp, hd, h1, h2⟩ := h
  have I := mkN_inv (pk := pk) hc hd.1 hn n (Nat.le_refl _)
  generalize mkN c L n pk n = st at *
  have hZ : ∀ k, k < st.Z.length → st.Z.getD k (0, 0) ∈ st.Z := fun k hk => by rw [getD_at _ _ hk]; exact List.getElem_mem hk
  refine ⟨st.O.length, st.Z.length, fun k => (L (st.O.getD k 0)).id, fun k => (slc L (st.Z.getD k (0, 0))).1, fun k => (slc L (st.Z.getD k (0, 0))).2.1, fun k => (slc L (st.Z.getD k (0, 0))).2.2, fun k => gvn c L (st.Z.take k), h1, h2, ⟨by have := I.zlen; omega, fun k hk => ?_, by simp [gvn], fun k hk => ?_⟩⟩
  · obtain ⟨z1, z2, z3, z4, z5, z6⟩ := I.zs _ (hZ k hk)
    have ew := getD_at st.Z (0, 0) hk
    show ∃ q, q < n ∧ _ ∧ _ ∧ _ ∧ _ ∧ _ ∧ gvn c L (st.Z.take (k + 1)) = gvn c L (st.Z.take k) + _
    rw [List.take_succ_eq_append_getElem hk, gvn_app, ← ew]
    generalize st.Z.getD k (0, 0) = z at *
    obtain ⟨q, hq, he⟩ := hp.of_mem z2
    have hwn : wan c (L z.1) ≤ 1024 := by
      have := hc.2.2.2.2.2.2.2.2.1
      have := hc.2.2.2.2.2.2.2.2.2.1
      have := hc.2.2.2.2.2.2.2.2.2.2.2
      unfold wan
      split <;> omega
    have hs := slc_sum L z
    have hsg : 0 ≤ (slc L z).2.1 ∧ 0 ≤ (slc L z).2.2 := by
      unfold slc
      split
      · exact ⟨by show 0 ≤ z.2; omega, Int.le_refl _⟩
      · exact ⟨Int.le_refl _, by show 0 ≤ z.2; omega⟩
    refine ⟨q, hq, by rw [slc_id]; exact er_id he, hsg.1, by omega, hsg.2, by omega, ?_⟩
    unfold bey
    rw [← er_ca he, ← er_hn he, Int.add_assoc, hs]
  · have e := gvn_split c L (st.Z.take k) (st.Z.drop k)
    rw [List.take_append_drop] at e
    have p1 := gvn_nn c L (st.Z.take k)
    have p2 := gvn_nn c L (st.Z.drop k)
    have hg := I.giv
    have hf := I.free
    unfold fre at hf
    have hb := hc.2.2.1
    have hb2 := hc.2.2.2.1
    have q1 : cnt (Uo (fun k => (L (st.O.getD k 0)).id) st.O.length S n) c.bs.toNat ≤ cnt (Uo (fun k => (L (st.O.getD k 0)).id) st.O.length S n) 256 := cnt_up _ (by omega)
    have q2 : cnt (Uo (fun k => (L (st.O.getD k 0)).id) st.O.length S n) 256 ≤ cnt (hs L n st.out) 256 := cnt_mono (fun b hb => by
      obtain ⟨i, hi, r1, r2⟩ := (Uo_iff _ _ _ _ _).1 hb
      obtain ⟨q, hq, he⟩ := hp.to_mem hi
      refine (hs_iff _ _ _ _).2 ⟨q, hq, ?_, ?_⟩
      · rw [Bool.eq_false_iff]
        intro ho
        obtain ⟨j, hj, e⟩ := List.getElem_of_mem ((I.mem q).1 ho)
        have : hasI (fun k => (L (st.O.getD k 0)).id) st.O.length (S i).id = true := (hasI_iff _ _ _).2 ⟨j, hj, by show (L (st.O.getD j 0)).id = _; rw [getD_at _ _ hj, e, er_id he]⟩
        rw [this] at r1
        cases r1
      · show hasI (L q).H (L q).hn (b : Int) = true
        rw [er_H he, er_hn he]
        exact r2) 256
    show 0 ≤ gvn c L (st.Z.take k) ∧ _ + gvn c L (st.Z.take k) ≤ _
    omega
set_option maxRecDepth 100000 in
set_option maxHeartbeats 8000000 in
theorem room_law {w : World} (c : Me) {ao po : Option Addr} {n cap m cp : Nat} {S : Nat → Se} {P : Nat → Int} (hS : SeA w ao n cap S) (hn : n * 56 ≤ 140737488351232) (hh : ∀ i, i < n → (S i).hn ≤ 17592186043904) (hP : RdA w po 1 m cp (fun i => .int .i64 (P i))) (hm : m ≤ 17592186043904) :
    Calls Try.prog 7 #[mV c, .slice ao n cap, .slice po m cp] w fun e w' => e = .returned (.bool true) ∧ Below w.heap.size w w' := by
  have HPL : Hid (∀ z, Below w.heap.size w z → Calls Try.prog 11 #[mV c, .slice ao n cap, .slice po m cp] z fun e w' => ∃ vO vZ may, e = .returned (.tuple #[.agg #[vO, vZ], .bool may, .bool true]) ∧ PdR z w' c n S (hasI P m) vO vZ may) := fun z hz => planned_any c (hS.fresh hz) hn hh (hP.fresh hz) hm
  have HSE := hidd hS
  have HPK := hidd hP
  obtain ⟨bs, bl, bu, ch, tr⟩ := c
  unfold mV at *
  simp only at HPL ⊢
  have HF := hidd (fresh_alloc w (.cells #[.int .i64 bs, .int .i64 bl, .int .i64 bu, .int .i64 ch, .int .i64 tr] 23))
  have HC5 : Hid (∀ z, Below (w.alloc (.cells #[.int .i64 bs, .int .i64 bl, .int .i64 bu, .int .i64 ch, .int .i64 tr] 23)).heap.size (w.alloc (.cells #[.int .i64 bs, .int .i64 bl, .int .i64 bu, .int .i64 ch, .int .i64 tr] 23)) z → z.cell? ⟨w.heap.size, 0, none⟩ = some (.int .i64 bs) ∧ z.cell? ⟨w.heap.size, 1, none⟩ = some (.int .i64 bl) ∧ z.cell? ⟨w.heap.size, 4, none⟩ = some (.int .i64 tr)) := fun z f => by
    obtain ⟨e0, e1, e2, e3, e4⟩ := box5 w (.int .i64 bs) (.int .i64 bl) (.int .i64 bu) (.int .i64 ch) (.int .i64 tr) 23
    exact ⟨fresh_cell f e0, fresh_cell f e1, fresh_cell f e4⟩
  have HP1 := hidd (HPL.out _ HF.out)
  clear hS hP hh HPL
  go_enter Try.func7, Try.ntmps7
  go_upto_region 2 with ((go_at_call 11; with_reducible refine HP1.out.mono ?_; rintro e w3 ⟨vO, vZ, may, rfl, hpd⟩; obtain ⟨uo, no, ko, rfl⟩ := hpd.sO; obtain ⟨uz, nz, kz, rfl⟩ := hpd.sZ))
  have HB3 := hidd (HF.out.trans (hpd.low.mono HF.out.size))
  have HL3 := hidd hpd.low
  have HFA := hidd (fresh_alloc w3 (.cells #[.slice uo no ko, .slice uz nz kz] 31))
  have HRP := hidd (two_new w3 (.slice uo no ko) (.slice uz nz kz) 31)
  have HB4 := hidd (HB3.out.trans (HFA.out.mono HB3.out.size))
  have HL4 := hidd (HL3.out.trans (HFA.out.mono HL3.out.size))
  have HPD := hidd hpd
  clear hpd
  cases may with
  | false =>
    go_wp2
    go_ret
    exact ⟨rfl, HB4.out⟩
  | true =>
    obtain ⟨hc, ha⟩ := HPD.out.iff.1 rfl
    obtain ⟨mO, mZ, oI, zI, zT, zG, gv, o1, o2, hF⟩ := (HPD.out.ok rfl).rooms hc ha.1
    have HA := hidd ha
    have HCO := hidd hc
    have HLF := hidd hF
    have HOO := hidd (o1.kept HFA.out)
    have HOZ := hidd (o2.kept HFA.out)
    clear HPD
    obtain ⟨_, _, e1, _⟩ := o1.rd
    cases e1
    obtain ⟨_, _, e1, _⟩ := o2.rd
    cases e1
    clear o1 o2 ha hc hF HFA HB3 HL3
    obtain ⟨f2, f3, f4⟩ := HC5.out _ HL4.out
    have HF2 := hidd f2
    have HF3 := hidd f3
    have HF4 := hidd f4
    clear f2 f3 f4 HL4 HC5 HP1
    obtain ⟨pb, HPB⟩ : ∃ pb, Hid (pb = w3.heap.size) := ⟨_, rfl⟩
    rw [← HPB.out] at HRP ⊢
    generalize (w3.alloc (.cells #[.slice uo no ko, .slice uz nz kz] 31)) = w4 at *
    have hmz := HLF.out.mz
    have hnn : n ≤ 16 := HA.out.1
    have hbl1 : 1 ≤ bl := HCO.out.2.2.2.2.1
    have hbl2 : bl ≤ 16 := HCO.out.2.2.2.2.2.1
    have HNE : Hid (∀ x, need ⟨bs, bl, bu, ch, tr⟩ x = (x + bl - 1) / bl) := fun _ => rfl
    have HLE := hidd HLF.out.le
    have HZA := hidd HLF.out.zat
    have HG0 := hidd HLF.out.g0
    obtain ⟨B, hB⟩ : ∃ B : Nat, bs = (B : Int) := ⟨bs.toNat, by have := HCO.out.2.2.1; simp only at this; omega⟩
    have hB2 : B ≤ 256 := by have := HCO.out.2.2.2.1; simp only at this; omega
    subst hB
    simp only [Int.toNat_natCast] at HLE
    obtain ⟨U, HU⟩ : ∃ U, Hid (U = Uo oI no S n) := ⟨_, rfl⟩
    rw [← HU.out] at HLE
    have HUI : Hid (∀ b, U b = true ↔ ∃ i, i < n ∧ hasI oI no (S i).id = false ∧ hasI (S i).H (S i).hn (b : Int) = true) := fun b => by rw [HU.out]; exact Uo_iff _ _ _ _ _
    have HCL := hidd (cnt_le U)
    go_wp2
    go_loopw [10, 11] (fun u v wr => ∃ b : Nat, b ≤ B ∧ v = .int .i64 b ∧ u = .int .i64 (cnt U b : Nat) ∧ Hid (Below w4.heap.size w4 wr)) (fun _ v _ => B - (intOf v).toNat)
    case atStart => exact ⟨0, by omega, rfl, rfl, Below.refl _ _⟩
    case round =>
      obtain ⟨b, hb, rfl, rfl, HFR⟩ := hrel
      have f2 := fresh_cell HFR.out HF2.out
      have hcb := HCL.out b
      by_cases hlt : b < B
      · have hbb : (b : Int) < (B : Int) := by omega
        have HCT : Hid (U b = true → cnt U (b + 1) = cnt U b + 1) := fun h => by show cnt U b + _ = _; rw [if_pos h]
        have HCF : Hid (U b = false → cnt U (b + 1) = cnt U b) := fun h => by show cnt U b + _ = _; rw [h]; rfl
        have HUB := hidd (HUI.out b)
        generalize cnt U b = cb at *
        generalize U b = ub at *
        go_wp2
        go_loopw [10, 12] (fun u v wi => ∃ j : Nat, j ≤ n ∧ v = .int .i64 j ∧ u = .int .i64 (cb : Nat) ∧ Hid (∀ i, i < j → ¬ (hasI oI no (S i).id = false ∧ hasI (S i).H (S i).hn (b : Int) = true)) ∧ Hid (Below w4.heap.size w4 wi)) (fun _ v _ => n - (intOf v).toNat)
        case atStart => exact ⟨0, by omega, rfl, rfl, fun i hi => absurd hi (by omega), HFR⟩
        case round =>
          obtain ⟨j, hj, rfl, rfl, HN, HG⟩ := hrel
          have HGW := hidd (HB4.out.trans (HG.out.mono HB4.out.size))
          by_cases hjn : j < n
          · obtain ⟨b2, o2, rfl, hc2⟩ := (HSE.out.fresh HGW.out).rd.seat (by omega)
            obtain ⟨x0, x1, x2, x3, x4⟩ := hc2 j hjn
            have r1 := HRP.out.of_block (HG.out.block _ HRP.out.lt)
            have p0 : wr.cell? ⟨pb, 0, none⟩ = some (.slice uo no ko) := r1.cell (i := 0) (by decide)
            have jj0 : (0 : Int) ≤ (j : Int) := by omega
            have jj1 : (j : Int) < (n : Int) := by omega
            have HAO := hidd (fun x : Later wr => among_any (own_rda (HOO.out.kept (HG.out.trans (x.fresh.mono HG.out.size)))) (S j).id)
            have HAH := hidd (fun x : Later wr => among_any ((HSE.out.hd j hjn).fresh (HGW.out.trans (x.fresh.mono HGW.out.size))) (b : Int))
            have HNJ : Hid (¬ (hasI oI no (S j).id = false ∧ hasI (S j).H (S j).hn (b : Int) = true) → ∀ i, i < j + 1 → ¬ (hasI oI no (S i).id = false ∧ hasI (S i).H (S i).hn (b : Int) = true)) := fun h i hi => if e : i = j then e ▸ h else HN.out i (by omega)
            have HYJ : Hid (hasI oI no (S j).id = false ∧ hasI (S j).H (S j).hn (b : Int) = true → ub = true) := fun h => HUB.out.2 ⟨j, hjn, h⟩
            generalize hasI oI no (S j).id = r9 at *
            generalize hasI (S j).H (S j).hn (b : Int) = r8 at *
            generalize (S j).id = t0 at *
            generalize (S j).ho = th at *
            generalize (S j).hn = tn at *
            generalize (S j).hc = tc at *
            have ne := later_some wr
            have lx0 := later_cell x0
            have lx4 := later_cell x4
            have lp0 := later_cell p0
            clear hc2 x0 x1 x2 x3 x4 p0 r1 f2
            cases r9 with
            | true =>
              go_upto_region 11 with fail
              refine wp_region_later (by kernel_rfl) (by kernel_rfl) ?_
              repeat (go_big_quiet_step (fail))
              go_big_quiet_step (exact later_same (HAO.out _))
              repeat (go_big_quiet_step (fail))
              refine wpQuiet_nil ?_
              rintro _ ⟨z, rfl⟩
              have HZ4 := hidd (HG.out.trans (z.fresh.mono HG.out.size))
              clear lx0 lx4 lp0 HAO HAH
              go_wp2
              go_roundw
              case rel => exact ⟨j + 1, by omega, by go_num, rfl, HNJ.out (fun h => by cases h.1), HZ4⟩
              case measure => simp [intOf]; omega
            | false =>
              cases r8 with
              | true =>
                obtain rfl := HYJ.out ⟨rfl, rfl⟩
                have HC1 := hidd (HCT.out rfl)
                go_upto_region 11 with fail
                refine wp_region_later (by kernel_rfl) (by kernel_rfl) ?_
                repeat (go_big_quiet_step (fail))
                go_big_quiet_step (exact later_same (HAO.out _))
                repeat (go_big_quiet_step (fail))
                go_big_quiet_step (exact later_same (HAH.out _))
                repeat (go_big_quiet_step (fail))
                refine wpQuiet_nil ?_
                rintro _ ⟨z, rfl⟩
                have HZ4 := hidd (HG.out.trans (z.fresh.mono HG.out.size))
                clear lx0 lx4 lp0 HAO HAH
                go_wp2
                go_roundw
                case rel => exact ⟨b + 1, by omega, by go_num, by rw [HC1.out]; go_num, HZ4⟩
                case measure => simp [intOf]; omega
              | false =>
                go_upto_region 11 with fail
                refine wp_region_later (by kernel_rfl) (by kernel_rfl) ?_
                repeat (go_big_quiet_step (fail))
                go_big_quiet_step (exact later_same (HAO.out _))
                repeat (go_big_quiet_step (fail))
                go_big_quiet_step (exact later_same (HAH.out _))
                repeat (go_big_quiet_step (fail))
                refine wpQuiet_nil ?_
                rintro _ ⟨z, rfl⟩
                have HZ4 := hidd (HG.out.trans (z.fresh.mono HG.out.size))
                clear lx0 lx4 lp0 HAO HAH
                go_wp2
                go_roundw
                case rel => exact ⟨j + 1, by omega, by go_num, rfl, HNJ.out (fun h => by cases h.2), HZ4⟩
                case measure => simp [intOf]; omega
          · obtain rfl : j = n := by omega
            have HC1 := hidd (HCF.out (by
              rw [Bool.eq_false_iff]
              intro h
              obtain ⟨i, hi, h3⟩ := HUB.out.1 h
              exact HN.out i hi h3))
            go_wp2
            go_roundw
            case rel => exact ⟨b + 1, by omega, by go_num, by rw [HC1.out], HG⟩
            case measure => simp [intOf]; omega
      · obtain rfl : b = B := by omega
        clear HCL
        have HLE2 : Hid (∀ k, k ≤ nz → 0 ≤ gv k ∧ (cnt U b : Int) + gv k ≤ (b : Int)) := HLE.out
        generalize cnt U b = cb at *
        go_wp2
        go_loopw [10, 13] (fun u v wi => ∃ k : Nat, k ≤ nz ∧ v = .int .i64 k ∧ u = .int .i64 ((cb : Int) + gv k) ∧ Hid (Below w4.heap.size w4 wi)) (fun _ v _ => nz - (intOf v).toNat)
        case atStart => exact ⟨0, by omega, rfl, by rw [HG0.out, Int.add_zero], HFR⟩
        case round =>
          obtain ⟨k, hk, rfl, rfl, HG⟩ := hrel
          have HGW := hidd (HB4.out.trans (HG.out.mono HB4.out.size))
          have HL1 := hidd (HLE2.out k hk)
          have r1 := HRP.out.of_block (HG.out.block _ HRP.out.lt)
          have p1 : wr.cell? ⟨pb, 1, none⟩ = some (.slice uz nz kz) := r1.cell (i := 1) (by decide)
          by_cases hkn : k < nz
          · have HL2 := hidd (HLE2.out (k + 1) hkn)
            obtain ⟨q, hq, e1, t1, t2, t3, t4, t5⟩ := HZA.out k hkn
            obtain ⟨g1, o1, rfl, h1⟩ := (own_rda (HOZ.out.kept HG.out)).three (by omega)
            obtain ⟨z1, z2, z3⟩ := h1 k hkn
            have HS5 := hidd (seat_any (HSE.out.fresh HGW.out).rd hq (fun j hj => HA.out.2.2 j q hj hq) e1)
            obtain ⟨ok1, ok2, ok3, ok4, _, _⟩ := HA.out.2.1 q hq
            rw [HNE.out] at t5
            have hhn : (S q).hn ≤ 9223372036854775807 := by have := (HSE.out.hd q hq).le; have := (HSE.out.hd q hq).top; unfold maxLen at this; omega
            clear h1 r1
            generalize zI k = iz at *
            generalize zT k = tz at *
            generalize zG k = gz at *
            generalize gv k = v0 at *
            generalize S q = s at *
            obtain ⟨y0, y1, y2, y3, ho, hn0, hc0, HH⟩ := s
            unfold seV at HS5
            simp only at e1 HS5 t5 ok1 ok2 ok3 ok4 hhn
            have HT5 := hidd t5
            clear e1 t5
            have kk0 : (0 : Int) ≤ (k : Int) := by omega
            have kk1 : (k : Int) < (nz : Int) := by omega
            go_upto_region 17 with (go_at_call 13; with_reducible refine HS5.out.mono ?_; rintro e w6 ⟨rfl, hb6⟩)
            have HX7 := hidd (fresh_alloc w6 (.cells #[.int .i64 y0, .int .i64 y1, .int .i64 y2, .int .i64 y3, .slice ho hn0 hc0] 35))
            have HXS := hidd (box5v w6 (.int .i64 y0) (.int .i64 y1) (.int .i64 y2) (.int .i64 y3) (.slice ho hn0 hc0) 35)
            have HXW := hidd (hb6.trans (HX7.out.mono hb6.size))
            have HX47 := hidd (HG.out.trans (HXW.out.mono HG.out.size))
            clear hb6 HX7
            obtain ⟨sb, HSB⟩ : ∃ x, Hid (x = w6.heap.size) := ⟨_, rfl⟩
            rw [← HSB.out] at HXS ⊢
            generalize (w6.alloc (.cells #[.int .i64 y0, .int .i64 y1, .int .i64 y2, .int .i64 y3, .slice ho hn0 hc0] 35)) = w7 at *
            obtain ⟨c0, c1, c2, c3, c4⟩ := HXS.out
            have r1 := HRP.out.of_block (HX47.out.block _ HRP.out.lt)
            have pp1 : w7.cell? ⟨pb, 1, none⟩ = some (.slice (some ⟨g1, o1, none⟩) nz kz) := r1.cell (i := 1) (by decide)
            have a1 := fresh_cell HXW.out z2
            have a2 := fresh_cell HXW.out z3
            have f3 := fresh_cell HX47.out HF3.out
            have f2 := fresh_cell HX47.out HF2.out
            clear z1 z2 z3 p1 r1 c0 c1 c3
            have hy2 : y2 ≤ 64 := by omega
            have hbn : ¬ bl = 0 := by omega
            have hdv0 : 0 ≤ (y2 + tz + gz + bl - 1) / bl := Int.ediv_nonneg (by omega) (by omega)
            have hdv1 : (y2 + tz + gz + bl - 1) / bl ≤ y2 + tz + gz + bl - 1 := Int.ediv_le_self _ (by omega)
            have HT6 := HT5.out
            have s1 := HL1.out.1
            have s2 := HL1.out.2
            have s3 := HL2.out.1
            have s4 := HL2.out.2
            rw [HT6] at s3 s4
            have HE5 : Hid ((cb : Int) + v0 + max ((y2 + tz + gz + bl - 1) / bl - (hn0 : Int)) 0 = (cb : Int) + gv (k + 1)) := by rw [HT6]; exact Int.add_assoc _ _ _
            clear HT6 HT5 HL1 HL2
            go_quiet (fail)
            go_upto_region 18 with fail
            go_quiet (fail)
            go_wp2_with (go_at_call 14; with_reducible refine (greatest_any _ _ _).mono ?_; rintro e w8 ⟨rfl, rfl⟩)
            go_roundw
            case rel => exact ⟨k + 1, by omega, by go_num, by rw [← HE5.out], below_drewN HX47.out _⟩
            case measure => simp [intOf]; omega
          · obtain rfl : k = nz := by omega
            obtain ⟨s1, s2⟩ := HL1.out
            have f2 := fresh_cell HG.out HF2.out
            have hgw := HGW
            go_wp2
            go_ret
            exact ⟨rfl, HGW.out⟩
end Go.Proofs.Ytdceahebkohbjaa
