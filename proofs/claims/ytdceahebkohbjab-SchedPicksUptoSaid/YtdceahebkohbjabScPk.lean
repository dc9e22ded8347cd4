import Derived.Test.YtdceahebkohbjabScEp
namespace Go.Proofs.Ytdceahebkohbjab
open Go.RowKit
/-! SchedPicks. -/
def tw (Q : Nat → Int) (k : Nat) (p u : Int) : Nat → Int := fun i => if i < k then Q i else if i < k + 2 then p else u
theorem tw_lt (Q : Nat → Int) {k j : Nat} (p u : Int) (h : j < k) : tw Q k p u j = Q j := by unfold tw; rw [if_pos h]
theorem tw_0 (Q : Nat → Int) (k : Nat) (p u : Int) : tw Q k p u k = p := by unfold tw; rw [if_neg (by omega), if_pos (by omega)]
theorem tw_1 (Q : Nat → Int) (k : Nat) (p u : Int) : tw Q k p u (k + 1) = p := by unfold tw; rw [if_neg (by omega), if_pos (by omega)]
theorem tw_2 (Q : Nat → Int) (k : Nat) (p u : Int) : tw Q k p u (k + 2) = u := by unfold tw; rw [if_neg (by omega), if_neg (by omega)]
def TwI (n m : Nat) (S : Nat → Se) (P : Nat → Int) (wq : World) (v i : Value) (wr : World) : Prop := ∃ (r k : Nat) (Q : Nat → Int), r ≤ m ∧ k ≤ 3 * (m - r) ∧ i = .int .i64 ((r : Int) - 1) ∧ Hid (Own wr wq.heap.size 3 1 v k (fun j => .int .i64 (Q j))) ∧ Hid (∀ i, i < n → (hasI Q k (S i).id = true ↔ ∃ j, r ≤ j ∧ j < m ∧ P j = (S i).id)) ∧ Hid (Below wq.heap.size wq wr)
theorem TwI.mk {n m : Nat} {S : Nat → Se} {P : Nat → Int} {wq wr : World} {v i : Value} (r k : Nat) (Q : Nat → Int) (h1 : r ≤ m) (h2 : k ≤ 3 * (m - r)) (h3 : i = .int .i64 ((r : Int) - 1)) (h4 : Hid (Own wr wq.heap.size 3 1 v k (fun j => .int .i64 (Q j)))) (h5 : Hid (∀ i, i < n → (hasI Q k (S i).id = true ↔ ∃ j, r ≤ j ∧ j < m ∧ P j = (S i).id))) (h6 : Hid (Below wq.heap.size wq wr)) : TwI n m S P wq v i wr := ⟨r, k, Q, h1, h2, h3, h4, h5, h6⟩
theorem tw_step {n m r k : Nat} {Q P : Nat → Int} {S : Nat → Se} {U1 : Int} (h : ∀ i, i < n → (hasI Q k (S i).id = true ↔ ∃ j, r + 1 ≤ j ∧ j < m ∧ P j = (S i).id)) (hr : r < m) (K : Nat) (hK : K = k + 2 ∨ (K = k + 3 ∧ ∀ i, i < n → ¬ (S i).id = U1)) : ∀ i, i < n → (hasI (tw Q k (P r) U1) K (S i).id = true ↔ ∃ j, r ≤ j ∧ j < m ∧ P j = (S i).id) := by
  intro i hi
  have h0 := h i hi
  rw [hasI_iff] at h0 ⊢
  constructor
  · rintro ⟨j, hj, e⟩
    by_cases h1 : j < k
    · rw [tw_lt _ _ _ h1] at e
      obtain ⟨j', a, b, c⟩ := h0.1 ⟨j, h1, e⟩
      exact ⟨j', by omega, b, c⟩
    · by_cases h2 : j < k + 2
      · unfold tw at e
        rw [if_neg h1, if_pos h2] at e
        exact ⟨r, Nat.le_refl _, hr, e⟩
      · rcases hK with hK | ⟨hK, hn⟩
        · omega
        · unfold tw at e
          rw [if_neg h1, if_neg h2] at e
          exact absurd e.symm (hn i hi)
  · rintro ⟨j, a, b, c⟩
    by_cases e : j = r
    · subst e
      exact ⟨k, by omega, by rw [tw_0]; exact c⟩
    · obtain ⟨j', hj', e'⟩ := h0.2 ⟨j, by omega, b, c⟩
      exact ⟨j', by omega, by rw [tw_lt _ _ _ hj']; exact e'⟩
set_option maxRecDepth 100000 in
set_option maxHeartbeats 8000000 in
theorem picks_law {w : World} (c : Me) {ao po : Option Addr} {n cap m cp : Nat} {S : Nat → Se} {P : Nat → Int} (hS : SeA w ao n cap S) (hn : n * 56 ≤ 140737488351232) (hh : ∀ i, i < n → (S i).hn ≤ 17592186043904) (hP : RdA w po 1 m cp (fun i => .int .i64 (P i))) (hm : m ≤ 1048576) :
    Calls Try.prog 3 #[mV c, .slice ao n cap, .slice po m cp] w fun e w' => e = .returned (.bool true) ∧ Below w.heap.size w w' := by
  have HPL : Hid (∀ z, Below w.heap.size w z → Calls Try.prog 6 #[mV c, .slice ao n cap, .slice po m cp] z fun e w' => ∃ vO vZ may, e = .returned (.tuple #[.agg #[vO, vZ], .bool may, .bool true]) ∧ PdR z w' c n S (hasI P m) vO vZ may) := fun z hz => planned_any c (hS.fresh hz) hn hh (hP.fresh hz) (by omega)
  have HSE := hidd hS
  have HPK := hidd hP
  obtain ⟨bs, bl, bu, ch, tr⟩ := c
  unfold mV at *
  simp only at HPL ⊢
  have HF := hidd (fresh_alloc w (.cells #[.int .i64 bs, .int .i64 bl, .int .i64 bu, .int .i64 ch, .int .i64 tr] 23))
  have HC5 : Hid (∀ z, Below (w.alloc (.cells #[.int .i64 bs, .int .i64 bl, .int .i64 bu, .int .i64 ch, .int .i64 tr] 23)).heap.size (w.alloc (.cells #[.int .i64 bs, .int .i64 bl, .int .i64 bu, .int .i64 ch, .int .i64 tr] 23)) z → z.cell? ⟨w.heap.size, 0, none⟩ = some (.int .i64 bs) ∧ z.cell? ⟨w.heap.size, 1, none⟩ = some (.int .i64 bl) ∧ z.cell? ⟨w.heap.size, 2, none⟩ = some (.int .i64 bu) ∧ z.cell? ⟨w.heap.size, 3, none⟩ = some (.int .i64 ch) ∧ z.cell? ⟨w.heap.size, 4, none⟩ = some (.int .i64 tr)) := fun z f => by
    obtain ⟨e0, e1, e2, e3, e4⟩ := box5 w (.int .i64 bs) (.int .i64 bl) (.int .i64 bu) (.int .i64 ch) (.int .i64 tr) 23
    exact ⟨fresh_cell f e0, fresh_cell f e1, fresh_cell f e2, fresh_cell f e3, fresh_cell f e4⟩
  have HP1 := hidd (HPL.out _ HF.out)
  have HMK := hidd (fun (z : World) (u q : Option Addr) (k kc kq : Nat) (Q : Nat → Int) (h1 : SeA z u n kc (fun i => S (n - 1 - i))) (h0 : u = none → kc = 0) (h2 : RdA z q 1 k kq (fun i => .int .i64 (Q i))) => make_any ⟨bs, bl, bu, ch, tr⟩ (S := fun i => S (n - 1 - i)) h1 h0 (fun _ _ => rfl) h2)
  unfold mV at HMK
  simp only at HMK
  clear hS hP hh HPL
  go_enter Try.func3, Try.ntmps3
  go_upto_region 2 with ((go_at_call 6; with_reducible refine HP1.out.mono ?_; rintro e w3 ⟨vO, vZ, may, rfl, hpd⟩; obtain ⟨uo, no, ko, rfl⟩ := hpd.sO; obtain ⟨uz, nz, kz, rfl⟩ := hpd.sZ))
  have HB3 := hidd (HF.out.trans (hpd.low.mono HF.out.size))
  have HL3 := hidd hpd.low
  have HFA := hidd (fresh_alloc w3 (.cells #[.slice uo no ko, .slice uz nz kz] 28))
  have HRP := hidd (two_new w3 (.slice uo no ko) (.slice uz nz kz) 28)
  have HB4 := hidd (HB3.out.trans (HFA.out.mono HB3.out.size))
  have HL4 := hidd (HL3.out.trans (HFA.out.mono HL3.out.size))
  have HPD := hidd hpd
  clear hpd
  cases may with
  | false =>
    go_wp2
    go_ret
    exact ⟨rfl, HB4.out⟩
  | true =>
    obtain ⟨hc, ha⟩ := HPD.out.iff.1 rfl
    have HA := hidd ha
    have HCO := hidd hc
    have HPP := hidd ((HPD.out.ok rfl).kept HFA.out)
    clear HPD ha hc HFA HB3 HL3
    have HF5 := hidd (HC5.out _ HL4.out)
    clear HC5 HP1 HL4
    obtain ⟨pb, HPB⟩ : ∃ pb, Hid (pb = w3.heap.size) := ⟨_, rfl⟩
    rw [← HPB.out] at HRP ⊢
    generalize (w3.alloc (.cells #[.slice uo no ko, .slice uz nz kz] 28)) = w4 at *
    have hnn : n ≤ 16 := HA.out.1
    go_wp2
    go_loopw [10, 11, 12] (fun v u i wr => ∃ (r : Nat) (U : Int), r ≤ n ∧ i = .int .i64 ((r : Int) - 1) ∧ u = .int .i64 U ∧ Hid (Own wr w4.heap.size 32 5 v (n - r) (seF (fun q => S (n - 1 - q)))) ∧ Hid (Below w4.heap.size w4 wr)) (fun _ _ i _ => (intOf i + 1).toNat)
    case atStart => exact ⟨n, 0, by omega, rfl, rfl, by rw [Nat.sub_self]; exact own_nil _ _ _ _ _, Below.refl _ _⟩
    case round =>
      obtain ⟨r, U, hr, rfl, rfl, HO, HW⟩ := hrel
      have HWW := hidd (HB4.out.trans (HW.out.mono HB4.out.size))
      obtain ⟨av, kv, rfl, _⟩ := HO.out.rd
      cases r with
      | succ r =>
        have er1 : ((r + 1 : Nat) : Int) - 1 = (r : Int) := by omega
        rw [er1]
        obtain ⟨b1, o1, rfl, hc1⟩ := (HSE.out.fresh HWW.out).rd.seat (by omega)
        obtain ⟨x0, x1, x2, x3, x4⟩ := hc1 r (by omega)
        have HC1 := hidd hc1
        clear hc1
        have hsz := HW.out.size
        have r0 : (0 : Int) ≤ (r : Int) := by omega
        have r1 : (r : Int) < (n : Int) := by omega
        have HNC : Hid (∀ (w0 : World) (t : TypeId) (j : Nat), j < 1 * 5 → (w0.alloc (.cells #[.int .i64 (S r).id, .int .i64 (S r).kn, .int .i64 (S r).ca, .int .i64 (S r).wa, .slice (S r).ho (S r).hn (S r).hc] t)).cell? ⟨w0.heap.size, j, none⟩ = some (seF (fun q => S (n - 1 - q)) ((n - (r + 1)) * 5 + j))) := fun w0 t j hj => by
          obtain ⟨t0, t1, t2, t3, t4⟩ := box5 w0 (.int .i64 (S r).id) (.int .i64 (S r).kn) (.int .i64 (S r).ca) (.int .i64 (S r).wa) (.slice (S r).ho (S r).hn (S r).hc) t
          rw [seF_at _ _ _ (by omega)]
          have e9 : n - 1 - (n - (r + 1)) = r := by omega
          simp only [e9]
          have : j = 0 ∨ j = 1 ∨ j = 2 ∨ j = 3 ∨ j = 4 := by omega
          rcases this with rfl | rfl | rfl | rfl | rfl
          · exact t0
          · exact t1
          · exact t2
          · exact t3
          · exact t4
        generalize S r = s at *
        obtain ⟨y0, y1, y2, y3, ho, hn0, hc0, HH⟩ := s
        simp only at x0 x1 x2 x3 x4 HNC
        go_upto_region 10 with (at_builtin; refine wpList_app _ rfl _ _ 24 rfl w4.heap.size 32 _ 5 56 Try.underlying24 infoSe rfl (by decide) _ (n - (r + 1)) (seF (fun q => S (n - 1 - q))) rfl (HO.out.kept (fresh_alloc _ _)) _ 1 1 rfl (HNC.out _ _) (fun j _ => seF_one _ _) (by decide) (by unfold maxLen; omega) (by omega) (by simp; omega) ?_; intro v6 w6 ho6 ha6)
        have HO6 : Hid (Own w6 w4.heap.size 32 5 v6 (n - r) (seF (fun q => S (n - 1 - q)))) := by
          have e9 : n - (r + 1) + 1 = n - r := by omega
          rw [e9] at ho6
          exact ho6
        have HB6 := hidd (ha6.below (HW.out.alloc hsz _) (HO.out.kept (fresh_alloc _ _)) (Nat.le_refl _) (by simp; omega))
        obtain ⟨a6, k6, e6, _⟩ := HO6.out.rd
        subst e6
        clear ho6 ha6 x0 x1 x2 x3 x4 HO HNC
        obtain ⟨b2, o2, e2, hc2⟩ := (HSE.out.fresh (HB4.out.trans (HB6.out.mono HB4.out.size))).rd.seat (by omega)
        cases e2
        obtain ⟨x0, _⟩ := hc2 r (by omega)
        clear hc2 HC1
        generalize (S r).id = yid at *
        go_wp2_with (go_at_call 7; with_reducible refine (greatest_any _ _ _).mono ?_; rintro e w7 ⟨rfl, hw7⟩; replace hw7 := hw7.symm; subst hw7)
        go_roundw
        case rel => exact ⟨r, _, by omega, by go_num, rfl, HO6, HB6⟩
        case measure => simp [intOf]
      | zero =>
        have er0 : ((0 : Nat) : Int) - 1 = -1 := rfl
        rw [er0]
        have HT := hidd (show Own wr w4.heap.size 32 5 (.slice av n kv) n (seF (fun q => S (n - 1 - q))) from HO.out)
        generalize wr = wq at *
        have HWr := HW
        have HTF := hidd (fun (z : World) (hz : Below wq.heap.size wq z) => HT.out.kept hz)
        clear HO
        go_wp2
        go_loopw [13, 14] (fun v i wr => TwI n m S P wq v i wr) (fun _ i _ => (intOf i + 1).toNat)
        case atStart => exact TwI.mk m 0 (fun _ => 0) (by omega) (by omega) rfl (own_nil _ _ _ _ _) (fun i _ => ⟨fun q => (by rw [hasI_iff] at q; obtain ⟨j, hj, _⟩ := q; omega), fun ⟨j, h1, h2, _⟩ => absurd h1 (by omega)⟩) (Below.refl _ _)
        case round =>
          obtain ⟨r, k, Q, hrm, hk3, rfl, HO, HQ, HX⟩ := hrel
          have HXW := hidd (HWW.out.trans (HX.out.mono HWW.out.size))
          obtain ⟨bv, jv, rfl, _⟩ := HO.out.rd
          cases r with
          | succ r =>
            have er1 : ((r + 1 : Nat) : Int) - 1 = (r : Int) := by omega
            rw [er1]
            obtain ⟨b1, o1, rfl, hc1⟩ := (HPK.out.fresh HXW.out).one (by omega)
            have x1 := hc1 r (by omega)
            clear hc1
            have hsz := HX.out.size
            have r0 : (0 : Int) ≤ (r : Int) := by omega
            have r1 : (r : Int) < (m : Int) := by omega
            obtain ⟨U1, HU1⟩ : ∃ y, Hid (y = wrap64 (U + 1)) := ⟨_, rfl⟩
            have HQ2 := hidd (fun K hK => tw_step (U1 := U1) HQ.out (by omega) K hK)
            have HOq : Hid (Own wr wq.heap.size 3 1 (.slice bv k jv) k (fun j => .int .i64 (tw Q k (P r) U1 j))) := HO.out.congr (fun j hj => by rw [tw_lt _ _ _ (by omega)])
            have HX0 : Hid (∀ (w0 : World) (ty : TypeId), (w0.alloc (.cells #[.int .i64 (P r)] ty)).cell? ⟨w0.heap.size, 0, none⟩ = some ((fun j => Value.int .i64 (tw Q k (P r) U1 j)) k)) := fun w0 ty => by rw [new_cell]; simp only [tw_0]
            have HX1 : Hid (∀ (w0 : World) (ty : TypeId), (w0.alloc (.cells #[.int .i64 (P r)] ty)).cell? ⟨w0.heap.size, 0, none⟩ = some ((fun j => Value.int .i64 (tw Q k (P r) U1 j)) (k + 1))) := fun w0 ty => by rw [new_cell]; simp only [tw_1]
            have HX2 : Hid (∀ (w0 : World) (ty : TypeId), (w0.alloc (.cells #[.int .i64 (wrap64 (U + 1))] ty)).cell? ⟨w0.heap.size, 0, none⟩ = some ((fun j => Value.int .i64 (tw Q k (P r) U1 j)) (k + 2))) := fun w0 ty => by rw [new_cell, ← HU1.out]; simp only [tw_2]
            generalize tw Q k (P r) U1 = T at *
            obtain ⟨p, HPR⟩ : ∃ y, Hid (P r = y) := ⟨_, rfl⟩
            rw [HPR.out] at x1 HX0 HX1
            clear HO HQ
            go_upto_region 16 with (at_builtin; refine wpList_app1 _ rfl _ _ 25 rfl wq.heap.size 3 (.int .i64 0) 8 Try.underlying25 infoI rfl _ k (fun j => .int .i64 (T j)) rfl (HOq.out.kept (fresh_alloc _ _)) _ 1 rfl (HX0.out _ _) rfl (by omega) (by omega) (by simp; omega) ?_; intro v4 w5 ho5 ha5)
            have HO5 := hidd ho5
            have HB5 := hidd (ha5.below (HX.out.alloc hsz _) (HOq.out.kept (fresh_alloc _ _)) (Nat.le_refl _) (by simp; omega))
            obtain ⟨a5, k5, rfl, _⟩ := HO5.out.rd
            clear ho5 ha5 x1 HOq HX0
            have hsz5 := HB5.out.size
            obtain ⟨b2, o2, e2, hc2⟩ := (HPK.out.fresh (HWW.out.trans (HB5.out.mono HWW.out.size))).one (by omega)
            cases e2
            have x1 := hc2 r (by omega)
            rw [HPR.out] at x1
            clear hc2
            go_upto_region 17 with (at_builtin; refine wpList_app1 _ rfl _ _ 25 rfl wq.heap.size 3 (.int .i64 0) 8 Try.underlying25 infoI rfl _ (k + 1) (fun j => .int .i64 (T j)) rfl (HO5.out.kept (fresh_alloc _ _)) _ 1 rfl (HX1.out _ _) rfl (by omega) (by omega) (by simp; omega) ?_; intro v4 w6 ho6 ha6)
            have HO6 := hidd ho6
            have HB6 := hidd (ha6.below (HB5.out.alloc hsz5 _) (HO5.out.kept (fresh_alloc _ _)) (Nat.le_refl _) (by simp; omega))
            obtain ⟨a6, k6, rfl, _⟩ := HO6.out.rd
            clear ho6 ha6 x1 HO5 HX1
            have HST := hidd (fun x => seat_all (HSE.out.fresh (HWW.out.trans (HB6.out.mono HWW.out.size))).rd x)
            go_upto_region 18 with (go_at_call 8; with_reducible refine (HST.out _).mono ?_; rintro e w7 ⟨s, b, rfl, hbn, hb7⟩; obtain ⟨z0, z1, z2, z3, zo, zn, zc, zH⟩ := s; unfold seV; simp only)
            have HBN := hidd hbn
            have HB7 : Hid (Below wq.heap.size wq w7) := HB6.out.trans (hb7.mono HB6.out.size)
            have HO7 := hidd (HO6.out.kept hb7)
            clear hbn hb7 HST HO6
            have HB8 := hidd (HB7.out.alloc HB7.out.size (.cells #[.int .i64 z0, .int .i64 z1, .int .i64 z2, .int .i64 z3, .slice zo zn zc] 32))
            have HO8 := hidd (HO7.out.kept (fresh_alloc w7 (.cells #[.int .i64 z0, .int .i64 z1, .int .i64 z2, .int .i64 z3, .slice zo zn zc] 32)))
            generalize w7.alloc (.cells #[.int .i64 z0, .int .i64 z1, .int .i64 z2, .int .i64 z3, .slice zo zn zc] 32) = w8 at *
            clear HO7 HB7
            cases b with
            | true =>
              go_wp2
              go_roundw
              case rel => exact TwI.mk r (k + 2) T (by omega) (by omega) (by go_num) HO8 (hidd (HQ2.out _ (.inl rfl))) HB8
              case measure => simp [intOf]; omega
            | false =>
              have HNE : Hid (∀ i, i < n → ¬ (S i).id = U1) := fun i hi => by rw [HU1.out]; exact HBN.out rfl i hi
              have hsz8 := HB8.out.size
              go_upto_region 14 with (at_builtin; refine wpList_app1 _ rfl _ _ 25 rfl wq.heap.size 3 (.int .i64 0) 8 Try.underlying25 infoI rfl _ (k + 2) (fun j => .int .i64 (T j)) rfl (HO8.out.kept (fresh_alloc _ _)) _ 1 rfl (HX2.out _ _) rfl (by omega) (by omega) (by simp; omega) ?_; intro v4 w9 ho9 ha9)
              have HO9 := hidd ho9
              have HB9 := hidd (ha9.below (HB8.out.alloc hsz8 _) (HO8.out.kept (fresh_alloc _ _)) (Nat.le_refl _) (by simp; omega))
              obtain ⟨a9, k9, rfl, _⟩ := HO9.out.rd
              clear ho9 ha9
              go_wp2
              go_roundw
              case rel => exact TwI.mk r (k + 3) T (by omega) (by omega) (by go_num) HO9 (hidd (HQ2.out _ (.inr ⟨rfl, HNE.out⟩))) HB9
              case measure => simp [intOf]; omega
          | zero =>
            have er0 : ((0 : Nat) : Int) - 1 = -1 := rfl
            rw [er0]
            have HKQ : Hid (∀ i, i < n → hasI P m (S i).id = hasI Q k (S i).id) := fun i hi => by
              rw [Bool.eq_iff_iff, HQ.out i hi, hasI_iff]
              exact ⟨fun ⟨j, h1, h2⟩ => ⟨j, Nat.zero_le _, h1, h2⟩, fun ⟨j, _, h1, h2⟩ => ⟨j, h1, h2⟩⟩
            have HX4 := hidd (HWr.out.trans (HX.out.mono HWr.out.size))
            obtain ⟨s0, s1, s2, s3, s4⟩ := HF5.out
            have t0 := fresh_cell HX4.out s0
            have t1 := fresh_cell HX4.out s1
            have t2 := fresh_cell HX4.out s2
            have t3 := fresh_cell HX4.out s3
            have t4 := fresh_cell HX4.out s4
            clear s0 s1 s2 s3 s4 HF5
            have HTX := hidd (HTF.out _ HX.out)
            have HSR : Hid (SeA wr av n kv (fun i => S (n - 1 - i))) := ⟨own_rda HTX.out, fun i hi => (HSE.out.fresh HXW.out).hd (n - 1 - i) (by omega)⟩
            have HM1 := hidd (HMK.out wr av bv k kv jv Q HSR.out (own_h0 HTX.out) (own_rda HO.out))
            clear HMK HTF
            go_upto_region 21 with (go_at_call 9; with_reducible refine HM1.out.mono ?_; rintro e w5 ⟨vO, vZ, no2, nz2, x, rfl, hmr⟩; obtain ⟨pu, pk, rfl⟩ := hmr.sO; obtain ⟨qu, qk, rfl⟩ := hmr.sZ)
            obtain ⟨rfl, hpl⟩ := hmr.ok HCO.out (okA_rev HA.out)
            obtain ⟨mO, mZ, oI, zI, zT, zG, o1, o2, o3, o4⟩ := plans_same HPP.out hpl (rev_perm n S) HKQ.out HCO.out hnn
            have HB5 := hidd hmr.low
            have HB45 := hidd (HX4.out.trans (hmr.low.mono HX4.out.size))
            have HFA := hidd (fresh_alloc w5 (.cells #[.slice pu no2 pk, .slice qu nz2 qk] 28))
            have HRQ := hidd (two_new w5 (.slice pu no2 pk) (.slice qu nz2 qk) 28)
            obtain ⟨_, _, e1, _⟩ := o1.rd
            cases e1
            obtain ⟨_, _, e1, _⟩ := o2.rd
            cases e1
            obtain ⟨_, _, e1, _⟩ := o3.rd
            cases e1
            obtain ⟨_, _, e1, _⟩ := o4.rd
            cases e1
            have HR4 := hidd ((HRP.out.of_block (HB45.out.block _ HRP.out.lt)))
            have HEP := hidd (eqPlan_same (own_rda ((o1.kept HB45.out).kept HFA.out)) (own_rda ((o2.kept HB45.out).kept HFA.out)) (own_rda (o3.kept HFA.out)) (own_rda (o4.kept HFA.out)))
            have p0 : (w5.alloc (.cells #[.slice pu no pk, .slice qu nz qk] 28)).cell? ⟨pb, 0, none⟩ = some (.slice uo no ko) := fresh_cell HFA.out (HR4.out.cell (i := 0) (by decide))
            have p1 : (w5.alloc (.cells #[.slice pu no pk, .slice qu nz qk] 28)).cell? ⟨pb, 1, none⟩ = some (.slice uz nz kz) := fresh_cell HFA.out (HR4.out.cell (i := 1) (by decide))
            have q0 : (w5.alloc (.cells #[.slice pu no pk, .slice qu nz qk] 28)).cell? ⟨w5.heap.size, 0, none⟩ = some (.slice pu no pk) := HRQ.out.cell (i := 0) (by decide)
            have q1 : (w5.alloc (.cells #[.slice pu no pk, .slice qu nz qk] 28)).cell? ⟨w5.heap.size, 1, none⟩ = some (.slice qu nz qk) := HRQ.out.cell (i := 1) (by decide)
            have HBW := hidd ((HB4.out.trans (HB45.out.mono HB4.out.size)).trans (HFA.out.mono (HB4.out.trans (HB45.out.mono HB4.out.size)).size))
            clear hmr hpl o1 o2 o3 o4 HFA HRQ HR4 HB45 HB5 HM1 HPP
            generalize w5.heap.size = g5 at *
            generalize w5.alloc (.cells #[.slice pu no pk, .slice qu nz qk] 28) = w6 at *
            go_wp2_with (go_at_call 10; with_reducible refine HEP.out.mono ?_; rintro e w7 ⟨rfl, hb7⟩)
            go_ret
            exact ⟨rfl, HBW.out.trans (hb7.mono HBW.out.size)⟩
end Go.Proofs.Ytdceahebkohbjab
