import Derived.Test.YtaalinlggjimcaaFI
namespace Go.Proofs.Ytaalinlggjimcaa
open Go.RowKit
def putX {α : Type} (f : Nat → α) (r : Nat) (x : α) : Nat → α := fun j => if j = r then x else f j
theorem putX_at {α : Type} (f : Nat → α) (r : Nat) (x : α) : putX f r x r = x := if_pos rfl
theorem putX_ne {α : Type} (f : Nat → α) {r j : Nat} (x : α) (h : j < r) : putX f r x j = f j := if_neg (by omega)
theorem new_valX (w : World) {x y : Value} (t : TypeId) (h : y = x) : (w.alloc (.cells #[x] t)).cell? ⟨w.heap.size, 0, none⟩ = some y := by rw [h]; exact new_cell _ _ _
theorem Fr.fresh {w0 w w' : World} {c : Ca} {A : Nat → Prop} {L : List Nd} {N cb nb S : Nat} {cnt : Nat → Nat} {num : Nat → Int} {vK vF : Value} {r m : Nat} {ix : Nat → Nat} {Bv : Nat → Value} {G : Nat → Nat → Nat} {AO : Nat → Option Addr} {LN CP : Nat → Nat} {TT : Nat → Nat → Int} (h : Fr w0 w c A L N cb nb S cnt num vK vF r m ix Bv G AO LN CP TT) (f : Below w.heap.size w w') : Fr w0 w' c A L N cb nb S cnt num vK vF r m ix Bv G AO LN CP TT :=
  ⟨h.fm.fresh f, h.kp, h.ct, h.ixm⟩
theorem fm_grow {w0 w w1 w2 w3 w4 : World} {c : Ca} {A : Nat → Prop} {L : List Nd} {N cb nb S : Nat} {cnt : Nat → Nat} {num : Nat → Int} {vK vF vK' vF' : Value} {r : Nat} {Kv Bv : Nat → Value} {Ln : Nat → Nat} {G : Nat → Nat → Nat} (h : Fm w0 w c A L N cb nb S cnt num vK vF r Kv Bv Ln G) (hv : Lone w0 w A cb nb c.pg vK vF (Bv r) (Ln r / S) (G r))
    (f1 : Below w.heap.size w w1) (a1 : App w1 w2 vK vK') (k2 : Own w2 w0.heap.size 22 1 vK' (r + 1) Kv) (f2 : Below w2.heap.size w2 w3) (a2 : App w3 w4 vF vF') (k4 : Own w4 w0.heap.size 22 1 vF' (r + 1) Bv) : Fm w0 w4 c A L N cb nb S cnt num vK' vF' (r + 1) Kv Bv Ln G := by
  have hF : ∀ z, noF A cb nb c.pg z → z < w.heap.size := fun z e => by
    rcases e with e | e | e | e
    · exact h.cache.low z e
    · rw [e]; exact h.pool.cnts.lt
    · rw [e]; exact h.pool.nums.lt
    · rw [e]; exact h.pool.row.lt
  have hls := h.ls.grow hF hv.own hv.free hv.k hv.f f1 a1 k2 f2 a2 k4
  have ch : Chg w w4 (fun z => vK.ownBlock = some z ∨ vF.ownBlock = some z) := by
    refine ((Chg.pre f1 ((Chg.of_app a1).imp (fun z _ e => Or.inl e))).post f2).trans (Chg.of_app a2) (fun z _ e => Or.inr e)
  have no : ∀ z, noF A cb nb c.pg z → ¬ (vK.ownBlock = some z ∨ vF.ownBlock = some z) := fun z hz e => by
    rcases e with e | e
    · exact h.ls.kfree z e hz
    · exact h.ls.ffree z e hz
  refine ⟨h.cache.chg ch (fun z hz => no z (.inl hz)), h.pool.chg ch (no _ (.inr (.inr (.inr rfl)))) (no _ (.inr (.inl rfl))) (no _ (.inr (.inr (.inl rfl)))), h.hS, h.hB, h.o1, h.o2, h.o3, h.lo, h.l1, h.l2, hls, ch.below h.low h.low.size (fun z e => ?_)⟩
  rcases e with e | e
  · exact (h.ls.kown.lt z e).1
  · exact (h.ls.fown.lt z e).1
theorem Lone.cell {w0 w : World} {A : Nat → Prop} {cb nb pg : Nat} {vK vF : Value} {vo : Option Addr} {vc n : Nat} {g : Nat → Nat} (h : Lone w0 w A cb nb pg vK vF (.slice vo n vc) n g) {j : Nat} (hj : j < n) : ∃ bb, vo = some ⟨bb, 0, none⟩ ∧ w.cell? ⟨bb, j, none⟩ = some (.int .i64 (g j : Int)) := by
  rcases h.own.list with ⟨_, e⟩ | ⟨bb, cap, e, _, hr⟩
  · omega
  · injection e with e1 e2 e3
    obtain ⟨b, off, e4, hc⟩ := hr.one (by omega)
    cases e4
    exact ⟨bb, e1, by simpa using hc j hj⟩
set_option maxRecDepth 100000 in
set_option maxHeartbeats 16000000 in
theorem finds_law {w : World} {bo : Option Addr} {m cap : Nat} {AO : Nat → Option Addr} {LN CP : Nat → Nat} {Q : Nat → Bool} {TT : Nat → Nat → Int} (a : Int) (hr : RdA w bo 2 m cap (txc AO LN CP Q)) (htx : TxAt w AO LN CP TT m) (hfit : ∀ i, i < m → ∀ j, j < LN i → fits (TT i j)) (hLN : ∀ i, i < m → LN i ≤ 4611686018427387904) (hm : m ≤ 4611686018427387904) :
    Calls Try.prog 5 #[.int .i64 a, .slice bo m cap] w fun e w' => e = .returned (.bool true) ∧ Below w.heap.size w w' := by
  have H1 := hidd (works_any w)
  have HRD := hidd hr
  have HIN := hidd (And.intro htx (And.intro hfit hLN))
  have hnc := hr.le
  clear hr htx hfit hLN
  go_enter Try.func5, Try.ntmps5
  go_wp2_with (go_at_call 9; with_reducible refine H1.out.mono ?_; rintro e w1 ⟨rfl, f1⟩)
  clear H1
  have F1 := hidd f1
  clear f1
  go_loopw [6, 7] (fun vs vi wr => ∃ (s i : Nat), i ≤ m ∧ m ≤ s ∧ s ≤ 4611686020575133696 ∧ vs = .int .i64 (s : Int) ∧ vi = .int .i64 (i : Int) ∧ w1 = wr ∧ Hid (∀ j, j < i → LN j ≤ s)) (fun _ vi _ => m - (intOf vi).toNat)
  case atStart => exact ⟨m, 0, by omega, by omega, by omega, rfl, rfl, rfl, fun j hj => absurd hj (by omega)⟩
  case round =>
    obtain ⟨s, i, hi, hms, hs, rfl, rfl, rfl, HS⟩ := hrel
    by_cases hlong : 2147483647 < s
    · have HL := hidd (lng_yes (n := s) w1 hlong (by omega))
      by_cases hlt : i < m
      · go_wp2_with (go_at_call 15; with_reducible refine HL.out.mono ?_; rintro e w9 ⟨rfl, h9⟩; rw [h9]; clear h9)
        go_ret
        exact ⟨rfl, F1.out⟩
      · go_wp2_with (go_at_call 15; with_reducible refine HL.out.mono ?_; rintro e w9 ⟨rfl, h9⟩; rw [h9]; clear h9)
        go_ret
        exact ⟨rfl, F1.out⟩
    · have HL := hidd (lng_no (n := s) w1 (by omega))
      by_cases hlt : i < m
      · obtain ⟨b, off, rfl, hc⟩ := tx_cells HRD.out F1.out (by omega)
        obtain ⟨d, _⟩ := hc i hlt
        have i0 : (0 : Int) ≤ (i : Int) := by omega
        have i1 : (i : Int) < (m : Int) := by omega
        have hl := HIN.out.2.2 i hlt
        clear hc hi
        go_wp2_with (go_at_call 15; with_reducible refine HL.out.mono ?_; rintro e w9 ⟨rfl, h9⟩; rw [h9]; clear h9)
        go_roundw
        case rel => exact ⟨s + LN i, i + 1, by omega, by omega, by omega, by go_num, by go_num, (by first | rfl | trivial), fun j hj => (by
          by_cases e : j = i
          · rw [e]; omega
          · have := HS.out j (by omega); omega)⟩
        case measure => simp [intOf]; omega
      · obtain rfl : m = i := by omega
        clear hi hlt
        by_cases hbad : a < 1 ∨ 16 < a
        · have HN := hidd (new_bad w1 a hbad)
          go_wp2_with (first
            | (go_at_call 15; with_reducible refine HL.out.mono ?_; rintro e w9 ⟨rfl, h9⟩; rw [h9]; clear h9)
            | (go_at_call 16; with_reducible refine HN.out.mono ?_; rintro e w9 ⟨rfl, h9⟩; rw [h9]; clear h9))
          go_ret
          exact ⟨rfl, F1.out⟩
        · obtain ⟨S, rfl⟩ : ∃ S : Nat, a = (S : Int) := ⟨a.toNat, by omega⟩
          have hS1 : 1 ≤ S := by omega
          have hS2 : S ≤ 16 := by omega
          have HN := hidd (new_256 (S := S) w1 ⟨hS1, hS2⟩)
          have HLN : Hid (∀ j, j < m → LN j ≤ 2147483647) := fun j hj => by have := HS.out j hj; omega
          have hm2 : m ≤ 2147483647 := by omega
          clear hbad HS
          go_wp2_with (first
            | (go_at_call 15; with_reducible refine HL.out.mono ?_; rintro e w9 ⟨rfl, h9⟩; rw [h9]; clear h9)
            | (go_at_call 16; with_reducible refine HN.out.mono ?_; rintro e w2 ⟨g, cb, nb, rfl, PA, ⟨hg1, hg2, hg3⟩, f2⟩; have s1 := F1.out.size; have H3 := hidd (fr_new (w0 := w) m AO LN CP TT PA (by omega) (by omega) (F1.out.trans (f2.mono s1))); clear PA)
            | (go_at_call 10; with_reducible refine H3.out.mono ?_; rintro e w3 ⟨c, A0, rfl, hpg, W3⟩; subst hpg; have HW3 := hidd W3; clear W3))
          clear HL HN H3 hg1 hg2 hg3 f2 s1 F1
          have hz : ¬ (S : Int) = 0 := by omega
          go_loopw [11, 12, 13, 14, 15, 16, 17, 18, 19, 20, 21, 22] (fun vK vF vi _ _ _ _ _ _ _ _ _ wr => ∃ (i r N : Nat) (A : Nat → Prop) (L : List Nd) (cnt : Nat → Nat) (num : Nat → Int) (ix : Nat → Nat) (Bv : Nat → Value) (G : Nat → Nat → Nat), i ≤ m ∧ r ≤ i ∧ N ≤ 2 * i ∧ vi = .int .i64 (i : Int) ∧ Hid (Fr w wr c A L N cb nb S cnt num vK vF r m ix Bv G AO LN CP TT)) (fun _ _ vi _ _ _ _ _ _ _ _ _ _ => m - (intOf vi).toNat)
          case atStart => exact ⟨0, 0, 0, A0, [], _, _, _, _, _, by omega, by omega, by omega, rfl, HW3.out⟩
          case round =>
            clear HW3
            obtain ⟨i, r, N, A, L, cnt, num, ix, Bv, G, hi, hri, hNi, rfl, H⟩ := hrel
            by_cases hlt : i < m
            · obtain ⟨b, off, rfl, hc⟩ := tx_cells HRD.out H.out.fm.low (by omega)
              obtain ⟨d, dq⟩ := hc i hlt
              have i0 : (0 : Int) ≤ (i : Int) := by omega
              have i1 : (i : Int) < (m : Int) := by omega
              have hl := HLN.out i hlt
              have HLG := hidd (fr_longest H.out HIN.out.1 hlt ⟨hS1, hS2⟩)
              clear hc hi
              go_wp2_with (first
                | (go_at_call 20; with_reducible refine HLG.out.mono ?_; rintro e w4 ⟨⟨best, rfl, hbest⟩, f4⟩; have HB := hidd hbest; clear hbest; have H4 := hidd (copyI_any ((HIN.out.1.rd i hlt).fresh (H.out.fm.low.trans (f4.mono H.out.fm.low.size))) (by omega)))
                | (go_at_call 21; with_reducible refine H4.out.mono ?_; rintro e w5 ⟨u, uc, rfl, r5, f5⟩; have H5 := hidd (fr_find (H.out.fresh (fresh_trans f4 f5)) (by omega) r5 (HIN.out.2.1 i hlt) HB.out); clear r5)
                | (go_at_call 11; with_reducible refine H5.out.mono ?_; rintro e w6 ⟨g, X, L6, b6, o6, rfl, hb6, r6, T6, LG6, W6⟩; have HW6 := hidd (And.intro W6 (And.intro T6 LG6)); have HR6 := hidd r6; clear W6 T6 LG6 r6))
              clear HLG H4 H5 HB d f4 f5 H
              go_loopw [17] (fun vk wr => ∃ k : Nat, k ≤ best ∧ vk = .int .i64 (k : Int) ∧ Below w6.heap.size w6 wr) (fun vk _ => best - (intOf vk).toNat)
              case atStart => exact ⟨0, by omega, rfl, Below.refl _ _⟩
              case round =>
                obtain ⟨k, hk, rfl, hf⟩ := hrel
                by_cases hkb : k < best
                · have c1 := fresh_cell hf.drew (HR6.out.cell (i := k) hkb)
                  have f0 : Below wr.heap.size wr wr.drew := (Below.refl _ _).drew
                  have HOW := hidd (fr_owner (HW6.out.1.fresh hf.drew) HIN.out.1 hlt ⟨hS1, hS2⟩ HW6.out.2.1 hkb hb6)
                  have HCO : Hid (∀ Z, Below w6.heap.size w6 Z → Calls Try.prog 23 #[.pointer (some ⟨c.pg, 0, none⟩), .int .i64 (X k : Nat)] Z fun e w' => e = .returned (.int .i64 1) ∧ w' = Z) := fun Z hZ => by
                    refine (count_any (HW6.out.1.fm.pool.fresh hZ) (X k : Nat)).mono ?_
                    rintro e w' ⟨rfl, hw⟩
                    obtain ⟨q1, q2, _⟩ := HW6.out.2.1 k hkb
                    exact ⟨by rw [cntI_nat _ q1, q2]; rfl, hw⟩
                  have k0 : (0 : Int) ≤ (k : Int) := by omega
                  have k1 : (k : Int) < (best : Int) := by omega
                  generalize X k = xk at c1 HOW HCO
                  clear hk
                  go_wp2
                  go_region_held3 (fun w' => w'.cell? ⟨g, k, none⟩ = some (.int .i64 (xk : Nat)))
                    (first | (with_reducible exact c1) | (with_reducible exact k5) | go_keep)
                    (first
                      | (go_at_call 22; with_reducible refine HOW.out.mono ?_; rintro e w7 ⟨rfl, f7⟩; have k5 := fresh_cell f7 c1; have f67 := hf.drew.trans (f7.mono (hf.drew).size); have HC5 := hidd (HCO.out w7 f67))
                      | (go_at_call 23; with_reducible refine HC5.out.mono ?_; rintro e w9 ⟨rfl, h9⟩; rw [h9]; clear h9))
                  all_goals
                    go_wp2
                    go_roundw
                    case rel => exact ⟨k + 1, by omega, by go_num, f67⟩
                    case measure => simp [intOf]; omega
                · obtain rfl : best = k := by omega
                  clear hk hkb HR6
                  obtain ⟨n, hn⟩ : ∃ n, n = LN i / S := ⟨_, rfl⟩
                  have hq : ((LN i : Int).tdiv (S : Int)) = (n : Int) := by rw [Int.tdiv_eq_ediv_of_nonneg (by omega), hn]; push_cast; rfl
                  have hnl : n ≤ LN i := by rw [hn]; exact Nat.div_le_self _ _
                  have HWR := hidd (HW6.out.1.fresh hf)
                  have HNN := hidd hn
                  have HLG := hidd HW6.out.2.2
                  obtain ⟨b', off', eb, hc'⟩ := tx_cells HRD.out HWR.out.fm.low (by omega)
                  cases eb
                  have dq' := (hc' i hlt).2
                  clear hc' hn HW6 dq
                  have HLF := hidd (left_any HWR.out.fm.pool)
                  by_cases hQ : Q i = true
                  · rw [hQ] at dq'
                    clear hQ
                    go_wp2
                    go_roundw
                    case rel => exact ⟨i + 1, r, N + 1, A, L6, cnt, num, ix, Bv, G, by omega, by omega, by omega, by go_num, HWR.out⟩
                    case measure => simp [intOf]; omega
                  · have hQ' : Q i = false := by simpa using hQ
                    rw [hQ'] at dq'
                    clear hQ hQ'
                    obtain ⟨fr, hfr⟩ : ∃ fr, fr = freeN cnt c.B := ⟨_, rfl⟩
                    rw [← hfr] at HLF
                    by_cases hfn : fr < n
                    · go_wp2_with (go_at_call 24; with_reducible refine HLF.out.mono ?_; rintro e w9 ⟨rfl, h9⟩; rw [h9]; clear h9)
                      go_roundw
                      case rel => exact ⟨i + 1, r, N + 1, A, L6, cnt, num, ix, Bv, G, by omega, by omega, by omega, by go_num, HWR.out⟩
                      case measure => simp [intOf]; omega
                    · have HTK := hidd (fm_taken HWR.out.fm (n := n) (by omega))
                      have hle : ¬ (fr : Int) < (n : Int) := by omega
                      go_wp2_with (first
                        | (go_at_call 24; with_reducible refine HLF.out.mono ?_; rintro e w9 ⟨rfl, h9⟩; rw [h9]; clear h9)
                        | (go_at_call 25; with_reducible refine HTK.out.mono ?_; rintro e w7 ⟨v, gg, cnt7, num7, rfl, W7, V7, K7⟩; have H8 := hidd (copyI_any ((HIN.out.1.rd i hlt).fresh W7.low) (by omega)); have HW7 := hidd (And.intro W7 (And.intro V7 K7)); clear W7 V7 K7)
                        | (go_at_call 21; with_reducible refine H8.out.mono ?_; rintro e w8 ⟨u8, uc8, rfl, r8, f8⟩; have H9 := hidd (fm_keep (HW7.out.1.fresh f8) (by omega) r8 (HIN.out.2.1 i hlt) (HW7.out.2.1.fresh f8) HW7.out.2.2 HWR.out.ct HNN.out (by rw [HNN.out]; exact HLG.out)); clear r8)
                        | (go_at_call 12; with_reducible refine H9.out.mono ?_; rintro e w9 ⟨rfl, A9, L9, news, E9, W9, V9⟩; have HW9 := hidd (And.intro W9 V9); have HE9 := hidd E9; clear W9 V9 E9))
                      obtain ⟨vo, vc, rfl, _⟩ := HW9.out.2.own.rd
                      have KT := hidd HW7.out.2.2
                      have hbn : best ≤ n := by have := HLG.out.le; rw [pcL_len] at this; rw [HNN.out]; exact this
                      have hBB : Hid (c.B = 256) := HWR.out.fm.hB
                      have HWR2 := hidd (And.intro HWR.out.kp (And.intro HWR.out.ct (And.intro HWR.out.ixm HWR.out.fm.cache.well)))
                      have hvm : n ≤ 256 := by have := KT.out.free; have := freeN_le cnt c.B; have := hBB.out; omega
                      clear HTK H8 H9 HLF HW7 HWR hle hfn dq' f8 hf hq hfr
                      go_loopw [22] (fun vj wr => ∃ j : Nat, j ≤ n ∧ vj = .int .i64 (j : Int) ∧ Hid (Fm w wr c A9 (useL L9 (pcL (TT i) S n) (N + 1 + 1)) (N + 1 + 1) cb nb S (dC (addC cnt7 gg best (n - best)) gg j) num7 u11 u12 r (fun i => Value.slice (AO (ix i)) (LN (ix i)) (CP (ix i))) Bv (fun i => LN (ix i)) G ∧ Lone w wr A9 cb nb c.pg u11 u12 (.slice vo n vc) n gg)) (fun vj _ => n - (intOf vj).toNat)
                      case atStart => exact ⟨0, by omega, rfl, HW9.out⟩
                      case round =>
                        clear HW9
                        obtain ⟨j, hj, rfl, HJ⟩ := hrel
                        by_cases hjn : j < n
                        · obtain ⟨bb, rfl, dj⟩ := HJ.out.2.cell hjn
                          have hval : dC (addC cnt7 gg best (n - best)) gg j (gg j) = addC cnt7 gg best (n - best) (gg j) := dC_off _ _ _ (fun i' hi' => KT.out.inj i' j hi' hjn)
                          have g1 := addC_ge cnt7 gg best (n - best) (gg j)
                          have g2 := addC_le cnt7 gg best (n - best) (gg j)
                          rw [KT.out.now j hjn] at g1 g2
                          have HD := hidd (fm_drop HJ.out.1 HJ.out.2 (b := gg j) (KT.out.lt j hjn) (by rw [hval]; omega) (by rw [hval]; omega))
                          have j0 : (0 : Int) ≤ (j : Int) := by omega
                          have j1 : (j : Int) < (n : Int) := by omega
                          clear hval g1 g2 hj
                          go_wp2_with (go_at_call 19; with_reducible refine HD.out.mono ?_; rintro e w10 ⟨rfl, W10, V10⟩; have HW10 := hidd (And.intro W10 V10); clear W10 V10)
                          go_roundw
                          case rel => exact ⟨j + 1, by omega, by go_num, HW10.out⟩
                          case measure => simp [intOf]; omega
                        · obtain rfl : n = j := by omega
                          clear hj hjn
                          have HX := hidd (HJ.out.1.congr (Kv' := fun i' => .slice (AO (putX ix r i i')) (LN (putX ix r i i')) (CP (putX ix r i i'))) (Bv' := putX Bv r (.slice vo n vc)) (Ln' := fun i' => LN (putX ix r i i')) (G' := putX G r gg) (fun i' hi' => by rw [putX_ne _ _ hi']) (fun i' hi' => (putX_ne _ _ hi').symm) (fun i' hi' => by rw [putX_ne _ _ hi']) (fun i' hi' => (putX_ne _ _ hi').symm))
                          have hrm : r ≤ 2147483647 := by omega
                          have oK := HX.out.ls.kown
                          have eK : (.slice (AO (putX ix r i r)) (LN (putX ix r i r)) (CP (putX ix r i r)) : Value) = .slice (AO i) (LN i) (CP i) := by rw [putX_at]
                          have eB : putX Bv r (.slice vo n vc) r = (.slice vo n vc : Value) := putX_at _ _ _
                          have hsz := HX.out.low.size
                          go_wp2_with (at_builtin; refine wpList_app1 _ rfl _ _ 44 rfl w.heap.size 22 (.slice none 0 0) 24 Try.underlying44 infoSI rfl _ r (fun i' => .slice (AO (putX ix r i i')) (LN (putX ix r i i')) (CP (putX ix r i i'))) rfl (oK.kept (fresh_alloc _ _)) _ 1 rfl (new_valX _ _ eK) rfl (by omega) (by omega) (by simp; omega) ?_)
                          intro vK2 w11 ow11 ap11
                          have s11 := ap11.grown.size
                          have oF : Own w11 w.heap.size 22 1 u12 r (putX Bv r (.slice vo n vc)) := ap11.own (HX.out.ls.fown.kept (fresh_alloc _ _)) HX.out.ls.kf
                          have HA11 := hidd (And.intro ap11 ow11)
                          clear ap11 ow11 oK
                          have hs2 : w.heap.size ≤ w11.heap.size := by simp at s11; omega
                          go_wp2_with (at_builtin; refine wpList_app1 _ rfl _ _ 44 rfl w.heap.size 22 (.slice none 0 0) 24 Try.underlying44 infoSI rfl _ r (putX Bv r (.slice vo n vc)) rfl (oF.kept (fresh_alloc _ _)) _ 1 rfl (new_valX _ _ eB) (by rw [putX_at]; rfl) (by omega) (by omega) (by simp; omega) ?_)
                          intro vF2 w12 ow12 ap12
                          have HA12 := hidd (And.intro ap12 ow12)
                          clear ap12 ow12 oF
                          go_wp2
                          go_roundw
                          case rel =>
                            have hext := HE9.out
                            have hLx := HLG.out
                            have hnn : n = LN i / S := HNN.out
                            refine ⟨i + 1, r + 1, N + 1 + 1, A9, _, _, num7, putX ix r i, putX Bv r (.slice vo n vc), putX G r gg, by omega, by omega, by omega, by go_num, ⟨fm_grow HX.out ?_ (fresh_alloc _ _) HA11.out.1 HA11.out.2 (fresh_alloc _ _) HA12.out.1 HA12.out.2, ?_, ?_, fun i' hi' => ?_⟩⟩
                            · simp only [putX_at]
                              rw [← hnn]
                              exact HJ.out.2
                            · have hkp := HWR2.out.1.congr (T' := fun i' => TT (putX ix r i i')) (Ln' := fun i' => LN (putX ix r i i')) (G' := putX G r gg) (fun i' hi' => by rw [putX_ne _ _ hi']) (fun i' hi' => by rw [putX_ne _ _ hi']) (fun i' hi' => (putX_ne _ _ hi').symm)
                              refine Kp.same ?_ (mkF_same _ _ _)
                              refine hkp.add HWR2.out.2.2.2 (k := best) (b := b6) (o := o6) (C := c.C) (news := news) ?_ ?_
                              · show Long _ _ (pcL (TT (putX ix r i r)) S (LN (putX ix r i r) / S)) _ _ _
                                rw [putX_at]
                                exact hLx
                              · show Ext _ (pcL (TT (putX ix r i r)) S (LN (putX ix r i r) / S)) _ _ (LN (putX ix r i r) / S - best) _ _
                                rw [putX_at, putX_at, ← hnn]
                                exact hext
                            · exact Ct.same (HWR2.out.2.1.kept KT.out hbn hext) (mkF_same _ _ _)
                            · by_cases e : i' = r
                              · rw [e, putX_at]; exact hlt
                              · rw [putX_ne _ _ (by omega)]; exact HWR2.out.2.2.1 i' (by omega)
                          case measure => simp [intOf]; omega
            · obtain rfl : m = i := by omega
              have hsum := H.out.ct.sum H.out.fm.cache.well
              rw [H.out.fm.hB] at hsum
              have HLE := hidd (len_any H.out.fm.cache)
              have HLF := hidd (left_any H.out.fm.pool)
              rw [H.out.fm.hB] at HLF
              have e1 : (256 : Int) - ((freeN cnt 256 : Nat) : Int) = ((L.length : Nat) : Int) := by omega
              generalize freeN cnt 256 = fr at HLF hsum e1
              generalize L.length = ll at HLE hsum e1
              have hll : ll ≤ 256 := by omega
              have hfr : fr ≤ 256 := by omega
              clear hi hlt
              go_wp2_with (first
                | (go_at_call 14; with_reducible refine HLE.out.mono ?_; rintro e w9 ⟨rfl, h9⟩; rw [h9]; clear h9)
                | (go_at_call 24; with_reducible refine HLF.out.mono ?_; rintro e w9 ⟨rfl, h9⟩; rw [h9]; clear h9))
              go_ret
              exact ⟨rfl, H.out.fm.low⟩
end Go.Proofs.Ytaalinlggjimcaa
