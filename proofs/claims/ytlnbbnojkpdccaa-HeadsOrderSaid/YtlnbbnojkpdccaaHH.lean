import Derived.Test.YtlnbbnojkpdccaaHG
namespace Go.Proofs.Ytlnbbnojkpdccaa
open Go.RowKit
/-! HeadsOrder. -/
theorem bd4 {x : Int} (h1 : -9223372036854775808 ≤ x) (h2 : x ≤ 9223372036854775807) : -2305843009213693953 ≤ x.tdiv 4 ∧ x.tdiv 4 ≤ 2305843009213693953 := by
  have e := Int.mul_tdiv_add_tmod x 4
  have b1 := Int.tmod_lt_of_pos x (show (0 : Int) < 4 by decide)
  have b2 := Int.lt_tmod_of_pos x (show (0 : Int) < 4 by decide)
  omega
def SeenAt (w2 : World) (f : Nat → Int) (n i : Nat) (us : Option Addr) (wr : World) : Prop := ∀ j, i ≤ j → j < n → ∃ gs, us = some ⟨gs, 0, none⟩ ∧ w2.heap.size ≤ gs ∧ wr.cell? ⟨gs, sg f n j, none⟩ = some (.bool false) ∧ wr.frozen? ⟨gs, sg f n j, none⟩ = false
theorem seen_start {w2 wr : World} {f : Nat → Int} {n cs : Nat} {us : Option Addr} (h : Own wr w2.heap.size 4 1 (.slice us n cs) n (fun _ => .bool false)) : SeenAt w2 f n 0 us wr := fun j _ hj => by
  obtain ⟨g, rfl, hc⟩ := h.at0 (by omega)
  have hlt := h.lt g rfl
  refine ⟨g, rfl, hlt.1, hc _ (sg_lt hj), ?_⟩
  rcases h.2 with ⟨e, _⟩ | ⟨g', cap, cur, e, _, hgg, _⟩
  · cases e
  · injection e with e
    injection e with e
    injection e with e
    subst e
    unfold World.frozen?
    simp [hgg]
theorem seen_next {w2 wr : World} {f : Nat → Int} {n i gs : Nat} (h : SeenAt w2 f n i (some ⟨gs, 0, none⟩) wr) (hi : i < n) : SeenAt w2 f n (i + 1) (some ⟨gs, 0, none⟩) (wr.setCell ⟨gs, sg f n i, none⟩ (.bool true)) := fun j h1 h2 => by
  obtain ⟨g, e, h3, h4, h5⟩ := h j (by omega) h2
  injection e with e
  injection e with e
  subst e
  have hne : sg f n j ≠ sg f n i := fun q => by have := sg_inj h2 hi q; omega
  refine ⟨gs, rfl, h3, ?_, ?_⟩
  · rw [World.cell?_setCell_other]
    · exact h4
    · intro q
      exact hne (congrArg Addr.off q).symm
  · rw [World.frozen?_setCell]
    exact h5
theorem seen_below {w2 wr w' : World} {f : Nat → Int} {n i : Nat} {us : Option Addr} (h : SeenAt w2 f n i us wr) (f' : Below wr.heap.size wr w') : SeenAt w2 f n i us w' := fun j h1 h2 => by
  obtain ⟨g, e, h3, h4, h5⟩ := h j h1 h2
  have hl := lt_of_cell h4
  exact ⟨g, e, h3, fresh_cell f' h4, (f'.frozen (p := ⟨g, sg f n j, none⟩) hl).trans h5⟩
set_option maxRecDepth 20000 in
set_option maxHeartbeats 6400000 in
theorem order_law {w : World} {ao : Option Addr} {n cap : Nat} {f : Nat → Int} (h : RdA w ao 1 n cap (fun i => .int .i64 (f i))) (hn : n ≤ 17592186043904) (hfit : ∀ i, i < n → -9223372036854775808 ≤ f i ∧ f i ≤ 9223372036854775807) (k more : Int) (hk1 : -9223372036854775808 ≤ k) (hk2 : k ≤ 9223372036854775807) (hm1 : -9223372036854775808 ≤ more) (hm2 : more ≤ 9223372036854775807) :
    Calls Try.prog 4 #[.slice ao n cap, .int .i64 k, .int .i64 more] w fun e w' => e = .returned (.bool true) ∧ Below w.heap.size w w' := by
  have HF : Hid (∀ w1, Calls Try.prog 9 #[] w1 fun e w' => e = .returned (.bool true) ∧ Below w1.heap.size w1 w') := fun w1 => fixed_any w1
  have HT : Hid (∀ w1 (k : Int) (m : Nat), Below w.heap.size w w1 → m = min k.toNat n → Calls Try.prog 10 #[.slice ao n cap, .int .i64 k] w1 (TopP w1 f n m)) := fun w1 k m hb hm => top_at (h.fresh hb) hn k m hm
  have HRK : Hid (∀ w1 (most : Int) (m : Nat), Below w.heap.size w w1 → m = goesTo most n → Calls Try.prog 12 #[.slice ao n cap, .int .i64 most] w1 (RnP w1 f n m)) := fun w1 k m hb hm => rankedL_any (h.fresh hb) hn k m hm
  have HH := hidd h
  have HFIT := hidd hfit
  have hle := h.le
  have htop := h.top
  unfold maxLen at htop
  clear h hfit
  go_enter Try.func4, Try.ntmps4
  go_wp2_with (first
    | (go_at_call 9; (with_reducible refine (HF.out _).mono ?_); rintro e w1 ⟨rfl, f1⟩)
    | (go_at_call 12; (with_reducible refine (HRK.out w1 0 n f1 rfl).mono ?_); rintro e w2 ⟨ul, cl, rfl, O2, f2⟩; have g2 := fresh_trans f1 f2; have HL := hidd O2.out.rda; clear f2))
  have hlc := HL.out.le
  have hltop := HL.out.top
  unfold maxLen at hltop
  go_loopw [11, 12] (fun v vi wr => ∃ i : Nat, i ≤ n ∧ vi = .int .i64 (i : Int) ∧ Own wr w2.heap.size 4 1 v i (fun _ => .bool false) ∧ Below w2.heap.size w2 wr) (fun _ vi _ => n - (intOf vi).toNat)
  case atStart => exact ⟨0, Nat.zero_le _, by simp, own_nil _ _ _ _ _, Below.refl _ _⟩
  case round =>
    obtain ⟨i, hi, rfl, hown, hf⟩ := hrel
    have hsz := hf.size
    by_cases hlt : i < n
    · have HX : Hid (∀ (w0 : World) (t : TypeId), (w0.alloc (.cells #[.bool false] t)).cell? ⟨w0.heap.size, 0, none⟩ = some ((fun _ => Value.bool false) i)) := fun w0 t => new_cell _ _ _
      go_wp2_with (at_builtin; refine wpList_app1 _ rfl _ _ 30 rfl w2.heap.size 4 (.bool false) 1 Try.underlying30 infoB rfl _ i (fun _ => .bool false) rfl (hown.kept (fresh_alloc _ _)) _ 1 rfl (HX.out _ _) rfl (by omega) (by omega) (by simp; omega) ?_)
      intro v' w3 hown' happ
      have hf1 := happ.below (hf.alloc hsz _) (hown.kept (fresh_alloc _ _)) (Nat.le_refl _) (by simp; omega)
      clear happ hown
      go_wp2
      go_roundw
      case rel => exact ⟨i + 1, by omega, by go_num, hown', hf1⟩
      case measure => simp [intOf]; omega
    · obtain rfl : n = i := by omega
      obtain ⟨us, cs, rfl, hrds⟩ := hown.rd
      have hsc := hrds.le
      have hstop := hrds.top
      unfold maxLen at hstop
      have HS0 := hidd (seen_start (f := f) hown)
      have hf0 := hf
      clear hown hrds hf hi hlt
      go_wp2
      go_loopw [13] (fun vi wr => ∃ i : Nat, i ≤ n ∧ vi = .int .i64 (i : Int) ∧ Hid (SeenAt w2 f n i us wr) ∧ Below w2.heap.size w2 wr) (fun vi _ => n - (intOf vi).toNat)
      case atStart => exact ⟨0, Nat.zero_le _, by simp, HS0.out, hf0⟩
      case round =>
        clear HS0 hf0
        obtain ⟨i, hi, rfl, HS, hf⟩ := hrel
        by_cases hlt : i < n
        · obtain ⟨gs, rfl, hgs, cS, fS⟩ := HS.out i (Nat.le_refl _) hlt
          obtain ⟨bl, rfl, hcl0⟩ := O2.out.at0 (by omega)
          have hcl : ∀ j, j < n → wr.cell? ⟨bl, j, none⟩ = some (.int .i64 (sg f n j : Nat)) := fun j hj => fresh_cell hf (hcl0 j hj)
          obtain ⟨ba, oa, rfl, hca⟩ := (HH.out.fresh (fresh_trans g2 hf)).one (by omega)
          have hsi := sg_lt (f := f) hlt
          have cI := hcl i hlt
          have hSN := seen_next HS.out hlt
          have hneL : bl ≠ gs := by
            have := lt_of_cell (hcl0 0 (by omega))
            omega
          have hneA : ba ≠ gs := by
            obtain ⟨b9, o9, e9, hc9⟩ := (HH.out.fresh g2).one (by omega)
            injection e9 with e9
            injection e9 with e9
            subst e9
            have := lt_of_cell (hc9 0 (by omega))
            omega
          have cB := hca (sg f n i) hsi
          have hcl' : ∀ j, j < n → (wr.setCell ⟨gs, sg f n i, none⟩ (.bool true)).cell? ⟨bl, j, none⟩ = some (.int .i64 (sg f n j : Nat)) := fun j hj => by
            rw [World.cell?_setCell_other]
            · exact hcl j hj
            · intro q; exact hneL (congrArg Addr.block q).symm
          have hca' : ∀ j, j < n → (wr.setCell ⟨gs, sg f n i, none⟩ (.bool true)).cell? ⟨ba, oa + j, none⟩ = some (.int .i64 (f j)) := fun j hj => by
            rw [World.cell?_setCell_other]
            · exact hca j hj
            · intro q; exact hneA (congrArg Addr.block q).symm
          have eI := hcl' i hlt
          have eB := hca' (sg f n i) hsi
          have hb1 : Below w2.heap.size w2 (wr.setCell ⟨gs, sg f n i, none⟩ (.bool true)) := hf.setCell hgs _
          have HSN := hidd hSN
          obtain ⟨t, ht⟩ : ∃ t, t = sg f n i := ⟨_, rfl⟩
          rw [← ht] at cI cB eI eB cS fS hb1 HSN hsi
          have t0 : (0 : Int) ≤ (t : Int) := by omega
          have t1 : (t : Int) < (n : Int) := by omega
          have i0 : (0 : Int) ≤ (i : Int) := by omega
          have i1 : (i : Int) < (n : Int) := by omega
          cases i with
          | zero =>
            have HTE := hidd ht
            clear hcl hca hcl' hca' ht hSN hcl0
            simp only [Int.natCast_zero] at *
            go_wp2
            go_roundw
            case rel => exact ⟨1, by omega, by simp, HSN.out, hb1⟩
            case measure => simp [intOf]; omega
          | succ i' =>
            have hah := sg_ahead (f := f) (n := n) (i := i') (j := i' + 1) (by omega) hlt
            have hs' := sg_lt (f := f) (n := n) (k := i') (by omega)
            have eI' := hcl' i' (by omega)
            have eB' := hca' (sg f n i') hs'
            have cI' := hcl i' (by omega)
            have cB' := hca (sg f n i') hs'
            rw [← ht] at hah
            obtain ⟨t', ht'⟩ : ∃ t, t = sg f n i' := ⟨_, rfl⟩
            rw [← ht'] at eI' eB' cI' cB' hah hs'
            have t0' : (0 : Int) ≤ (t' : Int) := by omega
            have t1' : (t' : Int) < (n : Int) := by omega
            have e1 : ((i' + 1 : Nat) : Int) = (i' : Int) + 1 := by push_cast; rfl
            rw [e1] at i0 i1 ⊢
            have hgt : decide ((0 : Int) < (i' : Int) + 1) = true := decide_eq_true (by omega)
            have HTE := hidd ht
            have HTE' := hidd ht'
            clear hcl hca hcl' hca' ht hSN hcl0 ht'
            generalize f t = y at *
            generalize f t' = x at *
            rcases hah with hlt2 | ⟨heq, hlt2⟩
            · have d1 : decide (x < y) = false := decide_eq_false (by omega)
              have d2 : (x == y) = false := by simp; omega
              go_wp2
              go_quiet (fail)
              go_wp2
              go_roundw
              case rel => exact ⟨i' + 1 + 1, by omega, by go_num, seen_below HSN.out (fresh_drewN _ _), below_drewN hb1 _⟩
              case measure => simp [intOf]; omega
            · subst heq
              have d1 : decide (t ≤ t') = false := decide_eq_false (by omega)
              have d2 : decide ((t : Int) ≤ (t' : Int)) = false := decide_eq_false (by omega)
              go_wp2
              go_quiet (fail)
              go_wp2
              go_roundw
              case rel => exact ⟨i' + 1 + 1, by omega, by go_num, seen_below HSN.out (fresh_drewN _ _), below_drewN hb1 _⟩
              case measure => simp [intOf]; omega
        · obtain rfl : n = i := by omega
          clear HS hi hlt
          obtain ⟨q, HQ⟩ : ∃ q : Nat → Int, Hid (∀ j, q j = (f j).tdiv 4) := ⟨_, fun _ => rfl⟩
          have hr4 := bd4 hm1 hm2
          have HR4 := hidd (rfl : more.tdiv 4 = more.tdiv 4)
          obtain ⟨r, hr⟩ : ∃ r, more.tdiv 4 = r := ⟨_, rfl⟩
          rw [hr] at hr4
          go_wp2
          go_loopw [16, 17, 18] (fun vu vh vi wr => ∃ i : Nat, i ≤ n ∧ vi = .int .i64 (i : Int) ∧ Own wr w2.heap.size 2 1 vu i (fun j => .int .i64 (q j + r)) ∧ Own wr w2.heap.size 2 1 vh i (fun j => .int .i64 (q j)) ∧ Off vu vh ∧ Below w2.heap.size w2 wr) (fun _ _ vi _ => n - (intOf vi).toNat)
          case atStart => exact ⟨0, Nat.zero_le _, by simp, own_nil _ _ _ _ _, own_nil _ _ _ _ _, off_nil _, hf⟩
          case round =>
            clear hf
            obtain ⟨i, hi, rfl, hu, hh, hoff, hf⟩ := hrel
            have hsz := hf.size
            by_cases hlt : i < n
            · obtain ⟨ba, oa, rfl, hca⟩ := (HH.out.fresh g2).one (by omega)
              have ca := fresh_cell hf (hca i hlt)
              have hbf := HFIT.out i hlt
              have hq4 := bd4 hbf.1 hbf.2
              have hqi := HQ.out i
              rw [← hqi] at hq4
              have HCA := hidd hca
              have i0 : (0 : Int) ≤ (i : Int) := by omega
              have i1 : (i : Int) < (n : Int) := by omega
              obtain ⟨z, hz⟩ : ∃ z, z = q i := ⟨_, rfl⟩
              rw [← hz] at hq4 hqi
              have hqs := hqi.symm
              obtain ⟨hq1, hq2⟩ := hq4
              obtain ⟨hr1, hr2⟩ := hr4
              have HU : Hid (∀ (w0 : World) (t : TypeId), (w0.alloc (.cells #[.int .i64 (z + r)] t)).cell? ⟨w0.heap.size, 0, none⟩ = some ((fun j => Value.int .i64 (q j + r)) i)) := fun w0 t => by rw [new_cell, hz]
              have HV : Hid (∀ (w0 : World) (t : TypeId), (w0.alloc (.cells #[.int .i64 z] t)).cell? ⟨w0.heap.size, 0, none⟩ = some ((fun j => Value.int .i64 (q j)) i)) := fun w0 t => by rw [new_cell, hz]
              have HZ := hidd hz
              clear hca hz hqi
              go_wp2_with (at_builtin; refine wpList_app1 _ rfl _ _ 22 rfl w2.heap.size 2 (.int .i64 0) 8 Try.underlying22 infoW rfl _ i (fun j => .int .i64 (q j + r)) rfl (hu.kept (fresh_alloc _ _)) _ 1 rfl (HU.out _ _) rfl (by omega) (by omega) (by simp; omega) ?_)
              intro vu' w4 hu' hau
              have hh1 := hau.own (hh.kept (fresh_alloc _ _)) hoff
              have hoff1 := hau.off (hh.kept (fresh_alloc _ _)) hoff
              have hf4 := hau.below (hf.alloc hsz _) (hu.kept (fresh_alloc _ _)) (Nat.le_refl _) (by simp; omega)
              have hsz4 := hf4.size
              have ca5 : w4.cell? ⟨ba, oa + i, none⟩ = some (.int .i64 (f i)) := fresh_cell hf4 (HCA.out i hlt)
              clear hau hu hh hoff ca HU
              go_wp2_with (at_builtin; refine wpList_app1 _ rfl _ _ 22 rfl w2.heap.size 2 (.int .i64 0) 8 Try.underlying22 infoW rfl _ i (fun j => .int .i64 (q j)) rfl (hh1.kept (fresh_alloc _ _)) _ 1 rfl (HV.out _ _) rfl (by omega) (by omega) (by simp; omega) ?_)
              intro vh' w5 hh' hah
              have hu2 := hah.own (hu'.kept (fresh_alloc _ _)) hoff1.symm
              have hoff2 := (hah.off (hu'.kept (fresh_alloc _ _)) hoff1.symm).symm
              have hf5 := hah.below (hf4.alloc hsz4 _) (hh1.kept (fresh_alloc _ _)) (Nat.le_refl _) (by simp; omega)
              clear hah hu' hh1 hoff1
              go_wp2
              go_roundw
              case rel => exact ⟨i + 1, by omega, by go_num, hu2, hh', hoff2, hf5⟩
              case measure => simp [intOf]; omega
            · obtain rfl : n = i := by omega
              clear hi hlt
              obtain ⟨uu, cu, rfl, hru⟩ := hu.rd
              obtain ⟨uh, ch, rfl, hrh⟩ := hh.rd
              have HX := hidd (rankedL_any (f := fun j => q j + r) hru hn 0 n rfl)
              have HY : Hid (∀ w', Below wr.heap.size wr w' → Calls Try.prog 12 #[.slice uh n ch, .int .i64 0] w' (RnP w' q n n)) := fun w' f' => rankedL_any (f := q) (hrh.fresh f') hn 0 n rfl
              have gw := fresh_trans g2 hf
              have HLW := hidd (HL.out.fresh hf)
              have HSH : Hid (∀ j, j < n → sg (fun j => q j + r) n j = sg q n j) := fun j hj => sg_shift (f := q) (c := r) (fun _ _ => rfl) hj
              clear hu hh hoff hru hrh hf HL O2
              by_cases hk : k < 1
              · have HMM : Hid (0 = min k.toNat n) := by show _ = _; omega
                obtain ⟨m2, HM2⟩ : ∃ m2, Hid (m2 = goesTo k n) := ⟨_, rfl⟩
                have d1 : decide ((n : Int) < k) = false := decide_eq_false (by omega)
                have d2 : decide (k < 1) = true := decide_eq_true hk
                go_wp2_with (first
                  | (go_at_call 12; (with_reducible refine HX.out.mono ?_); rintro e w6 ⟨ux, cx, rfl, O6, f6⟩; have g6 := fresh_trans gw f6; clear HX)
                  | (go_at_call 12; (with_reducible refine (HY.out w6 f6).mono ?_); rintro e w7 ⟨uy, cy, rfl, O7, f7⟩; have g7 := fresh_trans g6 f7; clear HY)
                  | (go_at_call 10; (with_reducible refine (HT.out w7 k 0 g7 HMM.out).mono ?_); rintro e w8 ⟨ut, ct, rfl, O8, f8⟩; have g8 := fresh_trans g7 f8; clear HT)
                  | (go_at_call 12; (with_reducible refine (HRK.out w8 k m2 g8 HM2.out).mono ?_); rintro e w9 ⟨ug, cg, rfl, O9, f9⟩; have g9 := fresh_trans g8 f9; have HE1 := hidd (eq_rows (((O6.out.rda.fresh f7).fresh f8).fresh f9) ((O7.out.rda.fresh f8).fresh f9) (fun j hj => by rw [HSH.out j hj])); clear HRK)
                  | (go_at_call 11; (with_reducible refine HE1.out.mono ?_); rintro e w10 ⟨rfl, f10⟩; have g10 := fresh_trans g9 f10; have HE2 := hidd (eq_rows ((O8.out.rda.fresh f9).fresh f10) ((((((HLW.out.fresh f6).fresh f7).fresh f8).fresh f9).fresh f10).head (k := 0) (by omega)) (fun _ _ => rfl)); clear HE1)
                  | (go_at_call 11; (with_reducible refine HE2.out.mono ?_); rintro e w11 ⟨rfl, f11⟩; have g11 := fresh_trans g10 f11; have HE3 := hidd (eq_rows (own_nil w11 0 3 1 (fun j => .int .i64 (sg f n j : Nat))).rda (((O8.out.rda.fresh f9).fresh f10).fresh f11) (fun _ _ => rfl)); clear HE2)
                  | (go_at_call 11; (with_reducible refine HE3.out.mono ?_); rintro e w12 ⟨rfl, f12⟩))
                go_ret
                exact ⟨rfl, fresh_trans g11 f12⟩
              · have d2 : decide (k < 1) = false := decide_eq_false hk
                by_cases hkn : (n : Int) < k
                · have d1 : decide ((n : Int) < k) = true := decide_eq_true hkn
                  have HMM : Hid (n = min k.toNat n) := by show _ = _; omega
                  have HM2 : Hid (n = goesTo k n) := by show _ = _; unfold goesTo; rw [if_pos (by omega)]; omega
                  go_wp2_with (first
                    | (go_at_call 12; (with_reducible refine HX.out.mono ?_); rintro e w6 ⟨ux, cx, rfl, O6, f6⟩; have g6 := fresh_trans gw f6; clear HX)
                    | (go_at_call 12; (with_reducible refine (HY.out w6 f6).mono ?_); rintro e w7 ⟨uy, cy, rfl, O7, f7⟩; have g7 := fresh_trans g6 f7; clear HY)
                    | (go_at_call 10; (with_reducible refine (HT.out w7 k n g7 HMM.out).mono ?_); rintro e w8 ⟨ut, ct, rfl, O8, f8⟩; have g8 := fresh_trans g7 f8; clear HT)
                    | (go_at_call 12; (with_reducible refine (HRK.out w8 k n g8 HM2.out).mono ?_); rintro e w9 ⟨ug, cg, rfl, O9, f9⟩; have g9 := fresh_trans g8 f9; have HE1 := hidd (eq_rows (((O6.out.rda.fresh f7).fresh f8).fresh f9) ((O7.out.rda.fresh f8).fresh f9) (fun j hj => by rw [HSH.out j hj])); clear HRK)
                    | (go_at_call 11; (with_reducible refine HE1.out.mono ?_); rintro e w10 ⟨rfl, f10⟩; have g10 := fresh_trans g9 f10; have HE2 := hidd (eq_rows ((O8.out.rda.fresh f9).fresh f10) ((((((HLW.out.fresh f6).fresh f7).fresh f8).fresh f9).fresh f10).head (k := n) (by omega)) (fun _ _ => rfl)); clear HE1)
                    | (go_at_call 11; (with_reducible refine HE2.out.mono ?_); rintro e w11 ⟨rfl, f11⟩; have g11 := fresh_trans g10 f11; have HE3 := hidd (eq_rows ((O9.out.rda.fresh f10).fresh f11) (((O8.out.rda.fresh f9).fresh f10).fresh f11) (fun _ _ => rfl)); clear HE2)
                    | (go_at_call 11; (with_reducible refine HE3.out.mono ?_); rintro e w12 ⟨rfl, f12⟩))
                  go_ret
                  exact ⟨rfl, fresh_trans g11 f12⟩
                · obtain ⟨K, rfl⟩ := Int.eq_ofNat_of_zero_le (show 0 ≤ k by omega)
                  have d1 : decide (n < K) = false := decide_eq_false (by omega)
                  have HMM : Hid (K = min (K : Int).toNat n) := by show _ = _; omega
                  have HM2 : Hid (K = goesTo (K : Int) n) := by show _ = _; unfold goesTo; rw [if_pos (by omega)]; omega
                  go_wp2_with (first
                    | (go_at_call 12; (with_reducible refine HX.out.mono ?_); rintro e w6 ⟨ux, cx, rfl, O6, f6⟩; have g6 := fresh_trans gw f6; clear HX)
                    | (go_at_call 12; (with_reducible refine (HY.out w6 f6).mono ?_); rintro e w7 ⟨uy, cy, rfl, O7, f7⟩; have g7 := fresh_trans g6 f7; clear HY)
                    | (go_at_call 10; (with_reducible refine (HT.out w7 (K : Int) K g7 HMM.out).mono ?_); rintro e w8 ⟨ut, ct, rfl, O8, f8⟩; have g8 := fresh_trans g7 f8; clear HT)
                    | (go_at_call 12; (with_reducible refine (HRK.out w8 (K : Int) K g8 HM2.out).mono ?_); rintro e w9 ⟨ug, cg, rfl, O9, f9⟩; have g9 := fresh_trans g8 f9; have HE1 := hidd (eq_rows (((O6.out.rda.fresh f7).fresh f8).fresh f9) ((O7.out.rda.fresh f8).fresh f9) (fun j hj => by rw [HSH.out j hj])); clear HRK)
                    | (go_at_call 11; (with_reducible refine HE1.out.mono ?_); rintro e w10 ⟨rfl, f10⟩; have g10 := fresh_trans g9 f10; have HE2 := hidd (eq_rows ((O8.out.rda.fresh f9).fresh f10) ((((((HLW.out.fresh f6).fresh f7).fresh f8).fresh f9).fresh f10).head (k := K) (by omega)) (fun _ _ => rfl)); clear HE1)
                    | (go_at_call 11; (with_reducible refine HE2.out.mono ?_); rintro e w11 ⟨rfl, f11⟩; have g11 := fresh_trans g10 f11; have HE3 := hidd (eq_rows ((O9.out.rda.fresh f10).fresh f11) (((O8.out.rda.fresh f9).fresh f10).fresh f11) (fun _ _ => rfl)); clear HE2)
                    | (go_at_call 11; (with_reducible refine HE3.out.mono ?_); rintro e w12 ⟨rfl, f12⟩))
                  go_ret
                  exact ⟨rfl, fresh_trans g11 f12⟩
end Go.Proofs.Ytlnbbnojkpdccaa
