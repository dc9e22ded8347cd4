import Derived.Test.YtonhnlahpfkalaaDoorSfm
import Derived.Test.YtonhnlahpfkalaaDoorEqs
namespace Go.Proofs.YtonhnlahpfkalaaDoor
open Go.RowKit
/-! The law TensorSoftmax: its walk. -/
theorem ncl_mono (f : Nat → Int) {i k : Nat} (h : f k ≤ f i) : ncl f k ≤ ncl f i := by unfold ncl Fix.cl; omega
theorem sw_rng (f : Nat → Int) (n i : Nat) : 0 ≤ sw f n i ∧ sw f n i ≤ 65536 := Fix.ex_rng _
theorem sw_mono (f : Nat → Int) (n : Nat) {i k : Nat} (h : f k ≤ f i) : sw f n k ≤ sw f n i := by
  unfold sw
  have := ncl_mono f h
  exact Fix.ex_mono _ _ (by omega)
theorem imax_eq {f : Nat → Int} {n i : Nat} (hi : i ≤ n) (h : ∀ j, j ≤ n → f j ≤ f i) : imax f n = f i := by
  obtain ⟨j, hj, e⟩ := imax_ex (f := f) n
  have h1 := h j hj
  have h2 := le_imax (f := f) hi
  omega
theorem sw_best {f : Nat → Int} {n i : Nat} (hi : i < n) (h : ∀ j, j < n → f j ≤ f i) : sw f n i = 65536 := by
  unfold sw
  rw [imax_eq (f := ncl f) (i := i) (by omega) (fun j hj => ncl_mono f (h j (by omega))), show (64 : Int) * (ncl f i - ncl f i) = 0 by omega, Fix.ex_zero]
theorem imax_perm {f : Nat → Int} {n : Nat} {p : Nat → Nat} (hp : Perm (n + 1) p) : imax (fun i => f (p i)) n = imax f n := by
  obtain ⟨i, hi, e⟩ := imax_ex (f := f) n
  obtain ⟨j, hj, e2⟩ := hp.onto (i := i) (by omega)
  have h1 := le_imax (f := fun i => f (p i)) (n := n) (i := j) (by omega)
  obtain ⟨k, hk, e3⟩ := imax_ex (f := fun i => f (p i)) n
  have h2 := le_imax (f := f) (n := n) (i := p k) (by have := hp.lt k (by omega); omega)
  have h1 : f (p j) ≤ _ := h1
  rw [e2] at h1
  omega
theorem sw_perm {f : Nat → Int} {n : Nat} {p : Nat → Nat} (hp : Perm n p) (h0 : 0 < n) (i : Nat) : sw (fun j => f (p j)) n i = sw f n (p i) := by
  obtain ⟨m, rfl⟩ : ∃ m, n = m + 1 := ⟨n - 1, by omega⟩
  unfold sw
  have e : ncl (fun j => f (p j)) = fun j => ncl f (p j) := rfl
  rw [e, show m + 1 - 1 = m by omega, imax_perm hp]
theorem tot_perm {f : Nat → Int} {n : Nat} {p : Nat → Nat} (hp : Perm n p) (h0 : 0 < n) : tot (sw (fun j => f (p j)) n) n = tot (sw f n) n := by
  unfold tot
  rw [isum_congr (g := fun i => sw f n (p i)) (fun i _ => sw_perm hp h0 i), hp.sum (sw f n)]
theorem imax_add (f : Nat → Int) (d : Int) : ∀ n, imax (fun i => f i + d) n = imax f n + d
  | 0 => rfl
  | n + 1 => by
    show max (imax (fun i => f i + d) n) (f (n + 1) + d) = max (imax f n) (f (n + 1)) + d
    rw [imax_add f d n]; omega
theorem ncl_small {f : Nat → Int} {i : Nat} (h0 : -16777216 ≤ f i) (h1 : f i ≤ 16777216) : ncl f i = f i := by unfold ncl Fix.cl; omega
theorem imax_congr {f g : Nat → Int} : ∀ {n : Nat}, (∀ i, i ≤ n → f i = g i) → imax f n = imax g n
  | 0, h => h 0 (by omega)
  | n + 1, h => by
    show max _ _ = max _ _
    rw [imax_congr (fun i hi => h i (by omega)), h (n + 1) (by omega)]
theorem sw_add {f : Nat → Int} {d : Int} {n i : Nat} (hf : ∀ j, -2097152 ≤ f j ∧ f j ≤ 2097152) (hd : -2097152 ≤ d ∧ d ≤ 2097152) : sw (fun j => f j + d) n i = sw f n i := by
  have e1 : ∀ j, ncl (fun j => f j + d) j = f j + d := fun j => ncl_small (f := fun j => f j + d) (by have := hf j; omega) (by have := hf j; omega)
  have e2 : ∀ j, ncl f j = f j := fun j => ncl_small (by have := hf j; omega) (by have := hf j; omega)
  unfold sw
  rw [e1, e2, imax_congr (g := fun j => f j + d) (fun j _ => e1 j), imax_congr (f := ncl f) (g := f) (fun j _ => e2 j), imax_add, show f i + d - (imax f (n - 1) + d) = f i - imax f (n - 1) by omega]
theorem tot_congr {f g : Nat → Int} {n : Nat} (h : ∀ i, i < n → f i = g i) : tot f n = tot g n := by unfold tot; rw [isum_congr h]
def bestB (f : Nat → Int) (i : Nat) : Nat → Bool
  | 0 => true
  | z + 1 => bestB f i z && decide (f z ≤ f i)
theorem best_all {f : Nat → Int} {i : Nat} : ∀ {z : Nat}, bestB f i z = true → ∀ j, j < z → f j ≤ f i
  | z + 1, h, j, hj => by
    have h' : bestB f i z = true ∧ decide (f z ≤ f i) = true := by simpa [bestB] using h
    by_cases e : j = z
    · rw [e]; simpa using h'.2
    · exact best_all h'.1 j (by omega)
theorem one_soft : sw (fun _ => 5) 1 0 = 65536 ∧ tot (sw (fun _ => 5) 1) 1 = 65536 := by
  have e : sw (fun _ => 5) 1 0 = 65536 := sw_best (by decide) (fun _ _ => Int.le_refl _)
  refine ⟨e, ?_⟩
  unfold tot isum isum
  rw [e]; unfold wrap64; omega
theorem one_five (w1 : World) : RdA (w1.alloc (.cells #[.int .i64 5] 2)) (some ⟨w1.heap.size, 0, none⟩) 1 1 1 (fun _ => .int .i64 5) := by
  refine ⟨Nat.le_refl _, by decide, fun _ => ⟨w1.heap.size, 0, rfl, fun j hj => ?_⟩⟩
  obtain rfl : j = 0 := by omega
  simp
def lo20 (f : Nat → Int) : Nat → Int := fun i => (f i).tmod 1048576
theorem lo_bd (x : Int) : -1048576 < x.tmod 1048576 ∧ x.tmod 1048576 < 1048576 := by
  have h1 := Int.lt_tmod_of_pos x (show (0 : Int) < 1048576 by decide)
  have h2 := Int.tmod_lt_of_pos x (show (0 : Int) < 1048576 by decide)
  omega
set_option maxRecDepth 100000 in
set_option maxHeartbeats 4000000 in
theorem soft_law {w : World} {ao co : Option Addr} {n q ca cc : Nat} {f h : Nat → Int} {more : Int} (hw : Holds w) (ha : RdA w ao 1 n ca (fun i => .int .i64 (f i))) (hd : RdA w co 1 q cc (fun i => .int .i64 (h i)))
    (bf : ∀ i, i < n → -9223372036854775808 ≤ f i ∧ f i ≤ 9223372036854775807) (h0 : 0 < n) (hn : n * 8 ≤ 140737488351232) :
    Calls Tryd.prog 3 #[.slice ao n ca, .slice co q cc, .int .i64 more] w fun e w' => e = .returned (.bool true) ∧ Below w.heap.size w w' := by
  have hne : ((n : Int) != (n : Int)) = false := by simp
  go_enter Tryd.func3, Tryd.ntmps3
  go_wp2_with fail
  refine (softmax_ok hw ha bf h0 (by omega)).mono ?_
  rintro e w1 ⟨bl, Fl, rfl, hbl, hrl, hFl, hf1⟩
  have hrL := (rowIs_rd hrl (by unfold maxLen; omega)).congr (cs' := fun i => .int .i64 (sw f n i)) (fun j hj => hFl j (by omega))
  have hx1 := ha.fresh hf1
  have hd1 := hd.fresh hf1
  clear ha hd hrl hFl hbl
  have HTOT := hidd (rfl : tot (sw f n) n = tot (sw f n) n)
  go_wp2_with fail
  have hone : RdA (w1.alloc (.cells #[.int .i64 5] 2)) (some ⟨w1.heap.size, 0, none⟩) 1 1 1 (fun _ => .int .i64 5) := one_five w1
  have hfa := fresh_trans hf1 (fresh_alloc w1 (.cells #[.int .i64 5] 2))
  refine (softmax_ok (hw.fresh hfa) hone (fun _ _ => by decide) (by decide) (by decide)).mono ?_
  rintro e w2 ⟨bo, Fo, rfl, hbo, hro, hFo, hf2⟩
  have co1 := hro.cell (i := 0) (by decide)
  rw [hFo 0 (by decide), one_soft.1] at co1
  have hF2 := fresh_trans hfa hf2
  have hx2 := (hx1.fresh (fresh_alloc w1 (.cells #[.int .i64 5] 2))).fresh hf2
  have hd2 := (hd1.fresh (fresh_alloc w1 (.cells #[.int .i64 5] 2))).fresh hf2
  have hL2 := (hrL.fresh (fresh_alloc w1 (.cells #[.int .i64 5] 2))).fresh hf2
  rw [one_soft.2]
  clear hone hro hFo hbo hx1 hd1 hrL hf1 hf2 hfa
  generalize hts : tot (sw f n) n = ts at *
  have HTS := hidd hts
  clear hts HTOT
  go_wp2
  clear co1 hne
  obtain ⟨bx, ox, rfl, hcx⟩ := hx2.one h0
  obtain ⟨bl', ol', el, hcl⟩ := hL2.one h0
  simp only [Option.some.injEq, Addr.mk.injEq, and_true] at el
  obtain ⟨rfl, rfl⟩ := el
  simp only [Nat.zero_add] at hcl
  have HX := hidd hcx
  have HL := hidd hcl
  clear hcx hcl
  go_loopw [12, 13] (fun s i wr => ∃ j : Nat, j ≤ n ∧ i = .int .i64 j ∧ s = .int .i64 (tot (sw f n) j) ∧ Below w2.heap.size w2 wr) (fun _ i _ => n - (intOf i).toNat)
  case atStart => exact ⟨0, by omega, rfl, by rw [tot_zero], Below.refl _ _⟩
  case round =>
    obtain ⟨j, hj, rfl, rfl, hf3⟩ := hrel
    by_cases hltj : j < n
    · have cl := fresh_cell hf3 (HL.out j hltj)
      have E := hidd (tot_succ (sw f n) j)
      have hrng := sw_rng f n j
      go_wp2
      rw [E.out]
      have cl' := hidd cl
      clear cl E
      go_loopw [14, 15] (fun bb i w5 => ∃ z : Nat, z ≤ n ∧ i = .int .i64 z ∧ bb = .bool (bestB f j z) ∧ Below wr.heap.size wr w5) (fun _ i _ => n - (intOf i).toNat)
      case atStart => exact ⟨0, by omega, rfl, rfl, Below.refl _ _⟩
      case round =>
        obtain ⟨z, hz, rfl, rfl, hf5⟩ := hrel
        by_cases hltz : z < n
        · have ax := fresh_cell hf5 (fresh_cell hf3 (HX.out j hltj))
          have al := fresh_cell hf5 cl'.out
          have zx := fresh_cell hf5 (fresh_cell hf3 (HX.out z hltz))
          have zl := fresh_cell hf5 (fresh_cell hf3 (HL.out z hltz))
          have hm : f z ≤ f j → sw f n z ≤ sw f n j := fun a => sw_mono f n a
          have EB : Hid (bestB f j (z + 1) = (bestB f j z && decide (f z ≤ f j))) := rfl
          generalize sw f n z = lz at *
          generalize sw f n j = lj at *
          by_cases hfz : f z ≤ f j
          · have hll := hm hfz
            have hll2 : decide (lj < lz) = false := by simp; omega
            have hfd : decide (f z ≤ f j) = true := by simpa using hfz
            clear hm
            cases hb : bestB f j z with
            | true =>
              go_wp2
              go_quiet (fail)
              go_wp2
              go_quiet (fail)
              go_wp2
              go_roundw
              case rel => exact ⟨z + 1, hltz, by go_num, by rw [EB.out, hb, hfd]; first | rfl | simp [hfz], below_drewN hf5 _⟩
              case measure => simp [intOf]; omega
            | false =>
              go_wp2
              go_quiet (fail)
              go_wp2
              go_quiet (fail)
              go_wp2
              go_roundw
              case rel => exact ⟨z + 1, hltz, by go_num, by rw [EB.out, hb]; first | rfl | simp, below_drewN hf5 _⟩
              case measure => simp [intOf]; omega
          · have hfd : decide (f z ≤ f j) = false := by simpa using hfz
            clear hm
            cases hb : bestB f j z with
            | true =>
              go_wp2
              go_quiet (fail)
              go_wp2
              go_quiet (fail)
              go_wp2
              go_roundw
              case rel => exact ⟨z + 1, hltz, by go_num, by rw [EB.out, hb, hfd]; first | rfl | simp [hfz], below_drewN hf5 _⟩
              case measure => simp [intOf]; omega
            | false =>
              go_wp2
              go_quiet (fail)
              go_wp2
              go_quiet (fail)
              go_wp2
              go_roundw
              case rel => exact ⟨z + 1, hltz, by go_num, by rw [EB.out, hb]; first | rfl | simp, below_drewN hf5 _⟩
              case measure => simp [intOf]; omega
        · obtain rfl : z = n := by omega
          have al := fresh_cell hf5 cl'.out
          have hbest : bestB f j z = true → sw f z j = 65536 := fun hb => sw_best hltj (best_all hb)
          cases hb : bestB f j z with
          | true =>
            rw [hbest hb] at al
            clear hbest
            go_wp2
            go_roundw
            case rel => exact ⟨j + 1, hltj, by go_num, rfl, fresh_trans hf3 hf5⟩
            case measure => simp [intOf]; omega
          | false =>
            clear hbest
            generalize sw f z j = lj at *
            go_wp2
            go_roundw
            case rel => exact ⟨j + 1, hltj, by go_num, rfl, fresh_trans hf3 hf5⟩
            case measure => simp [intOf]; omega
    · obtain rfl : j = n := by omega
      have hx4 := hx2.fresh hf3
      have hl4 := hL2.fresh hf3
      have hd4 := hd2.fresh hf3
      have hF4 := fresh_trans hF2 hf3
      have hne2 : (ts != ts) = false := by simp
      clear hx2 hL2 hd2 hF2 hf3 HX HL
      rw [HTS.out]
      go_wp2_with fail
      refine (order_any hd4 hn).mono ?_
      rintro e w5 ⟨pv, p, rfl, hp, ⟨po, pc, rfl, hrp⟩, hf5⟩
      have hF5 := fresh_trans hF4 hf5
      obtain ⟨bp, op, rfl, hcp⟩ := hrp.one h0
      obtain ⟨bx', ox', ex, hcx⟩ := (hx4.fresh hf5).one h0
      obtain ⟨bl', ol', el, hcl⟩ := (hl4.fresh hf5).one h0
      simp only [Option.some.injEq, Addr.mk.injEq, and_true] at ex el
      obtain ⟨rfl, rfl⟩ := ex
      obtain ⟨rfl, rfl⟩ := el
      simp only [Nat.zero_add] at hcl
      have HP := hidd hcp
      have HX := hidd hcx
      have HL := hidd hcl
      have hpl := hidd hp.lt
      have hdb := lo_bd more
      clear hcp hcx hcl hx4 hl4 hd4 hF4 hf5 hne2
      go_wp2
      generalize hdd : more.tmod 1048576 = d at *
      clear hdd
      go_loopw [17, 18, 19, 20, 22] (fun y ww up lw i wt => ∃ t : Nat, t ≤ j ∧ i = .int .i64 t ∧ Own wt w5.heap.size 2 1 y t (fun i => .int .i64 (f (p i))) ∧ Own wt w5.heap.size 2 1 ww t (fun i => .int .i64 (sw f j (p i)))
          ∧ Own wt w5.heap.size 2 1 up t (fun i => .int .i64 (lo20 f i + d)) ∧ Own wt w5.heap.size 2 1 lw t (fun i => .int .i64 (lo20 f i)) ∧ Off y ww ∧ Off y up ∧ Off y lw ∧ Off ww up ∧ Off ww lw ∧ Off up lw ∧ Below w5.heap.size w5 wt) (fun _ _ _ _ i _ => j - (intOf i).toNat)
      case atStart => exact ⟨0, by omega, rfl, own_nil _ _ _ _ _, own_nil _ _ _ _ _, own_nil _ _ _ _ _, own_nil _ _ _ _ _, off_nil _, off_nil _, off_nil _, off_nil _, off_nil _, off_nil _, Below.refl _ _⟩
      case round =>
        obtain ⟨t, ht, rfl, o0, o1, o2, o3, f01, f02, f03, f12, f13, f23, hft⟩ := hrel
        have hst := hft.size
        by_cases hltt : t < j
        · have hpt := hpl.out t hltt
          have P0 := HP.out t hltt
          have X0 := HX.out _ hpt
          have L0 := HL.out _ hpt
          have X1 := HX.out t hltt
          have hlt := lo_bd (f t)
          have hl20 : Hid (lo20 f t = (f t).tmod 1048576) := rfl
          have q1 := fresh_cell hft P0
          have q2 := fresh_cell hft X0
          go_wp2_with (at_builtin; refine wpList_app1 _ rfl _ _ 22 rfl _ 2 (.int .i64 0) 8 Tryd.underlying22 infoI64 rfl _ t _ rfl (o0.kept (fresh_alloc _ _)) _ 1 rfl (new_cell _ _ _) rfl (by omega) (by omega) (by simp; omega) ?_)
          intro v0 w6 n0 happ
          have hf6 := happ.below (hft.alloc hst _) (o0.kept (fresh_alloc _ _)) (Nat.le_refl _) (by simp; omega)
          have m01 := happ.own (o1.kept (fresh_alloc _ _)) f01
          have g01 := happ.off (o1.kept (fresh_alloc _ _)) f01
          have m02 := happ.own (o2.kept (fresh_alloc _ _)) f02
          have g02 := happ.off (o2.kept (fresh_alloc _ _)) f02
          have m03 := happ.own (o3.kept (fresh_alloc _ _)) f03
          have g03 := happ.off (o3.kept (fresh_alloc _ _)) f03
          have hs6 := hf6.size
          clear happ o0 q1 q2 hft o1 f01 o2 f02 o3 f03
          have q1 := fresh_cell hf6 P0
          have q2 := fresh_cell hf6 L0
          go_wp2_with (at_builtin; refine wpList_app1 _ rfl _ _ 22 rfl _ 2 (.int .i64 0) 8 Tryd.underlying22 infoI64 rfl _ t _ rfl (m01.kept (fresh_alloc _ _)) _ 1 rfl (new_cell _ _ _) rfl (by omega) (by omega) (by simp; omega) ?_)
          intro v1 w7 n1 happ
          have hf7 := happ.below (hf6.alloc hs6 _) (m01.kept (fresh_alloc _ _)) (Nat.le_refl _) (by simp; omega)
          have m10 := happ.own (n0.kept (fresh_alloc _ _)) g01.symm
          have g10 := (happ.off (n0.kept (fresh_alloc _ _)) g01.symm).symm
          have m12 := happ.own (m02.kept (fresh_alloc _ _)) f12
          have g12 := happ.off (m02.kept (fresh_alloc _ _)) f12
          have m13 := happ.own (m03.kept (fresh_alloc _ _)) f13
          have g13 := happ.off (m03.kept (fresh_alloc _ _)) f13
          have hs7 := hf7.size
          clear happ m01 q1 q2 hf6 n0 g01 m02 f12 m03 f13
          have q2 := fresh_cell hf7 X1
          go_wp2_with (at_builtin; refine wpList_app1 _ rfl _ _ 22 rfl _ 2 (.int .i64 0) 8 Tryd.underlying22 infoI64 rfl _ t _ rfl (m12.kept (fresh_alloc _ _)) _ 1 rfl (new_int _ _ (by rw [hl20.out])) rfl (by omega) (by omega) (by simp; omega) ?_)
          intro v2 w8 n2 happ
          have hf8 := happ.below (hf7.alloc hs7 _) (m12.kept (fresh_alloc _ _)) (Nat.le_refl _) (by simp; omega)
          have m20 := happ.own (m10.kept (fresh_alloc _ _)) g02.symm
          have g20 := (happ.off (m10.kept (fresh_alloc _ _)) g02.symm).symm
          have m21 := happ.own (n1.kept (fresh_alloc _ _)) g12.symm
          have g21 := (happ.off (n1.kept (fresh_alloc _ _)) g12.symm).symm
          have m23 := happ.own (m13.kept (fresh_alloc _ _)) f23
          have g23 := happ.off (m13.kept (fresh_alloc _ _)) f23
          have hs8 := hf8.size
          clear happ m12 q2 hf7 m10 g02 n1 g12 m13 f23
          have q2 := fresh_cell hf8 X1
          go_wp2_with (at_builtin; refine wpList_app1 _ rfl _ _ 22 rfl _ 2 (.int .i64 0) 8 Tryd.underlying22 infoI64 rfl _ t _ rfl (m23.kept (fresh_alloc _ _)) _ 1 rfl (new_int _ _ (by rw [hl20.out])) rfl (by omega) (by omega) (by simp; omega) ?_)
          intro v3 w9 n3 happ
          have hf9 := happ.below (hf8.alloc hs8 _) (m23.kept (fresh_alloc _ _)) (Nat.le_refl _) (by simp; omega)
          have m30 := happ.own (m20.kept (fresh_alloc _ _)) g03.symm
          have g30 := (happ.off (m20.kept (fresh_alloc _ _)) g03.symm).symm
          have m31 := happ.own (m21.kept (fresh_alloc _ _)) g13.symm
          have g31 := (happ.off (m21.kept (fresh_alloc _ _)) g13.symm).symm
          have m32 := happ.own (n2.kept (fresh_alloc _ _)) g23.symm
          have g32 := (happ.off (n2.kept (fresh_alloc _ _)) g23.symm).symm
          have hs9 := hf9.size
          clear happ m23 q2 hf8 m20 g03 m21 g13 n2 g23
          clear P0 X0 L0 X1
          go_wp2
          go_roundw
          case rel => exact ⟨t + 1, by omega, by go_num, m30, m31, m32, n3, g10, g20, g30, g21, g31, g32, hf9⟩
          case measure => simp [intOf]; omega
        · obtain rfl : t = j := by omega
          obtain ⟨a0, c0, rfl, r0⟩ := o0.rd
          obtain ⟨a1, c1, rfl, r1⟩ := o1.rd
          obtain ⟨a2, c2, rfl, r2⟩ := o2.rd
          obtain ⟨a3, c3, rfl, r3⟩ := o3.rd
          clear o0 o1 o2 o3 f01 f02 f03 f12 f13 f23 hst HP HX HL
          have hFt := fresh_trans hF5 hft
          have hlo : ∀ i, -1048576 < lo20 f i ∧ lo20 f i < 1048576 := fun i => lo_bd (f i)
          have HLO := hidd hlo
          clear hlo hft hF5
          go_wp2_with fail
          refine (softmax_ok (hw.fresh hFt) r0 (fun i hi => bf _ (hpl.out i hi)) h0 (by omega)).mono ?_
          rintro e w6 ⟨b6, F6, rfl, _, k6, g6, hf6⟩
          have s6 := (rowIs_rd k6 (by unfold maxLen; omega)).congr (cs' := fun i => .int .i64 (sw (fun j => f (p j)) t i)) (fun j hj => g6 j (by omega))
          have hF6 := fresh_trans hFt hf6
          have r1a := r1.fresh hf6
          have r2a := r2.fresh hf6
          have r3a := r3.fresh hf6
          rw [tot_perm hp h0, HTS.out]
          clear r0 r1 r2 r3 k6 g6 hf6 hFt
          go_wp2_with fail
          refine (softmax_ok (hw.fresh hF6) r2a (fun i _ => by have := HLO.out i; omega) h0 (by omega)).mono ?_
          rintro e w7 ⟨b7, F7, rfl, _, k7, g7, hf7⟩
          have s7 := (rowIs_rd k7 (by unfold maxLen; omega)).congr (cs' := fun i => .int .i64 (sw (fun j => lo20 f j + d) t i)) (fun j hj => g7 j (by omega))
          have hF7 := fresh_trans hF6 hf7
          have r1b := r1a.fresh hf7
          have r3b := r3a.fresh hf7
          have s6a := s6.fresh hf7
          clear r1a r2a r3a k7 g7 hf7 hF6 s6
          go_wp2_with fail
          refine (softmax_ok (hw.fresh hF7) r3b (fun i _ => by have := HLO.out i; omega) h0 (by omega)).mono ?_
          rintro e w8 ⟨b8, F8, rfl, _, k8, g8, hf8⟩
          have s8 := (rowIs_rd k8 (by unfold maxLen; omega)).congr (cs' := fun i => .int .i64 (sw (lo20 f) t i)) (fun j hj => g8 j (by omega))
          have hF8 := fresh_trans hF7 hf8
          have r1c := r1b.fresh hf8
          have s6b := s6a.fresh hf8
          have s7a := s7.fresh hf8
          clear r1b r3b k8 g8 hf8 hF7 s6a s7
          have hadd : ∀ i, sw (fun j => lo20 f j + d) t i = sw (lo20 f) t i := fun i => sw_add (fun j => by have := HLO.out j; omega) (by omega)
          have HADD := hidd hadd
          clear hadd
          have etot : tot (sw (fun j => lo20 f j + d) t) t = tot (sw (lo20 f) t) t := tot_congr (fun i _ => HADD.out i)
          rw [etot]
          clear etot
          generalize tot (sw (lo20 f) t) t = tl
          go_wp2_with fail
          refine (eqWide_same s6b r1c (fun i _ => sw_perm hp h0 i)).mono ?_
          rintro e w9 ⟨rfl, hf9⟩
          go_wp2_with fail
          refine (eqWide_same (s7a.fresh hf9) (s8.fresh hf9) (fun i _ => HADD.out i)).mono ?_
          rintro e w10 ⟨rfl, hf10⟩
          have e1 : (ts == ts) = true := by simp
          have e2 : (tl == tl) = true := by simp
          go_wp2
          go_ret
          exact ⟨rfl, fresh_trans (fresh_trans hF8 hf9) hf10⟩
end Go.Proofs.YtonhnlahpfkalaaDoor
