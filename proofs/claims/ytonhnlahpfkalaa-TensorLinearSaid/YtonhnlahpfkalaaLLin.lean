import Derived.Test.YtonhnlahpfkalaaShaped
import Derived.Test.YtonhnlahpfkalaaCols
import Derived.Test.YtonhnlahpfkalaaHeld
import Derived.Test.YtonhnlahpfkalaaEqs
import Derived.Deep.RegionLaw
namespace Go.Proofs.Ytonhnlahpfkalaa
open Go.RowKit
attribute [local go_sem ↓] Go.wp_at_zero Go.wp_at_succ
/-! The law TensorLinear: its walk. -/
theorem half_bd {x : Int} (h0 : -128 ≤ x) (h1 : x ≤ 127) : -64 ≤ x.tdiv 2 ∧ x.tdiv 2 ≤ 63 := by
  by_cases h : 0 ≤ x
  · rw [Int.tdiv_eq_ediv_of_nonneg h]; omega
  · rw [Fix.tdiv_low x 2 (by omega)]; omega
theorem fit_bd {x : Int} (h0 : -128 ≤ x) (h1 : x ≤ 127) : -127 ≤ fit x ∧ fit x ≤ 127 := by unfold fit; split <;> omega
theorem atf_bd {n : Nat} {f : Nat → Int} (h : ∀ i, i < n → -128 ≤ f i ∧ f i ≤ 127) (i : Nat) : -128 ≤ atf n f i ∧ atf n f i ≤ 127 := by
  unfold atf
  split
  · omega
  · exact h _ (Nat.mod_lt _ (by omega))
theorem mv_add {D a b : Nat → Int} {C r : Nat} : mv D (fun i => a i + b i) C r = wrap64 (mv D a C r + mv D b C r) := by
  unfold mv dot
  rw [wadd, ← isum_add]
  congr 1
  exact isum_congr (fun i _ => by rw [Int.mul_add])
theorem mv_moved {D g : Nat → Int} {C r : Nat} {p : Nat → Nat} (hp : Perm C p) : mv (fun t => D ((t / C) * C + p (t % C))) (fun i => g (p i)) C r = mv D g C r := by
  unfold mv
  rw [dot_congr (f' := fun c => D (r * C + p c)) (g' := fun c => g (p c)) (fun c hc => ?_) (fun _ _ => rfl)]
  · exact dot_perm (f := fun c => D (r * C + c)) hp
  · dsimp only
    rw [show (r * C + c) / C = r by rw [Nat.mul_comm, Nat.mul_add_div (by omega), Nat.div_eq_of_lt hc]; rfl, show (r * C + c) % C = c by rw [Nat.mul_comm, Nat.mul_add_mod, Nat.mod_eq_of_lt hc]]
theorem row_prods {R C n k : Nat} (hn : n = R * C) (hk : k < R) : ∃ lo : Nat, lo = k * C ∧ lo + C ≤ n ∧ (k : Int) * (C : Int) = (lo : Int) ∧ ((k : Int) + 1) * (C : Int) = (lo : Int) + (C : Int) := by
  have h1 : k * C + C ≤ R * C := by
    have := Nat.mul_le_mul_right C (show k + 1 ≤ R by omega)
    rw [Nat.add_mul, Nat.one_mul] at this; exact this
  exact ⟨k * C, rfl, by omega, (Int.natCast_mul _ _).symm, by rw [Int.add_mul, Int.one_mul, ← Int.natCast_mul]⟩
set_option maxRecDepth 100000 in
set_option maxHeartbeats 4000000 in
theorem linear_law {w : World} {R0 C0 : Int} {ao bo eo po : Option Addr} {n m l q ca cb ce cp : Nat} {f g h : Nat → Int} {py : Nat → Int}
    (ha : RdA w ao 1 n ca (fun i => .int .i8 (f i))) (hb : RdA w bo 1 m cb (fun i => .int .i8 (g i))) (he : RdA w eo 1 l ce (fun i => .int .i8 (h i))) (hd : RdA w po 1 q cp (fun i => .int .i64 (py i)))
    (bf : ∀ i, -128 ≤ atf n f i ∧ atf n f i ≤ 127) (bg : ∀ i, -128 ≤ atf m g i ∧ atf m g i ≤ 127) (bh : ∀ i, -128 ≤ atf l h i ∧ atf l h i ≤ 127) (R C N : Nat) (hR : R = 1 + md R0 9) (hC : C = 1 + md C0 9) (hN : N = R * C) :
    Calls Try.prog 4 #[.agg #[.int .i64 R0, .int .i64 C0, .slice ao n ca, .slice bo m cb, .slice eo l ce, .slice po q cp]] w fun e w' => e = .returned (.bool true) ∧ Below w.heap.size w w' := by
  have hR9 : 1 ≤ R ∧ R ≤ 9 := by have := md_lt R0 (n := 9) (by decide); omega
  have hC9 : 1 ≤ C ∧ C ≤ 9 := by have := md_lt C0 (n := 9) (by decide); omega
  have hshp : shp (R : Int) (C : Int) N = true := by rw [hN]; exact mul_shp hR9.1 hC9.1
  have BF := hidd bf
  have BG := hidd bg
  have BH := hidd bh
  have HN := hidd hN
  have HR := hidd hR
  have HC := hidd hC
  clear bf bg bh hN hR hC
  go_enter Try.func4, Try.ntmps4
  go_wp2_with fail
  refine (fixed_any _).mono ?_
  rintro e w1 ⟨rfl, hb1⟩
  have hf1 := fresh_trans (fresh_alloc w (.cells #[.int .i64 R0, .int .i64 C0, .slice ao n ca, .slice bo m cb, .slice eo l ce, .slice po q cp] 40)) hb1
  have c0 := fresh_cell hb1 (k := w.heap.size) (o := 0) (v := .int .i64 R0) (by simp)
  have c1 := fresh_cell hb1 (k := w.heap.size) (o := 1) (v := .int .i64 C0) (by simp)
  have c2 := fresh_cell hb1 (k := w.heap.size) (o := 2) (v := .slice ao n ca) (by simp)
  have c3 := fresh_cell hb1 (k := w.heap.size) (o := 3) (v := .slice bo m cb) (by simp)
  have c4 := fresh_cell hb1 (k := w.heap.size) (o := 4) (v := .slice eo l ce) (by simp)
  have c5 := fresh_cell hb1 (k := w.heap.size) (o := 5) (v := .slice po q cp) (by simp)
  replace ha := ha.fresh hf1
  replace hb := hb.fresh hf1
  replace he := he.fresh hf1
  replace hd := hd.fresh hf1
  clear hb1
  go_wp2_with fail
  refine (shaped_any ha hb R C N HR.out HC.out HN.out).mono ?_
  rintro e w2 ⟨v2, u2, rfl, ⟨ma, mc, rfl, hm2⟩, ⟨va, vc, rfl, hv2⟩, hf2⟩
  replace c0 := fresh_cell hf2 c0
  replace c1 := fresh_cell hf2 c1
  replace c2 := fresh_cell hf2 c2
  replace c4 := fresh_cell hf2 c4
  replace c5 := fresh_cell hf2 c5
  replace ha := ha.fresh hf2
  replace he := he.fresh hf2
  replace hd := hd.fresh hf2
  clear c3 hb
  have G2 := fresh_alloc w2 (.cells #[.int .i64 (R : Int), .int .i64 (C : Int), .slice ma N mc] 43)
  have k0 : (w2.alloc (.cells #[.int .i64 (R : Int), .int .i64 (C : Int), .slice ma N mc] 43)).cell? ⟨w2.heap.size, 0, none⟩ = some (.int .i64 R) := by simp
  have k1 : (w2.alloc (.cells #[.int .i64 (R : Int), .int .i64 (C : Int), .slice ma N mc] 43)).cell? ⟨w2.heap.size, 1, none⟩ = some (.int .i64 C) := by simp
  have k2 : (w2.alloc (.cells #[.int .i64 (R : Int), .int .i64 (C : Int), .slice ma N mc] 43)).cell? ⟨w2.heap.size, 2, none⟩ = some (.slice ma N mc) := by simp
  replace c0 := fresh_cell G2 c0
  replace c1 := fresh_cell G2 c1
  replace c2 := fresh_cell G2 c2
  replace c4 := fresh_cell G2 c4
  replace c5 := fresh_cell G2 c5
  go_wp2_with fail
  refine (shaped_any (ha.fresh G2) (he.fresh G2) R C N HR.out HC.out HN.out).mono ?_
  rintro e w3 ⟨v3, u3, rfl, ⟨na, nc, rfl, hm3⟩, ⟨ea, ec, rfl, he3⟩, hf3⟩
  have F2 := fresh_trans G2 hf3
  have hF3 := fresh_trans (fresh_trans hf1 hf2) F2
  replace c5 := fresh_cell hf3 c5
  replace k0 := fresh_cell hf3 k0
  replace k1 := fresh_cell hf3 k1
  replace k2 := fresh_cell hf3 k2
  have hM := hm2.fresh F2
  have hV := hv2.fresh F2
  have hD := hd.fresh F2
  clear c0 c1 c2 c4 ha he hd hm2 hv2 hm3 hf1 hf2 hf3 G2 F2
  have G3 := fresh_alloc w3 (.cells #[.int .i64 (R : Int), .int .i64 (C : Int), .slice na N nc] 43)
  replace c5 := fresh_cell G3 c5
  replace k0 := fresh_cell G3 k0
  replace k1 := fresh_cell G3 k1
  replace k2 := fresh_cell G3 k2
  replace hM := hM.fresh G3
  replace hV := hV.fresh G3
  replace hD := hD.fresh G3
  replace he3 := he3.fresh G3
  have hF4 := fresh_trans hF3 G3
  clear G3 hF3
  go_wp2
  generalize w3.alloc (.cells #[.int .i64 (R : Int), .int .i64 (C : Int), .slice na N nc] 43) = w4 at *
  generalize w2.heap.size = bm at *
  have K0 := hidd k0
  have K1 := hidd k1
  have K2 := hidd k2
  have C5 := hidd c5
  clear k0 k1 k2 c5
  go_loopw [8, 9, 10, 11] (fun b a o i wr => ∃ k : Nat, k ≤ C ∧ i = .int .i64 k ∧ Own wr w4.heap.size 32 1 b k (fun i => .int .i8 ((atf m g i).tdiv 2 + (atf l h i).tdiv 2)) ∧ Own wr w4.heap.size 32 1 a k (fun i => .int .i8 ((atf m g i).tdiv 2)) ∧ Own wr w4.heap.size 32 1 o k (fun i => .int .i8 ((atf l h i).tdiv 2)) ∧ Off b a ∧ Off b o ∧ Off a o ∧ Below w4.heap.size w4 wr) (fun _ _ _ i _ => C - (intOf i).toNat)
  case atStart => exact ⟨0, by omega, rfl, own_nil _ _ _ _ _, own_nil _ _ _ _ _, own_nil _ _ _ _ _, off_nil _, off_nil _, off_nil _, Below.refl _ _⟩
  case round =>
    obtain ⟨k, hk, rfl, ob, oa, oo, fba, fbo, fao, hf⟩ := hrel
    have hsz := hf.size
    have k1 := fresh_cell hf K1.out
    by_cases hlt : k < C
    · obtain ⟨b1, o1, rfl, h1⟩ := (hV.fresh hf).one (by omega)
      obtain ⟨b2, o2, rfl, h2⟩ := (he3.fresh hf).one (by omega)
      have q1 := h1 k hlt
      have q2 := h2 k hlt
      have d1 := BG.out k
      have d2 := BH.out k
      have d3 := half_bd d1.1 d1.2
      have d4 := half_bd d2.1 d2.2
      clear h1 h2
      go_wp2_with (at_builtin; refine wpList_app1 _ rfl _ _ 23 rfl _ 32 (.int .i8 0) 1 Try.underlying23 infoI8 rfl _ k _ rfl (oa.kept (fresh_alloc _ _)) _ 1 rfl (new_cell _ _ _) rfl (by omega) (by omega) (by simp; omega) ?_)
      intro a' w5 na' happ
      have hf5 := happ.below (hf.alloc hsz _) (oa.kept (fresh_alloc _ _)) (Nat.le_refl _) (by simp; omega)
      have ob5 := happ.own (ob.kept (fresh_alloc _ _)) fba.symm
      have oo5 := happ.own (oo.kept (fresh_alloc _ _)) fao
      have fba5 := (happ.off (ob.kept (fresh_alloc _ _)) fba.symm).symm
      have fao5 := happ.off (oo.kept (fresh_alloc _ _)) fao
      have hs5 := hf5.size
      clear happ oa ob oo fba fao q1 q2 hf
      go_wp2_with (at_builtin; refine wpList_app1 _ rfl _ _ 23 rfl _ 32 (.int .i8 0) 1 Try.underlying23 infoI8 rfl _ k _ rfl (oo5.kept (fresh_alloc _ _)) _ 1 rfl (new_cell _ _ _) rfl (by omega) (by omega) (by simp; omega) ?_)
      intro o' w6 no' happ
      have hf6 := happ.below (hf5.alloc hs5 _) (oo5.kept (fresh_alloc _ _)) (Nat.le_refl _) (by simp; omega)
      have ob6 := happ.own (ob5.kept (fresh_alloc _ _)) fbo.symm
      have oa6 := happ.own (na'.kept (fresh_alloc _ _)) fao5.symm
      have fbo6 := (happ.off (ob5.kept (fresh_alloc _ _)) fbo.symm).symm
      have fao6 := (happ.off (na'.kept (fresh_alloc _ _)) fao5.symm).symm
      have hs6 := hf6.size
      clear happ ob5 oo5 na' fbo fao5 hf5
      go_wp2_with (at_builtin; refine wpList_app1 _ rfl _ _ 23 rfl _ 32 (.int .i8 0) 1 Try.underlying23 infoI8 rfl _ k _ rfl (ob6.kept (fresh_alloc _ _)) _ 1 rfl (new_cell _ _ _) rfl (by omega) (by omega) (by simp; omega) ?_)
      intro b' w7 nb' happ
      have hf7 := happ.below (hf6.alloc hs6 _) (ob6.kept (fresh_alloc _ _)) (Nat.le_refl _) (by simp; omega)
      have oa7 := happ.own (oa6.kept (fresh_alloc _ _)) fba5
      have oo7 := happ.own (no'.kept (fresh_alloc _ _)) fbo6
      have fba7 := happ.off (oa6.kept (fresh_alloc _ _)) fba5
      have fbo7 := happ.off (no'.kept (fresh_alloc _ _)) fbo6
      clear happ ob6 oa6 no' fba5 fbo6 hf6 d1 d2 d3 d4
      go_wp2
      go_roundw
      case rel => exact ⟨k + 1, by omega, by go_num, nb', oa7, oo7, fba7, fbo7, fao6, hf7⟩
      case measure => simp [intOf]; omega
    · obtain rfl : k = C := by omega
      obtain ⟨xb, yb, rfl, rb⟩ := ob.rd
      obtain ⟨xa, ya, rfl, ra⟩ := oa.rd
      obtain ⟨xo, yo, rfl, ro⟩ := oo.rd
      have k0 := fresh_cell hf K0.out
      have k2 := fresh_cell hf K2.out
      have c5 := fresh_cell hf C5.out
      have hM5 := hM.fresh hf
      have hD5 := hD.fresh hf
      have hF5 := fresh_trans hF4 hf
      clear ob oa oo fba fbo fao hsz hV he3 hM hD hF4 hf K0 K1 K2 C5
      have bA : ∀ i, -64 ≤ (atf m g i).tdiv 2 ∧ (atf m g i).tdiv 2 ≤ 63 := fun i => half_bd (BG.out i).1 (BG.out i).2
      have bB : ∀ i, -64 ≤ (atf l h i).tdiv 2 ∧ (atf l h i).tdiv 2 ≤ 63 := fun i => half_bd (BH.out i).1 (BH.out i).2
      have bD : ∀ i, -127 ≤ fit (atf n f i) ∧ fit (atf n f i) ≤ 127 := fun i => fit_bd (BF.out i).1 (BF.out i).2
      obtain ⟨A, hA⟩ : ∃ A : Nat → Int, ∀ i, (atf m g i).tdiv 2 = A i := ⟨_, fun _ => rfl⟩
      obtain ⟨B, hB⟩ : ∃ B : Nat → Int, ∀ i, (atf l h i).tdiv 2 = B i := ⟨_, fun _ => rfl⟩
      obtain ⟨D, hDD⟩ : ∃ D : Nat → Int, ∀ i, fit (atf n f i) = D i := ⟨_, fun _ => rfl⟩
      simp only [hA, hB] at ra rb ro bA bB
      simp only [hDD] at hM5 bD
      have BA := hidd bA
      have BB := hidd bB
      have BD := hidd bD
      clear hA hB hDD bA bB bD BF BG BH
      have hne : ((R : Int) != (R : Int)) = false := by simp
      go_wp2_with fail
      refine (matvec_ok hM5 rb hshp (fun i _ => BD.out i) (fun i _ => by have := BA.out i; have := BB.out i; omega) (by omega)).mono ?_
      rintro e w5 ⟨bl, Fl, rfl, _, hrl, hFl, hf5⟩
      have rL := (rowIs_rd hrl (by unfold maxLen; omega)).congr (cs' := fun r => .int .i64 (mv D (fun i => A i + B i) k r)) (fun j hj => hFl j (by omega))
      replace k0 := fresh_cell hf5 k0
      replace k1 := fresh_cell hf5 k1
      replace k2 := fresh_cell hf5 k2
      replace c5 := fresh_cell hf5 c5
      replace hM5 := hM5.fresh hf5
      replace hD5 := hD5.fresh hf5
      replace ra := ra.fresh hf5
      replace rb := rb.fresh hf5
      replace ro := ro.fresh hf5
      replace hF5 := fresh_trans hF5 hf5
      clear hrl hFl hf5
      go_wp2_with fail
      refine (matvec_ok hM5 ra hshp (fun i _ => BD.out i) (fun i _ => by have := BA.out i; omega) (by omega)).mono ?_
      rintro e w6 ⟨bp, Fp, rfl, _, hrp, hFp, hf6⟩
      have rP := (rowIs_rd hrp (by unfold maxLen; omega)).congr (cs' := fun r => .int .i64 (mv D A k r)) (fun j hj => hFp j (by omega))
      replace k0 := fresh_cell hf6 k0
      replace k1 := fresh_cell hf6 k1
      replace k2 := fresh_cell hf6 k2
      replace c5 := fresh_cell hf6 c5
      replace hM5 := hM5.fresh hf6
      replace hD5 := hD5.fresh hf6
      replace rL := rL.fresh hf6
      replace rb := rb.fresh hf6
      replace ro := ro.fresh hf6
      replace hF5 := fresh_trans hF5 hf6
      clear hrp hFp hf6 ra
      go_wp2_with fail
      refine (matvec_ok hM5 ro hshp (fun i _ => BD.out i) (fun i _ => by have := BB.out i; omega) (by omega)).mono ?_
      rintro e w7 ⟨bq, Fq, rfl, _, hrq, hFq, hf7⟩
      have rQ := (rowIs_rd hrq (by unfold maxLen; omega)).congr (cs' := fun r => .int .i64 (mv D B k r)) (fun j hj => hFq j (by omega))
      replace k0 := fresh_cell hf7 k0
      replace k1 := fresh_cell hf7 k1
      replace k2 := fresh_cell hf7 k2
      replace c5 := fresh_cell hf7 c5
      replace hM5 := hM5.fresh hf7
      replace hD5 := hD5.fresh hf7
      replace rL := rL.fresh hf7
      replace rP := rP.fresh hf7
      replace rb := rb.fresh hf7
      replace hF5 := fresh_trans hF5 hf7
      clear hrq hFq hf7 ro
      go_wp2_with fail
      refine (order_any hD5 (by omega)).mono ?_
      rintro e w8 ⟨pv, p, rfl, hp, ⟨oo, oc, rfl, hrp⟩, hf8⟩
      replace k0 := fresh_cell hf8 k0
      replace k1 := fresh_cell hf8 k1
      replace k2 := fresh_cell hf8 k2
      replace hM5 := hM5.fresh hf8
      replace rL := rL.fresh hf8
      replace rP := rP.fresh hf8
      replace rQ := rQ.fresh hf8
      replace rb := rb.fresh hf8
      replace hF5 := fresh_trans hF5 hf8
      clear hf8 hD5 c5
      have HP := hidd hp
      clear hp
      go_wp2
      clear hne
      have K0 := hidd k0
      have K1 := hidd k1
      have K2 := hidd k2
      clear k0 k1 k2
      obtain ⟨bo1, oo1, rfl, hco⟩ := hrp.one (by omega)
      have HO := hidd hco
      clear hco
      have hpl := hidd HP.out.lt
      go_loopw [22] (fun i wr => ∃ (r : Nat) (nv : Value), r ≤ R ∧ i = .int .i64 r ∧ Own wr (w8.heap.size + 1) 32 1 nv (r * k) (fun t => .int .i8 (D ((t / k) * k + p (t % k)))) ∧ wr.rowIs w8.heap.size 43 3 (three (.int .i64 R) (.int .i64 k) nv) ∧ Below w8.heap.size w8 wr) (fun i _ => R - (intOf i).toNat)
      case atStart =>
        refine ⟨0, .slice none 0 0, by omega, rfl, ?_, World.rowIs_alloc w8 #[.int .i64 (R : Int), .int .i64 (k : Int), .slice none 0 0] 43 _ (fun i hi => ?_), fresh_alloc _ _⟩
        · rw [Nat.zero_mul]; exact own_nil _ _ _ _ _
        · have hi : i < 3 := hi
          obtain rfl | rfl | rfl : i = 0 ∨ i = 1 ∨ i = 2 := by omega
          all_goals rfl
      case round =>
        obtain ⟨r, nv, hr, rfl, hown, hrow, hf9⟩ := hrel
        have k0 := fresh_cell hf9 K0.out
        have k1 := fresh_cell hf9 K1.out
        have k2 := fresh_cell hf9 K2.out
        by_cases hlr : r < R
        · have hN81 : N ≤ 81 := by rw [HN.out]; exact Nat.mul_le_mul hR9.2 hC9.2
          obtain ⟨lo, hlo, hlb, hw1, hw2⟩ := row_prods HN.out hlr
          have hlo81 : lo + k ≤ 81 := Nat.le_trans hlb hN81
          have hn0 : 0 < N := Nat.lt_of_lt_of_le (Nat.lt_of_lt_of_le hC9.1 (Nat.le_add_left k lo)) hlb
          have hmc := hM5.le
          obtain ⟨b1, o1, rfl, _⟩ := hM5.one hn0
          have hcut := (hM5.fresh hf9).cut (lo := lo) (m := k) hlb
          have hrb := rb.fresh hf9
          obtain ⟨b2, o2, e2, h2⟩ := (rL.fresh hf9).one (by clear hw1 hw2; omega)
          obtain ⟨b3, o3, e3, h3⟩ := (rP.fresh hf9).one (by clear hw1 hw2; omega)
          obtain ⟨b4, o4, e4, h4⟩ := (rQ.fresh hf9).one (by clear hw1 hw2; omega)
          simp only [Option.some.injEq, Addr.mk.injEq, and_true] at e2 e3 e4
          obtain ⟨rfl, rfl⟩ := e2
          obtain ⟨rfl, rfl⟩ := e3
          obtain ⟨rfl, rfl⟩ := e4
          have q2 := h2 r hlr
          have q3 := h3 r hlr
          have q4 := h4 r hlr
          simp only [Nat.zero_add] at q2 q3 q4
          clear h2 h3 h4
          have hPQ : wrap64 (mv D A k r + mv D B k r) = mv D (fun i => A i + B i) k r := mv_add.symm
          have hdot : dot (fun i => D (lo + i)) (fun i => A i + B i) k = mv D (fun i => A i + B i) k r := by rw [hlo]; rfl
          have HDOT := hidd hdot
          have HLO := hidd hlo
          have HPQ := hidd hPQ
          clear hdot hlo hPQ
          go_wp2_with fail
          refine (dot_ok hcut hrb (fun i _ => by have := BD.out (lo + i); clear hw1 hw2; omega) (fun i _ => by have := BA.out i; have := BB.out i; clear hw1 hw2; omega)).mono ?_
          rintro e w9 ⟨rfl, hw9⟩
          rw [hw9, HDOT.out]
          clear hw9 w9 HDOT
          have hPQ := HPQ.out
          clear HPQ
          generalize mv D (fun i => A i + B i) k r = ll at *
          generalize mv D A k r = lp at *
          generalize mv D B k r = lq at *
          have hne : (ll != ll) = false := by simp
          clear hw1 hw2
          go_wp2
          go_quiet (fail)
          go_wp2
          clear hPQ hne q2 q3 q4 k0 k1 k2 hrb
          have hfq := below_drewN hf9 nq
          have hownq := hown.kept (fresh_drewN wr nq)
          have hrowq := hrow.of_block ((fresh_drewN wr nq).block _ hrow.lt)
          clear hown hrow hcut hf9
          go_loopw [26] (fun i wc => ∃ (c : Nat) (nv : Value), c ≤ k ∧ i = .int .i64 c ∧ Own wc (w8.heap.size + 1) 32 1 nv (r * k + c) (fun t => .int .i8 (D ((t / k) * k + p (t % k)))) ∧ wc.rowIs w8.heap.size 43 3 (three (.int .i64 R) (.int .i64 k) nv) ∧ Below w8.heap.size w8 wc) (fun i _ => k - (intOf i).toNat)
          case atStart => exact ⟨0, nv, by omega, rfl, hownq, hrowq, hfq⟩
          case round =>
            clear hownq hrowq hfq
            obtain ⟨c, nv, hc, rfl, hown, hrow, hf9⟩ := hrel
            have k1 := fresh_cell hf9 K1.out
            by_cases hltc : c < k
            · have hpc := hpl.out c hltc
              have z1 := fresh_cell hf9 (HO.out c hltc)
              have hix : lo + p c < N := by omega
              obtain ⟨b5, o5, e5, h5⟩ := (hM5.fresh hf9).one hn0
              simp only [Option.some.injEq, Addr.mk.injEq, and_true] at e5
              obtain ⟨rfl, rfl⟩ := e5
              have z2 := h5 (lo + p c) hix
              rw [← Nat.add_assoc] at z2
              clear h5
              obtain ⟨r0, r1, r2⟩ := row3 hrow
              have hrlt := hrow.lt
              have fa := hrow.frozen
              have hcs : D (((r * k + c) / k) * k + p ((r * k + c) % k)) = D (lo + p c) := by
                rw [show (r * k + c) / k = r by rw [Nat.mul_comm, Nat.mul_add_div (by omega), Nat.div_eq_of_lt hltc]; rfl, show (r * k + c) % k = c by rw [Nat.mul_comm, Nat.mul_add_mod, Nat.mod_eq_of_lt hltc], ← HLO.out]
              have HCS := hidd hcs
              have hbnd : r * k + c < 81 := by have := HLO.out; omega
              obtain ⟨na1, nc1, rfl, _⟩ := hown.rd
              clear hcs
              have i1 : (0 : Int) ≤ (c : Int) := Int.natCast_nonneg _
              have i2 : (c : Int) < (k : Int) := by omega
              have i3 : (0 : Int) ≤ (p c : Int) := Int.natCast_nonneg _
              have i4 : (p c : Int) < (k : Int) := by omega
              have hnn : Value.ownBlock (.slice na1 (r * k + c) nc1) ≠ some w8.heap.size := fun e => by have := (hown.lt _ e).1; omega
              have a2 := fresh_cell (fresh_alloc wr (.cells #[.int .i8 (D (lo + p c))] 32)) r2
              have hrw := hrow.alloc (.cells #[.int .i8 (D (lo + p c))] 32)
              go_wp2
              go_region_law ((refine step_app1 _ (by rfl) _ _ _ (by rfl) (w8.heap.size + 1) 32 (.int .i8 0) 1 Try.underlying23 infoI8 rfl _ (r * k + c) _ (by rfl) ((hown.kept (fresh_alloc _ _)).kept (Below.refl _ _).drew) wr.heap.size 1 (by rfl) (show (wr.alloc (.cells #[.int .i8 (D (lo + p c))] 32)).cell? ⟨wr.heap.size, 0, none⟩ = _ from new_int _ _ HCS.out) rfl (by omega) (by omega) (by simp; omega) ?_; intro g' cap' w9 hown' happ; have y := happ.row ((hown.kept (fresh_alloc _ _)).kept (Below.refl _ _).drew) hrw.drew (by omega); have y2 := (row3 y).2.2; have yf := y.frozen))
              all_goals
                have hf10 := happ.below ((hf9.alloc hf9.size _).drew) ((hown.kept (fresh_alloc _ _)).kept (Below.refl _ _).drew) (by omega) (by have := hf9.size; simp; omega)
                clear happ a2 hrw r0 r1 r2 fa z1 z2 y2 yf hown hrow
                go_wp2
                go_roundw
                case rel => exact ⟨c + 1, _, hltc, by go_num, ownsRow_setCell_below hown' (by simp) _, (y.set 2 _).congr three_set, hf10.setCell (Nat.le_refl _) _⟩
                case measure => simp [intOf]; omega
            · obtain rfl : c = k := by omega
              go_wp2
              go_roundw
              case rel => exact ⟨r + 1, nv, hlr, by go_num, by rw [Nat.add_mul, Nat.one_mul]; exact hown, hrow, hf9⟩
              case measure => simp [intOf]; omega
        · obtain rfl : r = R := by omega
          obtain ⟨na1, nc1, rfl, hnd⟩ := hown.rd
          have rb9 := rb.fresh hf9
          have rl9 := rL.fresh hf9
          have hM9 := hM5.fresh hf9
          have hO9 : Hid (∀ j, j < k → wr.cell? ⟨bo1, oo1 + j, none⟩ = some (.int .i64 (p j : Int))) := fun j hj => fresh_cell hf9 (HO.out j hj)
          have hF9 := fresh_trans hF5 hf9
          obtain ⟨bx, ox, rfl, hcx⟩ := rb9.one (by omega)
          have HX := hidd hcx
          obtain ⟨r0, r1, r2⟩ := row3 hrow
          have A0 := hidd k0
          have A1 := hidd k1
          have A2 := hidd k2
          have B0 := hidd r0
          have B1 := hidd r1
          have B2 := hidd r2
          go_wp2
          clear hcx r0 r1 r2 hrow hown rb rL rP rQ hM5 HO hF5 hf9 K0 K1 K2 hrp k0 k1 k2
          go_loopw [27, 28] (fun v i wt => ∃ c : Nat, c ≤ k ∧ i = .int .i64 c ∧ Own wt wr.heap.size 32 1 v c (fun i => .int .i8 (A (p i) + B (p i))) ∧ Below wr.heap.size wr wt) (fun _ i _ => k - (intOf i).toNat)
          case atStart => exact ⟨0, by omega, rfl, own_nil _ _ _ _ _, Below.refl _ _⟩
          case round =>
            obtain ⟨c, hc, rfl, hown, hft⟩ := hrel
            have hst := hft.size
            have a1 := fresh_cell hft A1.out
            by_cases hltc : c < k
            · have hpc := hpl.out c hltc
              have z1 := fresh_cell hft (hO9.out c hltc)
              have z2 := fresh_cell hft (HX.out (p c) hpc)
              go_wp2_with (at_builtin; refine wpList_app1 _ rfl _ _ 23 rfl _ 32 (.int .i8 0) 1 Try.underlying23 infoI8 rfl _ c _ rfl (hown.kept (fresh_alloc _ _)) _ 1 rfl (new_cell _ _ _) rfl (by omega) (by omega) (by simp; omega) ?_)
              intro v' w11 hown' happ
              have hf11 := happ.below (hft.alloc hst _) (hown.kept (fresh_alloc _ _)) (Nat.le_refl _) (by simp; omega)
              clear happ hown z1 z2 a1 hft
              go_wp2
              go_roundw
              case rel => exact ⟨c + 1, by omega, by go_num, hown', hf11⟩
              case measure => simp [intOf]; omega
            · obtain rfl : c = k := by omega
              obtain ⟨vo, vk, rfl, rv⟩ := hown.rd
              clear hown hst
              have b0 := fresh_cell hft B0.out
              have b1 := fresh_cell hft B1.out
              have b2 := fresh_cell hft B2.out
              have a0 := fresh_cell hft A0.out
              have a2 := fresh_cell hft A2.out
              have hndt := hnd.fresh hft
              have rlt := rl9.fresh hft
              have hMt := hM9.fresh hft
              have hFt := fresh_trans hF9 hft
              clear hnd rl9 hM9 hF9 hft A0 A1 A2 B0 B1 B2
              go_wp2_with fail
              refine (matvec_ok (n := r * c) (R := r) hndt rv (mul_shp hR9.1 hC9.1) (fun i _ => BD.out _) (fun i _ => by have := BA.out (p i); have := BB.out (p i); omega) (by omega)).mono ?_
              rintro e w12 ⟨bk, Fk, rfl, _, hrk, hFk, hf12⟩
              have rK := (rowIs_rd hrk (by unfold maxLen; omega)).congr (cs' := fun r => .int .i64 (mv (fun t => D ((t / c) * c + p (t % c))) (fun i => A (p i) + B (p i)) c r)) (fun j hj => hFk j (by omega))
              replace a0 := fresh_cell hf12 a0
              replace a1 := fresh_cell hf12 a1
              replace a2 := fresh_cell hf12 a2
              have rl12 := rlt.fresh hf12
              have hM12 := hMt.fresh hf12
              have hF12 := fresh_trans hFt hf12
              clear hrk hFk hf12 rlt hMt hFt b0 b1 b2 hndt rv
              go_wp2_with fail
              refine (eqWide_same rK rl12 (fun i _ => mv_moved (D := D) (g := fun i => A i + B i) (p := p) HP.out)).mono ?_
              rintro e w13 ⟨rfl, hf13⟩
              replace a0 := fresh_cell hf13 a0
              replace a1 := fresh_cell hf13 a1
              replace a2 := fresh_cell hf13 a2
              have hM13 := hM12.fresh hf13
              have hF13 := fresh_trans hF12 hf13
              clear rK rl12 hM12 hF12 hf13
              go_wp2_with fail
              refine (columns_ok hM13 hshp (fun i _ => BD.out i) (by omega) (by omega)).mono ?_
              rintro e w14 ⟨rfl, hf14⟩
              go_wp2
              go_ret
              exact ⟨rfl, fresh_trans hF13 hf14⟩
end Go.Proofs.Ytonhnlahpfkalaa
