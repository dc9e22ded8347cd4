import Derived.Test.YtilghknalbhacaaEnI
import Derived.Test.YtilghknalbhacaaJAS
import Derived.Test.YtilghknalbhacaaJAO
import Derived.Test.YtilghknalbhacaaCPX
import Derived.Lib.SlBytesConst
namespace Go.Proofs.Ytilghknalbhacaa
open Go.RowKit
/-! A file as a list of bytes. -/
def beginL : List Int := [97, 117, 103, 117, 114, 1]
def h0L (x : WtD) : List Int := beginL ++ secL 67 (cfL x.V x.W x.H x.K x.L x.D x.N x.M)
def h1L (x : WtD) : List Int := h0L x ++ secL 69 (nbL x.E.f x.E.n)
def h2L (x : WtD) : List Int := h1L x ++ secL 84 (trL x.tC x.tS x.tn)
def yL (x : WtD) : Nat → List Int
  | 0 => h2L x
  | k + 1 => yL x k ++ secL 76 (lyB (x.ly k))
theorem yL_succ (x : WtD) (k : Nat) : yL x (k + 1) = yL x k ++ secL 76 (lyB (x.ly k)) := rfl
def e1L (x : WtD) : List Int := yL x x.yn ++ secL 70 (nbL x.F.f x.F.n)
def e2L (x : WtD) : List Int := e1L x ++ secL 72 (nbL x.Q.f x.Q.n)
def mL (x : WtD) : Nat → List Int
  | 0 => e2L x
  | k + 1 => mL x k ++ secL 77 (nbL (x.md k).f (x.md k).n)
theorem mL_succ (x : WtD) (k : Nat) : mL x (k + 1) = mL x k ++ secL 77 (nbL (x.md k).f (x.md k).n) := rfl
def fileL (x : WtD) : List Int := mL x x.mn ++ lastL (mL x x.mn)
/-- no list is empty, and few are there -/
structure WtZ (x : WtD) : Prop where
  b : WtB x
  E : 0 < x.E.n
  T : 0 < x.tn
  F : 0 < x.F.n
  Q : 0 < x.Q.n
  y4 : x.yn ≤ 4
  m4 : x.mn ≤ 4
  md : ∀ k, k < x.mn → 0 < (x.md k).n
theorem h2_len {x : WtD} (h : WtZ x) : (h2L x).length ≤ 6000000 := by
  unfold h2L h1L h0L
  simp only [List.length_append, secL_len, nbL_len, trL_len]
  have h1 : beginL.length = 6 := rfl
  have h2 : (cfL x.V x.W x.H x.K x.L x.D x.N x.M).length = 8 := rfl
  have := h.b.E
  have := h.b.T
  omega
theorem yL_len {x : WtD} (h : WtZ x) : ∀ k, k ≤ x.yn → (yL x k).length ≤ 6000000 + k * 10485765
  | 0, _ => by have := h2_len h; show (h2L x).length ≤ _; omega
  | k + 1, hk => by
    have := yL_len h k (by omega)
    have := (lyB_len (h.b.ym k (by omega)) (h.b.y1 k (by omega)) (h.b.y2 k (by omega))).2
    rw [yL_succ, List.length_append, secL_len]
    omega
theorem e2_len {x : WtD} (h : WtZ x) : (e1L x).length ≤ 52000000 ∧ (e2L x).length ≤ 54000000 := by
  have h1 := yL_len h x.yn (Nat.le_refl _)
  have := h.y4
  have := h.b.F
  have := h.b.Q
  unfold e2L e1L
  simp only [List.length_append, secL_len, nbL_len]
  omega
theorem mL_len {x : WtD} (h : WtZ x) : ∀ k, k ≤ x.mn → (mL x k).length ≤ 54000000 + k * 1048581
  | 0, _ => by have := (e2_len h).2; show (e2L x).length ≤ _; omega
  | k + 1, hk => by
    have := mL_len h k (by omega)
    have := h.b.m k (by omega)
    rw [mL_succ, List.length_append, secL_len, nbL_len]
    omega
theorem begin_byt : Byt beginL := fun y hy => by
  simp only [beginL, List.mem_cons, List.not_mem_nil, or_false] at hy
  omega
theorem yL_byt (x : WtD) : ∀ k, Byt (yL x k)
  | 0 => (((begin_byt.app (secL_byt (by decide) (cfL_byt _ _ _ _ _ _ _ _))).app (secL_byt (by decide) (nbL_byt _ _))).app (secL_byt (by decide) (trL_byt _ _ _)))
  | k + 1 => (yL_byt x k).app (secL_byt (by decide) (lyB_byt _))
theorem mL_byt (x : WtD) : ∀ k, Byt (mL x k)
  | 0 => ((yL_byt x x.yn).app (secL_byt (by decide) (nbL_byt _ _))).app (secL_byt (by decide) (nbL_byt _ _))
  | k + 1 => (mL_byt x k).app (secL_byt (by decide) (nbL_byt _ _))
/-- a section whose body was made just now, behind what there is -/
theorem sec_in {w z : World} {b0 : Nat} (hz : b0 ≤ z.heap.size) {v bv : Value} {L M : List Int} (hv : OwB z b0 v L) (hL : L.length ≤ 536870912) (c : Int) (hM : OwB w z.heap.size bv M) (f : Below z.heap.size z w) (hM0 : 0 < M.length) (hM1 : M.length ≤ 536870912) :
    Calls Try.prog 29 #[v, .int .u8 c, bv] w fun e w' => ∃ v', e = .returned v' ∧ OwB w' b0 v' (L ++ secL c M) ∧ Below b0 z w' :=
  (section_any (Own.kept hv f) (Nat.le_trans hz f.size) hL c hM hM0 hM1 (off_late hM hv (Nat.le_refl _)).symm).mono fun _ _ ⟨v', h1, h2, h3⟩ => ⟨v', h1, h2, h3.below (f.mono hz) (Own.kept hv f) (Nat.le_refl _) (Nat.le_trans hz f.size)⟩
theorem refsec_in {w z : World} {b0 : Nat} (hz : b0 ≤ z.heap.size) {v bv : Value} {L M : List Int} (hv : OwB z b0 v L) (hL : L.length ≤ 536870912) (c : Int) (hM : OwB w z.heap.size bv M) (f : Below z.heap.size z w) (hM0 : 0 < M.length) (hM1 : M.length ≤ 536870912) :
    Calls Try.prog 77 #[v, .int .u8 c, bv] w fun e w' => ∃ v', e = .returned v' ∧ OwB w' b0 v' (L ++ secL c M) ∧ Below b0 z w' :=
  (refsec_any (Own.kept hv f) (Nat.le_trans hz f.size) hL c hM hM0 hM1 (off_late hM hv (Nat.le_refl _)).symm).mono fun _ _ ⟨v', h1, h2, h3⟩ => ⟨v', h1, h2, h3.below (f.mono hz) (Own.kept hv f) (Nat.le_refl _) (Nat.le_trans hz f.size)⟩
end Go.Proofs.Ytilghknalbhacaa
namespace Go.Proofs.Ytilghknalbhacaa
open Go.RowKit
/-! The reference's file. -/
set_option maxRecDepth 100000 in
set_option maxHeartbeats 8000000 in
theorem file_any {w : World} {x : WtD} (h : WtR w x) (hz : WtZ x) :
    Calls Try.prog 49 #[.agg #[.int .i64 x.V, .int .i64 x.W, .int .i64 x.H, .int .i64 x.K, .int .i64 x.L, .int .i64 x.D, .int .i64 x.N, .int .i64 x.M, .int .i64 x.E.R, .int .i64 x.E.C, .slice x.E.O x.E.n x.E.c, .slice x.tO x.tn x.tc, .slice x.yO x.yn x.yc, .slice x.F.O x.F.n x.F.c, .int .i64 x.Q.R, .int .i64 x.Q.C, .slice x.Q.O x.Q.n x.Q.c, .slice x.mO x.mn x.mc]] w fun e w' => ∃ v', e = .returned v' ∧ OwB w' (w.heap.size + 1) v' (fileL x) ∧ Below w.heap.size w w' := by
  have hr : (w.alloc (.cells #[.int .i64 x.V, .int .i64 x.W, .int .i64 x.H, .int .i64 x.K, .int .i64 x.L, .int .i64 x.D, .int .i64 x.N, .int .i64 x.M, .int .i64 x.E.R, .int .i64 x.E.C, .slice x.E.O x.E.n x.E.c, .slice x.tO x.tn x.tc, .slice x.yO x.yn x.yc, .slice x.F.O x.F.n x.F.c, .int .i64 x.Q.R, .int .i64 x.Q.C, .slice x.Q.O x.Q.n x.Q.c, .slice x.mO x.mn x.mc] 34)).rowIs w.heap.size 34 18 (wtc x) := World.rowIs_list w (wtL x) 34
  have f1 := fresh_alloc w (.cells #[.int .i64 x.V, .int .i64 x.W, .int .i64 x.H, .int .i64 x.K, .int .i64 x.L, .int .i64 x.D, .int .i64 x.N, .int .i64 x.M, .int .i64 x.E.R, .int .i64 x.E.C, .slice x.E.O x.E.n x.E.c, .slice x.tO x.tn x.tc, .slice x.yO x.yn x.yc, .slice x.F.O x.F.n x.F.c, .int .i64 x.Q.R, .int .i64 x.Q.C, .slice x.Q.O x.Q.n x.Q.c, .slice x.mO x.mn x.mc] 34)
  have hs : (w.alloc (.cells #[.int .i64 x.V, .int .i64 x.W, .int .i64 x.H, .int .i64 x.K, .int .i64 x.L, .int .i64 x.D, .int .i64 x.N, .int .i64 x.M, .int .i64 x.E.R, .int .i64 x.E.C, .slice x.E.O x.E.n x.E.c, .slice x.tO x.tn x.tc, .slice x.yO x.yn x.yc, .slice x.F.O x.F.n x.F.c, .int .i64 x.Q.R, .int .i64 x.Q.C, .slice x.Q.O x.Q.n x.Q.c, .slice x.mO x.mn x.mc] 34)).heap.size = w.heap.size + 1 := by simp
  have HX := hidd h
  have HZ := hidd hz
  clear h hz
  go_enter Try.func49, Try.ntmps49
  go_upto_region 1 with fail
  generalize w.alloc (.cells #[.int .i64 x.V, .int .i64 x.W, .int .i64 x.H, .int .i64 x.K, .int .i64 x.L, .int .i64 x.D, .int .i64 x.N, .int .i64 x.M, .int .i64 x.E.R, .int .i64 x.E.C, .slice x.E.O x.E.n x.E.c, .slice x.tO x.tn x.tc, .slice x.yO x.yn x.yc, .slice x.F.O x.F.n x.F.c, .int .i64 x.Q.R, .int .i64 x.Q.C, .slice x.Q.O x.Q.n x.Q.c, .slice x.mO x.mn x.mc] 34) = wa at *
  have HRW : Hid (∀ z, Below (w.heap.size + 1) wa z → z.rowIs w.heap.size 34 18 (wtc x)) := fun z hz => hr.of_block (hz.block _ (by omega))
  have HF1 := hidd f1
  have HS := hidd hs
  have HLW : Hid (∀ z, Below (w.heap.size + 1) wa z → Below w.heap.size w z) := fun z hz => HF1.out.trans (hz.mono (by omega))
  have fb := fresh_alloc wa (.cells #[.int .u8 97, .int .u8 117, .int .u8 103, .int .u8 117, .int .u8 114, .int .u8 1] 5)
  have O0 : Hid (OwB (wa.alloc (.cells #[.int .u8 97, .int .u8 117, .int .u8 103, .int .u8 117, .int .u8 114, .int .u8 1] 5)) (w.heap.size + 1) (.slice (some ⟨wa.heap.size, 0, none⟩) 6 6) beginL) := own_newL wa beginL (w.heap.size + 1) (by omega) (by decide)
  have F0 : Hid (Below (w.heap.size + 1) wa (wa.alloc (.cells #[.int .u8 97, .int .u8 117, .int .u8 103, .int .u8 117, .int .u8 114, .int .u8 1] 5))) := fb.mono (by omega)
  clear hr f1 hs fb
  go_upto_region 2 with fail
  generalize wa.alloc (.cells #[.int .u8 97, .int .u8 117, .int .u8 103, .int .u8 117, .int .u8 114, .int .u8 1] 5) = w0 at *
  have c0 : w0.cell? ⟨w.heap.size, 0, none⟩ = some (.int .i64 x.V) := (HRW.out _ F0.out).cell (i := 0) (by decide)
  have c1 : w0.cell? ⟨w.heap.size, 1, none⟩ = some (.int .i64 x.W) := (HRW.out _ F0.out).cell (i := 1) (by decide)
  have c2 : w0.cell? ⟨w.heap.size, 2, none⟩ = some (.int .i64 x.H) := (HRW.out _ F0.out).cell (i := 2) (by decide)
  have c3 : w0.cell? ⟨w.heap.size, 3, none⟩ = some (.int .i64 x.K) := (HRW.out _ F0.out).cell (i := 3) (by decide)
  have c4 : w0.cell? ⟨w.heap.size, 4, none⟩ = some (.int .i64 x.L) := (HRW.out _ F0.out).cell (i := 4) (by decide)
  have c5 : w0.cell? ⟨w.heap.size, 5, none⟩ = some (.int .i64 x.D) := (HRW.out _ F0.out).cell (i := 5) (by decide)
  have c6 : w0.cell? ⟨w.heap.size, 6, none⟩ = some (.int .i64 x.N) := (HRW.out _ F0.out).cell (i := 6) (by decide)
  have c7 : w0.cell? ⟨w.heap.size, 7, none⟩ = some (.int .i64 x.M) := (HRW.out _ F0.out).cell (i := 7) (by decide)
  have HC1 := hidd (measures_any w0 x.V x.W x.H x.K x.L x.D x.N x.M)
  go_wp2_with fail
  refine HC1.out.mono ?_
  rintro e w1a ⟨v1a, rfl, ho1a, f1a⟩
  have HD1 := hidd (refsec_in (by have := F0.out.size; have := HS.out; omega) O0.out (by show 6 ≤ _; decide) 67 ho1a f1a (by show 0 < 8; decide) (by show 8 ≤ _; decide))
  clear HC1 c0 c1 c2 c3 c4 c5 c6 c7
  go_wp2_with fail
  refine HD1.out.mono ?_
  rintro e w1 ⟨v1, rfl, ho1, f1⟩
  have o1' : OwB w1 (w.heap.size + 1) v1 (h0L x) := ho1
  have O1 := hidd o1'
  have F1 := hidd (F0.out.trans f1)
  clear ho1 f1 o1' ho1a f1a HD1 O0 F0
  have c10 : w1.cell? ⟨w.heap.size, 10, none⟩ = some (.slice x.E.O x.E.n x.E.c) := (HRW.out _ F1.out).cell (i := 10) (by decide)
  have HC2 := hidd (addN_in (HLW.out _ F1.out) (by have := F1.out.size; have := HS.out; omega) (Nat.le_refl _) (own_nilB w1 w1.heap.size) (by show 0 ≤ _; omega) HX.out.E.rd HZ.out.b.E HX.out.E.bd)
  go_wp2_with fail
  refine HC2.out.mono ?_
  rintro e w2a ⟨v2a, rfl, ho2a, f2a⟩
  have HD2 := hidd (refsec_in (by have := F1.out.size; have := HS.out; omega) O1.out (by show 19 ≤ _; decide) 69 ho2a f2a (by rw [List.nil_append, nbL_len]; exact HZ.out.E) (by rw [List.nil_append, nbL_len]; have := HZ.out.b.E; omega))
  clear HC2 c10
  go_wp2_with fail
  refine HD2.out.mono ?_
  rintro e w2 ⟨v2, rfl, ho2, f2⟩
  have o2' : OwB w2 (w.heap.size + 1) v2 (h1L x) := ho2
  have O2 := hidd o2'
  have F2 := hidd (F1.out.trans f2)
  clear ho2 f2 o2' ho2a f2a HD2 O1 F1
  have c11 : w2.cell? ⟨w.heap.size, 11, none⟩ = some (.slice x.tO x.tn x.tc) := (HRW.out _ F2.out).cell (i := 11) (by decide)
  have HC3 := hidd (turnR_any (HX.out.T.fresh (HLW.out _ F2.out)) HZ.out.b.T)
  go_wp2_with fail
  refine HC3.out.mono ?_
  rintro e w3a ⟨v3a, rfl, ho3a, f3a⟩
  have HD3 := hidd (refsec_in (by have := F2.out.size; have := HS.out; omega) O2.out (by have := h2_len HZ.out; unfold h2L at this; rw [List.length_append] at this; omega) 84 ho3a f3a (by rw [trL_len]; have := HZ.out.T; omega) (by rw [trL_len]; have := HZ.out.b.T; omega))
  clear HC3 c11
  go_wp2_with fail
  refine HD3.out.mono ?_
  rintro e w3 ⟨v3, rfl, ho3, f3⟩
  have o3' : OwB w3 (w.heap.size + 1) v3 (h2L x) := ho3
  have O3 := hidd o3'
  have F3 := hidd (F2.out.trans f3)
  clear ho3 f3 o3' ho3a f3a HD3 O2 F2
  have hyn := HX.out.yle
  have hyt := HX.out.ytop
  unfold maxLen at hyt
  have c12 : w3.cell? ⟨w.heap.size, 12, none⟩ = some (.slice x.yO x.yn x.yc) := (HRW.out _ F3.out).cell (i := 12) (by decide)
  go_wp2
  clear c12
  go_loopw [3, 4] (fun v i wr => ∃ k : Nat, k ≤ x.yn ∧ i = .int .i64 (k : Int) ∧ Hid (OwB wr (w.heap.size + 1) v (yL x k)) ∧ Hid (Below (w.heap.size + 1) wa wr)) (fun _ i _ => x.yn - (intOf i).toNat)
  case atStart => exact ⟨0, Nat.zero_le _, by simp, O3.out, F3.out⟩
  case round =>
    clear O3 F3
    obtain ⟨k, hk, rfl, HO, HB⟩ := hrel
    have c12 : wr.cell? ⟨w.heap.size, 12, none⟩ = some (.slice x.yO x.yn x.yc) := (HRW.out _ HB.out).cell (i := 12) (by decide)
    by_cases hlt : k < x.yn
    · have i0 : (0 : Int) ≤ (k : Int) := by omega
      have i1 : (k : Int) < (x.yn : Int) := by omega
      obtain ⟨yb, yf, ey, hyc⟩ := HX.out.yat (by omega)
      rw [ey] at c12
      clear ey
      have RG' : wr.rangeAt yb (yf + k * 30) (lyL (x.ly k)) := fun j v h => fresh_cell (HLW.out _ HB.out) ((hyc k hlt).range j v h)
      obtain ⟨T, hT⟩ : ∃ T, T = lyA (x.ly k) := ⟨_, rfl⟩
      have RG : Hid (wr.rangeAt yb (yf + k * 30) T.toList) := by rw [hT]; exact RG'
      have SL : Hid ((Try.prog.info? 67).map (·.size) = some T.toList.length) := by rw [hT]; exact sizeL
      have HC : Hid (Calls Try.prog 81 #[.agg T] wr fun e w' => ∃ v', e = .returned v' ∧ OwB w' wr.heap.size v' (lyB (x.ly k)) ∧ Below wr.heap.size wr w') := by
        show Calls _ _ _ _ _
        rw [hT]
        exact (layR_any ((HX.out.yr k hlt).fresh (HLW.out _ HB.out)) (HZ.out.b.ym k hlt) (HZ.out.b.y1 k hlt) (HZ.out.b.y2 k hlt)).mono fun _ _ ⟨v', h1, h2, h3⟩ => ⟨v', h1, h2.weaken (by omega), h3⟩
      clear RG' hT hyc
      go_wp2_with (refine wpList_load_mid rfl 67 _ rfl yb (yf + k * 30) rfl T.toList _ RG.out Try.underlying67 rfl SL.out ?_)
      refine HC.out.mono ?_
      rintro e wb ⟨vb, rfl, hob, fb⟩
      have hll := lyB_len (HZ.out.b.ym k hlt) (HZ.out.b.y1 k hlt) (HZ.out.b.y2 k hlt)
      have HD := hidd (refsec_in (by have := HB.out.size; have := HS.out; omega) HO.out (by have := yL_len HZ.out k (by omega); have := HZ.out.y4; omega) 76 hob fb hll.1 (by omega))
      clear HC RG SL c12 hob fb hll
      go_wp2_with fail
      refine HD.out.mono ?_
      rintro e wc ⟨vc, rfl, hoc, fc⟩
      have hoc' : OwB wc (w.heap.size + 1) vc (yL x (k + 1)) := by rw [yL_succ]; exact hoc
      have HO4 := hidd hoc'
      have HB4 := hidd (HB.out.trans fc)
      clear hoc hoc' fc HD HO HB
      go_wp2
      go_roundw
      case rel => exact ⟨k + 1, by omega, by go_num, HO4.out, HB4.out⟩
      case measure => simp [intOf]; omega
    · obtain rfl : k = x.yn := by omega
      have hnl : ¬ ((x.yn : Int) < (x.yn : Int)) := by omega
      have O4 := HO
      have F4 := HB
      have c13 : wr.cell? ⟨w.heap.size, 13, none⟩ = some (.slice x.F.O x.F.n x.F.c) := (HRW.out _ F4.out).cell (i := 13) (by decide)
      generalize wr = w4 at *
      clear HO HB

      have HC5 := hidd (addN_in (HLW.out _ F4.out) (by have := F4.out.size; have := HS.out; omega) (Nat.le_refl _) (own_nilB w4 w4.heap.size) (by show 0 ≤ _; omega) HX.out.F.rd HZ.out.b.F HX.out.F.bd)
      go_wp2_with fail
      refine HC5.out.mono ?_
      rintro e w5a ⟨v5a, rfl, ho5a, f5a⟩
      have HD5 := hidd (refsec_in (by have := F4.out.size; have := HS.out; omega) O4.out (by have := yL_len HZ.out x.yn (Nat.le_refl _); have := HZ.out.y4; omega) 70 ho5a f5a (by rw [List.nil_append, nbL_len]; exact HZ.out.F) (by rw [List.nil_append, nbL_len]; have := HZ.out.b.F; omega))
      clear HC5 c12 c13
      go_wp2_with fail
      refine HD5.out.mono ?_
      rintro e w5 ⟨v5, rfl, ho5, f5⟩
      have o5' : OwB w5 (w.heap.size + 1) v5 (e1L x) := ho5
      have O5 := hidd o5'
      have F5 := hidd (F4.out.trans f5)
      clear ho5 f5 o5' ho5a f5a HD5 O4 F4
      have c16 : w5.cell? ⟨w.heap.size, 16, none⟩ = some (.slice x.Q.O x.Q.n x.Q.c) := (HRW.out _ F5.out).cell (i := 16) (by decide)
      have HC6 := hidd (addN_in (HLW.out _ F5.out) (by have := F5.out.size; have := HS.out; omega) (Nat.le_refl _) (own_nilB w5 w5.heap.size) (by show 0 ≤ _; omega) HX.out.Q.rd HZ.out.b.Q HX.out.Q.bd)
      go_wp2_with fail
      refine HC6.out.mono ?_
      rintro e w6a ⟨v6a, rfl, ho6a, f6a⟩
      have HD6 := hidd (refsec_in (by have := F5.out.size; have := HS.out; omega) O5.out (by have := (e2_len HZ.out).1; omega) 72 ho6a f6a (by rw [List.nil_append, nbL_len]; exact HZ.out.Q) (by rw [List.nil_append, nbL_len]; have := HZ.out.b.Q; omega))
      clear HC6 c16
      go_wp2_with fail
      refine HD6.out.mono ?_
      rintro e w6 ⟨v6, rfl, ho6, f6⟩
      have o6' : OwB w6 (w.heap.size + 1) v6 (e2L x) := ho6
      have O6 := hidd o6'
      have F6 := hidd (F5.out.trans f6)
      clear ho6 f6 o6' ho6a f6a HD6 O5 F5
      have hmn := HX.out.mle
      have hmt := HX.out.mtop
      unfold maxLen at hmt
      have c17 : w6.cell? ⟨w.heap.size, 17, none⟩ = some (.slice x.mO x.mn x.mc) := (HRW.out _ F6.out).cell (i := 17) (by decide)
      go_wp2
      clear c17
      go_loopw [3, 5] (fun v i wr => ∃ k : Nat, k ≤ x.mn ∧ i = .int .i64 (k : Int) ∧ Hid (OwB wr (w.heap.size + 1) v (mL x k)) ∧ Hid (Below (w.heap.size + 1) wa wr)) (fun _ i _ => x.mn - (intOf i).toNat)
      case atStart => exact ⟨0, Nat.zero_le _, by simp, O6.out, F6.out⟩
      case round =>
        clear O6 F6
        obtain ⟨k, hk, rfl, HO, HB⟩ := hrel
        have c17 : wr.cell? ⟨w.heap.size, 17, none⟩ = some (.slice x.mO x.mn x.mc) := (HRW.out _ HB.out).cell (i := 17) (by decide)
        by_cases hlt : k < x.mn
        · have i0 : (0 : Int) ≤ (k : Int) := by omega
          have i1 : (k : Int) < (x.mn : Int) := by omega
          obtain ⟨mb, mf, em, hmc⟩ := HX.out.mat (by omega)
          rw [em] at c17
          clear em
          obtain ⟨_, _, d2⟩ := hmc k hlt
          replace d2 := fresh_cell (HLW.out _ HB.out) d2
          have HC := hidd (addN_in (HLW.out _ HB.out) (by have := HB.out.size; have := HS.out; omega) (Nat.le_refl _) (own_nilB wr wr.heap.size) (by show 0 ≤ _; omega) (HX.out.mr k hlt).rd (HZ.out.b.m k hlt) (HX.out.mr k hlt).bd)
          clear hmc
          go_wp2_with fail
          refine HC.out.mono ?_
          rintro e wb ⟨vb, rfl, hob, fb⟩
          have HD := hidd (refsec_in (by have := HB.out.size; have := HS.out; omega) HO.out (by have := mL_len HZ.out k (by omega); have := HZ.out.m4; omega) 77 hob fb (by rw [List.nil_append, nbL_len]; exact HZ.out.md k hlt) (by rw [List.nil_append, nbL_len]; have := HZ.out.b.m k hlt; omega))
          clear HC c17 d2 hob fb
          go_wp2_with fail
          refine HD.out.mono ?_
          rintro e wc ⟨vc, rfl, hoc, fc⟩
          have hoc' : OwB wc (w.heap.size + 1) vc (mL x (k + 1)) := by rw [mL_succ]; exact hoc
          have HO4 := hidd hoc'
          have HB4 := hidd (HB.out.trans fc)
          clear hoc hoc' fc HD HO HB
          go_wp2
          go_roundw
          case rel => exact ⟨k + 1, by omega, by go_num, HO4.out, HB4.out⟩
          case measure => simp [intOf]; omega
        · obtain rfl : k = x.mn := by omega
          have hnl2 : ¬ ((x.mn : Int) < (x.mn : Int)) := by omega
          obtain ⟨p, uc, ev, hrd⟩ := HO.out.rd
          have HDG : Hid (Calls Try.prog 82 #[.slice p (mL x x.mn).length uc] wr fun e w' => e = .returned (.int .u64 (dgF (mL x x.mn) (mL x x.mn).length : Nat)) ∧ w' = wr) := digestR_any hrd (mL_byt x _)
          obtain ⟨d, hd⟩ : ∃ d, d = dgF (mL x x.mn) (mL x x.mn).length := ⟨_, rfl⟩
          have hdl : d < 18446744073709551616 := by rw [hd]; exact dgF_lt _ _
          have HDD := hidd hd
          rw [← hd] at HDG
          have EV := hidd ev
          rw [← EV.out] at HDG
          clear hd hrd ev
          go_wp2_with fail
          refine HDG.out.mono ?_
          rintro e w8 ⟨rfl, hw8⟩
          rw [hw8]
          clear hw8 w8 HDG
          have HNM := hidd (addnum_any (own_nilB wr wr.heap.size) (Nat.le_refl _) (by decide) hdl (k := 8) (by decide))
          go_wp2_with fail
          refine HNM.out.mono ?_
          rintro e w9 ⟨v9, rfl, ho9, ha9⟩
          have f9 := ha9.below (Below.refl wr.heap.size wr) (own_nilB wr wr.heap.size) (Nat.le_refl _) (Nat.le_refl _)
          have HD := hidd (refsec_in (by have := HB.out.size; have := HS.out; omega) HO.out (by have := mL_len HZ.out x.mn (Nat.le_refl _); have := HZ.out.m4; omega) 90 ho9 f9 (by rw [List.nil_append, num_len]; decide) (by rw [List.nil_append, num_len]; decide))
          clear HNM ho9 ha9 f9
          go_wp2_with fail
          refine HD.out.mono ?_
          rintro e wc ⟨vc, rfl, hoc, fc⟩
          have hoc' : OwB wc (w.heap.size + 1) vc (fileL x) := by unfold fileL lastL; rw [← HDD.out]; exact hoc
          have HOC := hidd hoc'
          have HBC := hidd (HB.out.trans fc)
          clear hoc hoc' fc HD HO HB
          go_wp2
          go_ret
          exact ⟨_, rfl, HOC.out, HLW.out _ HBC.out⟩
end Go.Proofs.Ytilghknalbhacaa
namespace Go.Proofs.Ytilghknalbhacaa
open Go.RowKit
/-! A section behind a list that is full. -/
theorem wpList_appF {P : Program} (w : World) {ops : Array Oper} {rest : List Oper} {o : Oper} {a : Act} {Q : Exit → Act → World → Prop}
    (hg : o.guard = none) (s x : Operand) (t : TypeId) (hop : o.op = Op.call { callee := Callee.builtin Builtin.append, args := #[s, x], argTypes := #[t, t] })
    (e : TypeId) (z : Value) (sz bytes : Nat) (h1 : P.underlying t = some (.slice e)) (hinfo : (P.info? e).map (fun i => (i.zero, i.size, i.bytes)) = some (some z, sz, bytes)) (h6 : z.cells.size = sz) (h7 : 0 < sz)
    (g0 n : Nat) (cs : Nat → Value) (hs : a.eval s = .slice (some ⟨g0, 0, none⟩) n n) (hold : ∀ j, j < n * sz → w.cell? ⟨g0, j, none⟩ = some (cs j))
    (g m c : Nat) (hx : a.eval x = .slice (some ⟨g, 0, none⟩) m c) (hc : ∀ j, j < m * sz → w.cell? ⟨g, j, none⟩ = some (cs (n * sz + j))) (h1c : ∀ j, j < m * sz → (cs (n * sz + j)).oneCell' = true)
    (hm : 0 < m) (b1 : n + m ≤ maxLen) (b2 : (n + m) * bytes ≤ 140737488355328)
    (hK : ∀ v' w', Own w' w.heap.size e sz v' (n + m) cs → Below w.heap.size w w' → wpList P ops Q rest (a.put o.dst v') w') : wpList P ops Q (o :: rest) a w := by
  obtain ⟨i, hi, hz0, hz1, hz2⟩ := info_parts hinfo
  have cell_ : ∀ (g : Nat) (k : Nat) (f : Nat → Value), (∀ j, j < k → w.cell? ⟨g, j, none⟩ = some (f j)) → ∀ j u, ((List.range k).map f)[j]? = some u → w.cell? ((⟨g, 0, none⟩ : Addr).add j) = some u := by
    intro g k f hf j u hu
    rw [add_lit0]
    by_cases hj : j < k
    · simp [hj] at hu; rw [hf j hj, hu]
    · simp [hj] at hu
  have h1c' : ∀ u ∈ (List.range (m * sz)).map (fun j => cs (n * sz + j)), u.oneCell' = true := by
    intro u hu
    obtain ⟨j, hj, rfl⟩ := List.mem_map.1 hu
    exact h1c j (List.mem_range.1 hj)
  refine wpList_append_grows w hg s x t hop e i z sz bytes h1 hi hz0 hz1 hz2 h6 h7 (some ⟨g0, 0, none⟩) n n ((List.range (n * sz)).map cs) hs (fun h => by cases h) (by simp) (fun b hb => by cases hb; exact cell_ g0 _ cs hold) ⟨g, 0, none⟩ m c _ hx (by simp) (cell_ g _ _ hc) h1c' (by omega) b1 b2 ?_
  intro v' w' ho hgr
  exact hK v' w' (by unfold Own; rw [← news_len n m sz cs]; exact ho) ((Below.refl w.heap.size w).grown hgr (Nat.le_refl _) (fun k hk => by cases hk))
/-- a list that is full and is only read -/
def FullB (w : World) (v : Value) (L : List Int) : Prop := ∃ g, v = .slice (some ⟨g, 0, none⟩) L.length L.length ∧ ∀ j, j < L.length → w.cell? ⟨g, j, none⟩ = some (bV L j)
theorem FullB.fresh {w w' : World} {v : Value} {L : List Int} (h : FullB w v L) (f : Below w.heap.size w w') : FullB w' v L := by
  obtain ⟨g, e, hc⟩ := h
  exact ⟨g, e, fun j hj => fresh_cell f (hc j hj)⟩
set_option maxRecDepth 20000 in
set_option maxHeartbeats 4000000 in
theorem section_full {w : World} {v : Value} {L : List Int} (hv : FullB w v L) (hL : L.length ≤ 536870912) (c : Int) {b1 : Nat} {bv : Value} {M : List Int} (hM : OwB w b1 bv M) (hM0 : 0 < M.length) (hM1 : M.length ≤ 536870912) :
    Calls Try.prog 29 #[v, .int .u8 c, bv] w fun e w' => ∃ v', e = .returned v' ∧ OwB w' w.heap.size v' (L ++ secL c M) ∧ Below w.heap.size w w' := by
  have HV := hidd hv
  have HM := hidd hM
  obtain ⟨lg, rfl, hlc⟩ := hv
  obtain ⟨mg, mc, rfl, hmc, hmt⟩ := hM.slice hM0
  have HH := hidd (header_any w (c := c) (m := M.length) (by omega))
  have HLC : Hid (∀ j, j < L.length → w.cell? ⟨lg, j, none⟩ = some (bV L j)) := hlc
  clear hlc hM
  go_enter Try.func29, Try.ntmps29
  go_wp2_with fail
  refine HH.out.mono ?_
  rintro e w1 ⟨hv, rfl, hho, f1⟩
  have HHO := hidd hho
  have hhl : (c :: num M.length 4).length = 5 := by simp [num_len]
  obtain ⟨hg, hc, rfl, hhc, hht⟩ := hho.slice (by omega)
  rw [hhl] at hhc
  have HO1 : Hid (∀ j, j < L.length * 1 → w1.cell? ⟨lg, j, none⟩ = some (bV (L ++ secL c M) j)) := fun j hj => by
    rw [← bV_pre L _ (by omega)]
    exact fresh_cell f1 (HLC.out j (by omega))
  have HHO2 : Hid (Own w1 w.heap.size 5 1 (.slice (some ⟨hg, 0, none⟩) 5 hc) 5 (bV (c :: num M.length 4))) := by have h9 := HHO.out; unfold OwB at h9; rw [hhl] at h9; exact h9
  have HC1 : Hid (∀ j, j < 5 * 1 → w1.cell? ⟨hg, j, none⟩ = some (bV (L ++ secL c M) (L.length * 1 + j))) := by
    have h9 := cells_of (L := L) (n := L.length) rfl hhl (N := L ++ (c :: num M.length 4)) rfl (X := M) HHO2.out
    rw [List.append_assoc, ← secL_eq] at h9
    exact h9
  have HM1 := hidd (Own.kept HM.out f1)
  have HB1 := hidd f1
  rw [hhl]
  clear f1 hho HHO HH HLC HV HM
  go_wp2_with (at_builtin; refine wpList_appF w1 rfl _ _ 35 rfl 5 (.int .u8 0) 1 1 Try.underlying35 infoU8 rfl (by decide) lg L.length (bV (L ++ secL c M)) rfl HO1.out hg 5 hc rfl HC1.out (fun _ _ => rfl) (by decide) (by unfold maxLen; omega) (by omega) ?_)
  rintro v2 w2 ho2 hb2
  have HO2 := hidd ho2
  have HB2 := hidd (fresh_trans HB1.out hb2)
  have hM2 := Own.kept HM1.out hb2
  have HC2 : Hid (∀ j, j < M.length * 1 → w2.cell? ⟨mg, j, none⟩ = some (bV (L ++ secL c M) ((L.length + 5) * 1 + j))) := by
    have h9 := cells_of (L := L ++ (c :: num M.length 4)) (M := M) (n := L.length + 5) (by rw [List.length_append, hhl]) rfl (N := L ++ secL c M) (by rw [secL_eq, List.append_assoc]) (X := []) hM2
    rw [List.append_nil] at h9
    exact h9
  have HS2 : Hid (w1.heap.size ≤ w2.heap.size) := hb2.size
  have HS1 : Hid (w.heap.size ≤ w1.heap.size) := HB1.out.size
  obtain ⟨p2, uc2, rfl, _⟩ := ho2.rd
  clear ho2 hb2 hM2 HO1 HC1 HHO2 HM1 HB1
  go_wp2_with (at_builtin; refine wpList_app w2 rfl _ _ 35 rfl w1.heap.size 5 (.int .u8 0) 1 1 Try.underlying35 infoU8 rfl (by decide) _ (L.length + 5) (bV (L ++ secL c M)) rfl HO2.out mg M.length mc rfl HC2.out (fun _ _ => rfl) hM0 (by unfold maxLen; omega) (by omega) HS2.out ?_)
  rintro v3 w3 ho3 ha3
  have HO3 := hidd (ho3.weaken HS1.out)
  have HA3 := hidd (ha3.below HB2.out HO2.out HS1.out (Nat.le_trans HS1.out HS2.out))
  obtain ⟨p3, uc3, rfl, _⟩ := ho3.rd
  clear ho3 ha3 HO2 HB2 HC2 HS2 HS1
  go_wp2
  go_ret
  exact ⟨_, rfl, by have h9 := HO3.out; unfold OwB; rw [List.length_append, secL_len, show L.length + (M.length + 5) = L.length + 5 + M.length by omega]; exact h9, HA3.out⟩
theorem secF_in {w z : World} {b0 : Nat} (hz : b0 ≤ z.heap.size) {v bv : Value} {L M : List Int} (hv : FullB z v L) (hL : L.length ≤ 536870912) (c : Int) (hM : OwB w z.heap.size bv M) (f : Below z.heap.size z w) (hM0 : 0 < M.length) (hM1 : M.length ≤ 536870912) :
    Calls Try.prog 29 #[v, .int .u8 c, bv] w fun e w' => ∃ v', e = .returned v' ∧ OwB w' b0 v' (L ++ secL c M) ∧ Below b0 z w' :=
  (section_full (hv.fresh f) hL c hM hM0 hM1).mono fun _ _ ⟨v', h1, h2, h3⟩ => ⟨v', h1, h2.weaken (Nat.le_trans hz f.size), (fresh_trans f h3).mono hz⟩
/-- the list of a constant text -/
theorem full_newL (w : World) (L : List Int) (e : TypeId) (m : Nat × Nat) : FullB (w.alloc (.cells (L.map (fun x => Value.int .u8 x)).toArray e m)) (.slice (some ⟨w.heap.size, 0, none⟩) L.length L.length) L := by
  refine ⟨w.heap.size, rfl, fun j hj => ?_⟩
  have h0 : (w.alloc (.cells (L.map (fun x => Value.int .u8 x)).toArray e m)).heap[w.heap.size]? = some (.cells (L.map (fun x => Value.int .u8 x)).toArray e m) := by
    show (w.heap.push _)[w.heap.size]? = _
    simp
  unfold World.cell?
  dsimp only
  rw [h0]
  simp [hj, bV]
end Go.Proofs.Ytilghknalbhacaa
