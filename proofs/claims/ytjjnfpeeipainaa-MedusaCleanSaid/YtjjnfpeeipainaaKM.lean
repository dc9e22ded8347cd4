import Derived.Test.YtjjnfpeeipainaaMA
import Derived.Test.YtjjnfpeeipainaaLG
import Derived.Test.YtjjnfpeeipainaaMB
import Derived.Test.YtjjnfpeeipainaaHX
import Derived.Deep.DeepCutAuto
namespace Go.Proofs.Ytjjnfpeeipainaa
open Go.RowKit
/-! Propose. -/
/-- what is proposed -/
def prL (S : (Nat → Int) → Nat → Nat → Nat) (x : WtD) (f : Nat → Int) (R C : Nat) (ws : Nat → Int) (n : Nat) : List (Int × Int) := grL (fun i => tpL S (fun r => mv (x.md i).f f C r) R (ws i)) (min x.mn n)
theorem propose_nil (W : World) (ho : Option Addr) (n hc : Nat) (wo : Option Addr) (k wc : Nat) : Calls Try.prog 11 #[.pointer none, .slice ho n hc, .slice wo k wc] W fun e w' => e = .returned (.tuple #[.slice none 0 0, .int .i64 1]) ∧ w' = W := by
  go_enter Try.func11, Try.ntmps11
  go_wp2_with (go_at_call 12; refine (guesses_nil _ _ _ _).mono ?_; rintro e w' ⟨rfl, rfl⟩)
  go_ret2
  exact ⟨rfl, rfl⟩
set_option maxRecDepth 100000 in
set_option maxHeartbeats 8000000 in
theorem propose_ok {S : (Nat → Int) → Nat → Nat → Nat} (HT : TopC S) {W : World} {g : Nat} {x y : WtD} (h : Mdl W g x y) (hB : WtB y) {R C : Nat} (hV : x.V = (R : Int)) (hW : x.W = (C : Int)) (hR : R ≤ 1048576) (hm : ∀ k, k < x.mn → (x.md k).isa x.V x.W) (hmn : x.mn ≤ 1048576) {ho : Option Addr} {hc : Nat} {f : Nat → Int} (hh : RdA W ho 1 C hc (fun i => .int .i8 (f i))) (hg : ∀ i, i < C → -128 ≤ f i ∧ f i ≤ 127)
    {wo : Option Addr} {n wc : Nat} {ws : Nat → Int} (hw : RdA W wo 1 n wc (fun i => .int .i64 (ws i))) (h0 : ∀ i, i < n → 0 ≤ ws i) :
    Calls Try.prog 11 #[.pointer (some ⟨g, 0, none⟩), .slice ho C hc, .slice wo n wc] W fun e w' =>
      ∃ u c, e = .returned (.tuple #[.slice u (prL S x f R C ws n).length c, .int .i64 0]) ∧ Own w' W.heap.size 48 2 (.slice u (prL S x f R C ws n).length c) (prL S x f R C ws n).length (rwF (prL S x f R C ws n)) ∧ Below W.heap.size W w' := by
  have HG := hidd (guesses_ok h hB hV hW hR hm hmn hh hg)
  have HW := hidd hw
  have H0 := hidd h0
  have hwl := hw.le
  have hwt := hw.top
  unfold maxLen at hwt
  obtain ⟨d, hd⟩ : ∃ d, d = min x.mn n := ⟨_, rfl⟩
  obtain ⟨L, hL⟩ : ∃ L, L = prL S x f R C ws n := ⟨_, rfl⟩
  rw [← hL]
  have HBE : Hid (∀ (z : World) (gu : Option Addr) (gc : Nat), GsE W z (.slice gu x.mn gc) x.mn R C x.md f → Below W.heap.size W z → Calls Try.prog 31 #[.slice gu x.mn gc, .slice wo n wc] z fun e w' => ∃ A C', e = .returned (.slice (some ⟨z.heap.size, 0, none⟩) d d) ∧ Tk w' (some ⟨z.heap.size, 0, none⟩) d d (fun i => tpL S (fun r => mv (x.md i).f f C r) R (ws i)) A C' ∧ Below z.heap.size z w') := by
    rintro z gu gc ⟨bb, hgs⟩ hz
    exact best_any HT (Fs := fun j r => mv (x.md j).f f C r) hd (md_rda hgs.own) (fun j hj => by
      obtain ⟨_, F, h1, h2⟩ := hgs.rows j hj
      exact (rowIs_rd h1 (by unfold maxLen; omega)).congr (fun r hr => h2 r (by omega))) (HW.out.fresh hz) hR hmn
  have HGR : Hid (∀ (z : World) (b : Nat) (A : Nat → Option Addr) (C' : Nat → Nat), Tk z (some ⟨b, 0, none⟩) d d (fun i => tpL S (fun r => mv (x.md i).f f C r) R (ws i)) A C' → Calls Try.prog 30 #[.slice (some ⟨b, 0, none⟩) d d] z fun e w' => ∃ u c, e = .returned (.slice u L.length c) ∧ Own w' z.heap.size 48 2 (.slice u L.length c) L.length (rwF L) ∧ Below z.heap.size z w') := by
    intro z b A C' ht
    have := grow_any ht (by omega)
    rw [hL]
    unfold prL
    rw [← hd]
    exact this
  clear h hB hV hW hm hh hg hw h0 hL hd
  go_enter Try.func11, Try.ntmps11
  go_wp2_with fail
  refine HG.out.mono ?_
  rintro e w1 ⟨gu, gc, rfl, hgs, f1⟩
  have HB1 := hidd (HBE.out w1 gu gc hgs f1)
  have F1 := hidd f1
  clear HG HBE hgs f1
  go_wp2
  go_loopw [23] (fun vi wr => ∃ k : Nat, k ≤ n ∧ vi = .int .i64 (k : Int) ∧ Hid (wr = w1)) (fun vi _ => n - (intOf vi).toNat)
  case atStart => exact ⟨0, by omega, rfl, rfl⟩
  case round =>
    obtain ⟨k, hk, rfl, HE⟩ := hrel
    rw [HE.out]
    clear HE
    by_cases hlt : k < n
    · obtain ⟨wb, wf, ew, h2⟩ := (HW.out.fresh F1.out).one (by omega)
      rw [ew]
      have c2 : w1.cell? ⟨wb, wf + k, none⟩ = some (.int .i64 (ws k)) := h2 k hlt
      have i0 : (0 : Int) ≤ (k : Int) := by omega
      have i1 : (k : Int) < (n : Int) := by omega
      have d1 : decide (ws k < 0) = false := decide_eq_false (by have := H0.out k hlt; omega)
      have EW := hidd ew
      clear h2 ew
      go_wp2
      go_roundw
      case rel => exact ⟨k + 1, by omega, by go_num, (by first | rfl | trivial)⟩
      case measure => simp [intOf]; omega
    · obtain rfl : k = n := by omega
      have hnl : ¬ ((k : Int) < (k : Int)) := by omega
      go_wp2_with fail
      refine HB1.out.mono ?_
      rintro e w2 ⟨A, C', rfl, htk, f2⟩
      have HG2 := hidd (HGR.out w2 _ A C' htk)
      have F2 := hidd (fresh_trans F1.out f2)
      clear htk f2 HB1 HGR
      go_wp2_with fail
      refine HG2.out.mono ?_
      rintro e w3 ⟨u, c, rfl, ho, f3⟩
      have HO := hidd (ho.weaken F2.out.size)
      have F3 := hidd (fresh_trans F2.out f3)
      clear ho f3 HG2
      go_wp2
      go_ret2
      exact ⟨u, c, rfl, HO.out, F3.out⟩
end Go.Proofs.Ytjjnfpeeipainaa
namespace Go.Proofs.Ytjjnfpeeipainaa
open Go.RowKit
/-! fixed: what that model proposes. -/
theorem topC : TopC sg := fun _ _ _ _ _ h hn k => top_any h hn k
theorem sg_three {f : Nat → Int} (h0 : f 0 = 2) (h1 : f 1 = 1) (h2 : f 2 = 3) : sg f 3 0 = 2 ∧ sg f 3 1 = 0 := by
  have a0 := sg_lt (f := f) (n := 3) (k := 0) (by omega)
  have a1 := sg_lt (f := f) (n := 3) (k := 1) (by omega)
  have a2 := sg_lt (f := f) (n := 3) (k := 2) (by omega)
  have r1 := sg_ahead (f := f) (n := 3) (i := 0) (j := 1) (by omega) (by omega)
  have r2 := sg_ahead (f := f) (n := 3) (i := 1) (j := 2) (by omega) (by omega)
  have i1 : sg f 3 0 ≠ sg f 3 1 := fun e => by have := sg_inj (f := f) (n := 3) (by omega) (by omega) e; omega
  have i2 : sg f 3 1 ≠ sg f 3 2 := fun e => by have := sg_inj (f := f) (n := 3) (by omega) (by omega) e; omega
  have i3 : sg f 3 0 ≠ sg f 3 2 := fun e => by have := sg_inj (f := f) (n := 3) (by omega) (by omega) e; omega
  generalize sg f 3 0 = p at *
  generalize sg f 3 1 = q at *
  generalize sg f 3 2 = r at *
  have hp : p = 0 ∨ p = 1 ∨ p = 2 := by omega
  have hq : q = 0 ∨ q = 1 ∨ q = 2 := by omega
  have hr : r = 0 ∨ r = 1 ∨ r = 2 := by omega
  clear a0 a1 a2
  rcases hp with rfl | rfl | rfl <;> rcases hq with rfl | rfl | rfl <;> rcases hr with rfl | rfl | rfl <;> first | exact ⟨rfl, rfl⟩ | (exfalso; omega)
def oneF : Nat → Int := fun i => ([1, 0] : List Int).getD i 0
def twoF : Nat → Int := fun i => ([2] : List Int).getD i 0
theorem pl_list {x : WtD} (hmn : x.mn = 1) (hf : ∀ i, (x.md 0).f i = hdF i) : prL sg x oneF 3 2 twoF 1 = [(-1, 2), (-1, 0)] := by
  have e : ∀ r, mv (x.md 0).f oneF 2 r = wrap64 (hdF (r * 2)) := by
    intro r
    unfold mv dot
    simp [isum, oneF, hf]
  have hs := sg_three (f := fun r => mv (x.md 0).f oneF 2 r) (by rw [e]; show wrap64 2 = 2; simp [wrap64]) (by rw [e]; show wrap64 1 = 1; simp [wrap64]) (by rw [e]; show wrap64 3 = 3; simp [wrap64])
  have ht : tpL sg (fun r => mv (x.md 0).f oneF 2 r) 3 (twoF 0) = [2, 0] := by
    unfold tpL
    show (List.range 2).map _ = _
    simp [List.range_succ, hs.1, hs.2]
  unfold prL grL
  rw [hmn]
  show gr [tpL sg (fun r => mv (x.md 0).f oneF 2 r) 3 (twoF 0)] 0 1 [] = _
  rw [ht]
  rfl
theorem lit_rd (w : World) {t : TypeId} {l : List Value} {f : Nat → Value} (hl : l.length ≤ 64) (h : ∀ i, i < l.length → l.getD i undef = f i) : RdA (w.alloc (.cells l.toArray t)) (some ⟨w.heap.size, 0, none⟩) 1 l.length l.length f :=
  (rowIs_rd (Blk.row (Blk.new w t l.toArray)) (by unfold maxLen; omega)).congr (fun j hj => h j (by omega))
set_option maxRecDepth 20000 in
set_option maxHeartbeats 4000000 in
theorem fixedM_any (w : World) : Calls Try.prog 8 #[] w fun e w' => e = .returned (.bool true) ∧ Below w.heap.size w w' := by
  have HPL := hidd (plain_any w)
  have HPR : Hid (∀ (z : World) (x : WtD) (g : Nat), PlP z x g → Calls Try.prog 11 #[.pointer (some ⟨g, 0, none⟩), .slice (some ⟨z.heap.size, 0, none⟩) 2 2, .slice (some ⟨z.heap.size + 1, 0, none⟩) 1 1] ((z.alloc (.cells #[.int .i8 1, .int .i8 0] 51)).alloc (.cells #[.int .i64 2] 3)) fun e w' => ∃ b c, e = .returned (.tuple #[.slice (some ⟨b, 0, none⟩) 2 c, .int .i64 0]) ∧ 2 ≤ c ∧ c ≤ 9223372036854775807 ∧ (∀ w9, Below w'.heap.size w' w9 → w9.cell? ⟨b, 0, none⟩ = some (.int .i64 (-1)) ∧ w9.cell? ⟨b, 1, none⟩ = some (.int .i64 2) ∧ w9.cell? ⟨b, 2, none⟩ = some (.int .i64 (-1)) ∧ w9.cell? ⟨b, 3, none⟩ = some (.int .i64 0)) ∧ Below z.heap.size z w') := by
    rintro z x g ⟨y, hmd, hm, hp, hV, hW, hmn, hf⟩
    have fa := fresh_trans (fresh_alloc z (.cells #[.int .i8 1, .int .i8 0] 51)) (fresh_alloc _ (.cells #[.int .i64 2] 3))
    have r1 : RdA ((z.alloc (.cells #[.int .i8 1, .int .i8 0] 51)).alloc (.cells #[.int .i64 2] 3)) (some ⟨z.heap.size, 0, none⟩) 1 2 2 (fun i => .int .i8 (oneF i)) := (lit_rd z (l := [.int .i8 1, .int .i8 0]) (by decide) (fun i hi => (by
      have hi' : i < 2 := hi
      match i, hi' with
      | 0, _ => rfl
      | 1, _ => rfl))).fresh (fresh_alloc _ _)
    have r2 : RdA ((z.alloc (.cells #[.int .i8 1, .int .i8 0] 51)).alloc (.cells #[.int .i64 2] 3)) (some ⟨z.heap.size + 1, 0, none⟩) 1 1 1 (fun i => .int .i64 (twoF i)) := by
      have := lit_rd (z.alloc (.cells #[.int .i8 1, .int .i8 0] 51)) (t := 3) (l := [.int .i64 2]) (f := fun i => .int .i64 (twoF i)) (by decide) (fun i hi => (by
        have hi' : i < 1 := hi
        match i, hi' with
        | 0, _ => rfl))
      simp only [World.size_alloc] at this
      exact this
    have hmd2 := hmd.fresh fa
    have hc := propose_ok topC hmd2 (hmd2.b hm hp) (R := 3) (C := 2) hV hW (by omega) hp.m (by omega) r1 (fun i hi => (by
      match i, hi with
      | 0, _ => decide
      | 1, _ => decide)) r2 (fun i hi => (by
      match i, hi with
      | 0, _ => decide))
    refine hc.mono ?_
    rintro e w' ⟨u, c, rfl, ho, f1⟩
    rw [pl_list hmn hf] at ho ⊢
    have hr := md_rda ho
    have hle := hr.le
    have htop := hr.top
    obtain ⟨b, o, eu, hc⟩ := hr.at_ (by decide)
    have hb0 := ho
    rcases ho.2 with ⟨e4, _⟩ | ⟨g', cap', cur, e4, _⟩
    · cases e4
    · injection e4 with e5
      rw [eu] at e5
      injection e5 with e5
      injection e5 with e6 e7
      subst e6 e7 eu
      refine ⟨_, c, rfl, hle, htop, fun w9 h9 => ⟨?_, ?_, ?_, ?_⟩, fresh_trans fa f1⟩
      · exact fresh_cell h9 (by have := hc 0 (by decide); rw [Nat.zero_add] at this; exact this)
      · exact fresh_cell h9 (by have := hc 1 (by decide); rw [Nat.zero_add] at this; exact this)
      · exact fresh_cell h9 (by have := hc 2 (by decide); rw [Nat.zero_add] at this; exact this)
      · exact fresh_cell h9 (by have := hc 3 (by decide); rw [Nat.zero_add] at this; exact this)
  have HPN : Hid (∀ z ho n hc wo k wc, Calls Try.prog 11 #[.pointer none, .slice ho n hc, .slice wo k wc] z fun e w' => e = .returned (.tuple #[.slice none 0 0, .int .i64 1]) ∧ w' = z) := fun z ho n hc wo k wc => propose_nil z ho n hc wo k wc
  go_enter Try.func8, Try.ntmps8
  go_wp2_with fail
  refine HPL.out.mono ?_
  rintro e w1 ⟨x, g, rfl, hx, f1⟩
  have HP1 := hidd (HPR.out w1 x g hx)
  have F1 := hidd f1
  clear HPL HPR hx f1
  go_wp2_with fail
  refine HP1.out.mono ?_
  rintro e w2 ⟨b, c, rfl, hc1, hc2, hcell, f2⟩
  have HC := hidd hcell
  have F2 := hidd (fresh_trans F1.out f2)
  have FA := hidd (fresh_trans (fresh_alloc w2 (.cells #[.int .i8 1, .int .i8 0] 51)) (fresh_alloc _ (.cells #[.int .i64 2] 3)))
  clear hcell f2 HP1 F1
  go_wp2_with fail
  refine (HPN.out _ _ _ _ _ _ _).mono ?_
  rintro e w3 ⟨rfl, hw3⟩
  rw [hw3]
  clear hw3 w3 HPN
  obtain ⟨k0, k1, k2, k3⟩ := HC.out _ FA.out
  have F3 := hidd (fresh_trans F2.out FA.out)
  generalize (w2.alloc (.cells #[.int .i8 1, .int .i8 0] 51)).alloc (.cells #[.int .i64 2] 3) = w3 at *
  clear HC FA F2
  go_wp2
  go_ret
  exact ⟨rfl, F3.out⟩
end Go.Proofs.Ytjjnfpeeipainaa
namespace Go.Proofs.Ytjjnfpeeipainaa
open Go.RowKit
/-! fit, right. -/
def fitF (f : Nat → Int) (n : Nat) (i : Nat) : Int := if i < n then f i else IntKind.i8.wrap ((i : Int) + 2)
theorem fitF_lt {f : Nat → Int} {n i : Nat} (h : i < n) : fitF f n i = f i := if_pos h
theorem fitF_ge {f : Nat → Int} {n i : Nat} (h : ¬ i < n) : fitF f n i = IntKind.i8.wrap ((i : Int) + 2) := if_neg h
theorem fitF_bd {f : Nat → Int} {n : Nat} (h : ∀ i, i < n → -128 ≤ f i ∧ f i ≤ 127) (i : Nat) : -128 ≤ fitF f n i ∧ fitF f n i ≤ 127 := by
  by_cases e : i < n
  · rw [fitF_lt e]; exact h i e
  · rw [fitF_ge e]
    simp [IntKind.wrap, IntKind.bits, IntKind.signed]
    omega
set_option maxRecDepth 100000 in
set_option maxHeartbeats 4000000 in
theorem fitv_any {w : World} {x : WtD} {C : Nat} (hW : x.W = (C : Int)) (hC : C ≤ 1048576) {ho : Option Addr} {n hc : Nat} {f : Nat → Int} (hh : RdA w ho 1 n hc (fun i => .int .i8 (f i))) :
    Calls Try.prog 10 #[.agg #[.int .i64 x.V, .int .i64 x.W, .int .i64 x.H, .int .i64 x.K, .int .i64 x.L, .int .i64 x.D, .int .i64 x.N, .int .i64 x.M, .int .i64 x.E.R, .int .i64 x.E.C, .slice x.E.O x.E.n x.E.c, .slice x.tO x.tn x.tc, .slice x.yO x.yn x.yc, .slice x.F.O x.F.n x.F.c, .int .i64 x.Q.R, .int .i64 x.Q.C, .slice x.Q.O x.Q.n x.Q.c, .slice x.mO x.mn x.mc], .slice ho n hc] w fun e w' => ∃ u c, e = .returned (.slice u C c) ∧ Own w' w.heap.size 51 1 (.slice u C c) C (fun i => .int .i8 (fitF f n i)) ∧ Below w.heap.size w w' := by
  have hr : (w.alloc (.cells #[.int .i64 x.V, .int .i64 x.W, .int .i64 x.H, .int .i64 x.K, .int .i64 x.L, .int .i64 x.D, .int .i64 x.N, .int .i64 x.M, .int .i64 x.E.R, .int .i64 x.E.C, .slice x.E.O x.E.n x.E.c, .slice x.tO x.tn x.tc, .slice x.yO x.yn x.yc, .slice x.F.O x.F.n x.F.c, .int .i64 x.Q.R, .int .i64 x.Q.C, .slice x.Q.O x.Q.n x.Q.c, .slice x.mO x.mn x.mc] 31)).rowIs w.heap.size 31 18 (wtc x) := World.rowIs_list w (wtL x) 31
  have f1 := fresh_alloc w (.cells #[.int .i64 x.V, .int .i64 x.W, .int .i64 x.H, .int .i64 x.K, .int .i64 x.L, .int .i64 x.D, .int .i64 x.N, .int .i64 x.M, .int .i64 x.E.R, .int .i64 x.E.C, .slice x.E.O x.E.n x.E.c, .slice x.tO x.tn x.tc, .slice x.yO x.yn x.yc, .slice x.F.O x.F.n x.F.c, .int .i64 x.Q.R, .int .i64 x.Q.C, .slice x.Q.O x.Q.n x.Q.c, .slice x.mO x.mn x.mc] 31)
  have HH := hidd hh
  have hnc := hh.le
  have hnt := hh.top
  unfold maxLen at hnt
  have HW := hidd hW
  clear hh hW
  go_enter Try.func10, Try.ntmps10
  go_upto_region 1 with fail
  generalize w.alloc (.cells #[.int .i64 x.V, .int .i64 x.W, .int .i64 x.H, .int .i64 x.K, .int .i64 x.L, .int .i64 x.D, .int .i64 x.N, .int .i64 x.M, .int .i64 x.E.R, .int .i64 x.E.C, .slice x.E.O x.E.n x.E.c, .slice x.tO x.tn x.tc, .slice x.yO x.yn x.yc, .slice x.F.O x.F.n x.F.c, .int .i64 x.Q.R, .int .i64 x.Q.C, .slice x.Q.O x.Q.n x.Q.c, .slice x.mO x.mn x.mc] 31) = wa at *
  have HC1 : Hid (wa.cell? ⟨w.heap.size, 1, none⟩ = some (.int .i64 (C : Int))) := by show _ = _; rw [← HW.out]; exact hr.cell (i := 1) (by decide)
  have hsz := hr.lt
  clear hr HW
  go_wp2
  go_loopw [5, 6, 7] (fun v i _ wr => ∃ k : Nat, k ≤ C ∧ i = .int .i64 (k : Int) ∧ Own wr wa.heap.size 51 1 v k (fun i => .int .i8 (fitF f n i)) ∧ Below wa.heap.size wa wr) (fun _ i _ _ => C - (intOf i).toNat)
  case atStart => exact ⟨0, Nat.zero_le _, by simp, own_nil _ _ _ _ _, Below.refl _ _⟩
  case round =>
    obtain ⟨k, hk, rfl, hown, hf⟩ := hrel
    obtain ⟨p, uc, rfl, _⟩ := hown.rd
    have c1 := fresh_cell hf HC1.out
    have hsz2 := hf.size
    by_cases hlt : k < C
    · have i0 : (0 : Int) ≤ (k : Int) := by omega
      have i1 : (k : Int) < (C : Int) := by omega
      by_cases hkn : k < n
      · obtain ⟨b, off, rfl, hcell⟩ := (HH.out.fresh (fresh_trans f1 hf)).one (by omega)
        have ck := hcell k hkn
        have i2 : (k : Int) < (n : Int) := by omega
        have HN : Hid (∀ (w0 : World) (t : TypeId), (w0.alloc (.cells #[.int .i8 (f k)] t)).cell? ⟨w0.heap.size, 0, none⟩ = some (.int .i8 (fitF f n k))) := fun w0 t => by rw [new_cell, fitF_lt hkn]
        have HO := hidd (hown.kept (fresh_alloc wr (.cells #[.int .i8 (f k)] 51)))
        have HFA := hidd (fresh_trans hf (fresh_alloc wr (.cells #[.int .i8 (f k)] 51)))
        clear hcell
        go_wp2_with (at_builtin; refine wpList_app1 _ rfl _ _ 24 rfl wa.heap.size 51 (.int .i8 0) 1 Try.underlying24 infoI8 rfl _ k (fun i => .int .i8 (fitF f n i)) rfl HO.out wr.heap.size 1 rfl (HN.out _ _) rfl (by omega) (by omega) HFA.out.size ?_)
        rintro v' w2 hown' happ
        have HB := hidd (happ.below HFA.out HO.out (Nat.le_refl _) HFA.out.size)
        clear happ HO HFA HN
        go_wp2
        go_roundw
        case rel => exact ⟨k + 1, by omega, by go_num, hown', HB.out⟩
        case measure => simp [intOf]; omega
      · have i2 : ¬ ((k : Int) < (n : Int)) := by omega
        have HN : Hid (∀ (w0 : World) (t : TypeId), (w0.alloc (.cells #[.int .i8 (IntKind.i8.wrap ((k : Int) + 2))] t)).cell? ⟨w0.heap.size, 0, none⟩ = some (.int .i8 (fitF f n k))) := fun w0 t => by rw [new_cell, fitF_ge hkn]
        have HO := hidd (hown.kept (fresh_alloc wr (.cells #[.int .i8 (IntKind.i8.wrap ((k : Int) + 2))] 51)))
        have HFA := hidd (fresh_trans hf (fresh_alloc wr (.cells #[.int .i8 (IntKind.i8.wrap ((k : Int) + 2))] 51)))
        go_wp2_with (at_builtin; refine wpList_app1 _ rfl _ _ 24 rfl wa.heap.size 51 (.int .i8 0) 1 Try.underlying24 infoI8 rfl _ k (fun i => .int .i8 (fitF f n i)) rfl HO.out wr.heap.size 1 rfl (HN.out _ _) rfl (by omega) (by omega) HFA.out.size ?_)
        rintro v' w2 hown' happ
        have HB := hidd (happ.below HFA.out HO.out (Nat.le_refl _) HFA.out.size)
        clear happ HO HFA HN
        go_wp2
        go_roundw
        case rel => exact ⟨k + 1, by omega, by go_num, hown', HB.out⟩
        case measure => simp [intOf]; omega
    · obtain rfl : k = C := by omega
      have hnl : ¬ ((k : Int) < (k : Int)) := by omega
      go_wp2
      go_ret
      exact ⟨p, uc, rfl, hown.weaken (by omega), fresh_trans f1 hf⟩
/-- widths that are none below 0 -/
def rgF (f : Nat → Int) (i : Nat) : Int := if f i < 0 then 1 else f i
theorem rgF_pos (f : Nat → Int) (i : Nat) : 0 ≤ rgF f i := by unfold rgF; split <;> omega
theorem infoIn : (Try.prog.info? 3).map (fun i => (i.zero, i.size, i.bytes)) = some (some (.int .i64 0), 1, 8) := by kernel_rfl
set_option maxRecDepth 20000 in
set_option maxHeartbeats 4000000 in
theorem right_any {w : World} {ao : Option Addr} {n cap : Nat} {f : Nat → Int} (hn : n * 8 ≤ 140737488355328) (h : RdA w ao 1 n cap (fun i => .int .i64 (f i))) :
    Calls Try.prog 17 #[.slice ao n cap] w fun e w' => ∃ u c, e = .returned (.slice u n c) ∧ Own w' w.heap.size 3 1 (.slice u n c) n (fun i => .int .i64 (rgF f i)) ∧ Below w.heap.size w w' := by
  have HH := hidd h
  have hnc := h.le
  have hnt := h.top
  unfold maxLen at hnt
  clear h
  go_enter Try.func17, Try.ntmps17
  go_wp2
  go_loopw [3, 4, 5] (fun v i _ wr => ∃ k : Nat, k ≤ n ∧ i = .int .i64 (k : Int) ∧ Own wr w.heap.size 3 1 v k (fun i => .int .i64 (rgF f i)) ∧ Hid (Below w.heap.size w wr)) (fun _ i _ _ => n - (intOf i).toNat)
  case atStart => exact ⟨0, Nat.zero_le _, by simp, own_nil _ _ _ _ _, Below.refl _ _⟩
  case round =>
    obtain ⟨k, hk, rfl, hown, HF⟩ := hrel
    obtain ⟨p, uc, rfl, _⟩ := hown.rd
    have hsz := HF.out.size
    by_cases hlt : k < n
    · have i0 : (0 : Int) ≤ (k : Int) := by omega
      have i1 : (k : Int) < (n : Int) := by omega
      obtain ⟨b, off, rfl, hcell⟩ := (HH.out.fresh HF.out).one (by omega)
      have ck : wr.cell? ⟨b, off + k, none⟩ = some (.int .i64 (f k)) := hcell k hlt
      obtain ⟨y, HY⟩ : ∃ y, Hid (y = rgF f k) := ⟨_, rfl⟩
      have HN : Hid (∀ (w0 : World) (t : TypeId), (w0.alloc (.cells #[.int .i64 y] t)).cell? ⟨w0.heap.size, 0, none⟩ = some (.int .i64 (rgF f k))) := fun w0 t => by rw [new_cell, HY.out]
      have HO := hidd (hown.kept (fresh_alloc wr (.cells #[.int .i64 y] 3)))
      have HFA := hidd (HF.out.alloc hsz (.cells #[.int .i64 y] 3))
      clear hcell hown
      by_cases hneg : f k < 0
      · have d1 : decide (f k < 0) = true := decide_eq_true hneg
        have hy : y = 1 := by rw [HY.out]; exact if_pos hneg
        rw [hy] at HN HO HFA
        clear hy HY
        go_wp2_with (at_builtin; refine wpList_app1 _ rfl _ _ 37 rfl w.heap.size 3 (.int .i64 0) 8 Try.underlying37 infoIn rfl _ k (fun i => .int .i64 (rgF f i)) rfl HO.out wr.heap.size 1 rfl (HN.out _ _) rfl (by omega) (by omega) HFA.out.size ?_)
        rintro v' w2 hown' happ
        have HB := hidd (happ.below HFA.out HO.out (Nat.le_refl _) HFA.out.size)
        clear happ HO HFA HN
        go_wp2
        go_roundw
        case rel => exact ⟨k + 1, by omega, by go_num, hown', HB⟩
        case measure => simp [intOf]; omega
      · have d1 : decide (f k < 0) = false := decide_eq_false hneg
        have hy : y = f k := by rw [HY.out]; exact if_neg hneg
        rw [hy] at HN HO HFA
        clear hy HY
        go_wp2_with (at_builtin; refine wpList_app1 _ rfl _ _ 37 rfl w.heap.size 3 (.int .i64 0) 8 Try.underlying37 infoIn rfl _ k (fun i => .int .i64 (rgF f i)) rfl HO.out wr.heap.size 1 rfl (HN.out _ _) rfl (by omega) (by omega) HFA.out.size ?_)
        rintro v' w2 hown' happ
        have HB := hidd (happ.below HFA.out HO.out (Nat.le_refl _) HFA.out.size)
        clear happ HO HFA HN
        go_wp2
        go_roundw
        case rel => exact ⟨k + 1, by omega, by go_num, hown', HB⟩
        case measure => simp [intOf]; omega
    · obtain rfl : k = n := by omega
      have hnl : ¬ ((k : Int) < (k : Int)) := by omega
      go_wp2
      go_ret
      exact ⟨p, uc, rfl, hown, HF.out⟩
end Go.Proofs.Ytjjnfpeeipainaa
namespace Go.Proofs.Ytjjnfpeeipainaa
open Go.RowKit
/-! The law MedusaBegins: lists. -/
theorem range_split {a b : Nat} (h : a ≤ b) (X : Nat → List Int) : (List.range b).map X = (List.range a).map X ++ (List.range (b - a)).map (fun i => X (a + i)) := by
  obtain ⟨c, rfl⟩ : ∃ c, b = a + c := ⟨b - a, by omega⟩
  rw [List.range_add, List.map_append, List.map_map, Nat.add_sub_cancel_left]
  rfl
theorem grL_pre (X : Nat → List Int) {a b : Nat} (h : a ≤ b) : grL X a <+: grL X b := by
  unfold grL
  rw [range_split h X]
  exact gr_app _ _ _ _ _ (by simp)
theorem grL_congr {X Y : Nat → List Int} {a : Nat} (h : ∀ i, i < a → X i = Y i) : grL X a = grL Y a := by
  unfold grL
  rw [List.map_congr_left (fun i hi => h i (List.mem_range.1 hi))]
theorem grL_stop {X : Nat → List Int} {a b : Nat} (h : a < b) (h0 : X a = []) : grL X b = grL X a := by
  unfold grL
  obtain ⟨c, hc⟩ : ∃ c, b - a = c + 1 := ⟨b - a - 1, by omega⟩
  rw [range_split (Nat.le_of_lt h) X, hc, List.range_succ_eq_map, List.map_cons, Nat.add_zero, h0]
  exact gr_stop _ _ _ _ _ (by simp) rfl
theorem prL_pre (x : WtD) (f : Nat → Int) (R C : Nat) (ws : Nat → Int) {a b : Nat} (h : a ≤ b) : prL sg x f R C ws a <+: prL sg x f R C ws b := grL_pre _ (by omega)
/-- the first k widths, a 0, and all of them -/
def cuF (ws : Nat → Int) (k : Nat) (i : Nat) : Int := if i < k then ws i else if i = k then 0 else ws (i - (k + 1))
theorem cuF_lt {ws : Nat → Int} {k i : Nat} (h : i < k) : cuF ws k i = ws i := if_pos h
theorem cuF_at (ws : Nat → Int) (k : Nat) : cuF ws k k = 0 := by unfold cuF; rw [if_neg (by omega), if_pos rfl]
theorem cuF_gt (ws : Nat → Int) (k j : Nat) : cuF ws k (k + 1 + j) = ws j := by
  unfold cuF
  rw [if_neg (by omega), if_neg (by omega)]
  congr 1
  omega
theorem cuF_pos {ws : Nat → Int} (h : ∀ i, 0 ≤ ws i) (k i : Nat) : 0 ≤ cuF ws k i := by
  unfold cuF
  split
  · exact h _
  · split
    · omega
    · exact h _
theorem tpL_zero (f : Nat → Int) (R : Nat) : tpL sg f R 0 = [] := by
  unfold tpL
  rw [show min (0 : Int).toNat R = 0 by omega]
  rfl
theorem prL_cut (x : WtD) (f : Nat → Int) (R C : Nat) (ws : Nat → Int) (k n : Nat) : prL sg x f R C (cuF ws k) (k + 1 + n) = prL sg x f R C ws k := by
  unfold prL
  by_cases h : x.mn ≤ k
  · rw [show min x.mn (k + 1 + n) = x.mn by omega, show min x.mn k = x.mn by omega]
    exact grL_congr (fun i hi => by rw [cuF_lt (by omega)])
  · rw [show min x.mn k = k by omega, grL_stop (a := k) (by omega) (by rw [cuF_at]; exact tpL_zero _ _)]
    exact grL_congr (fun i hi => by rw [cuF_lt (by omega)])
theorem prL_min (x : WtD) (f : Nat → Int) (R C : Nat) (ws : Nat → Int) (n : Nat) : prL sg x f R C ws (min n x.mn) = prL sg x f R C ws n := by
  unfold prL
  congr 1
  omega
set_option maxRecDepth 20000 in
set_option maxHeartbeats 4000000 in
theorem copyI_any {w : World} {ao : Option Addr} {n cap : Nat} {f : Nat → Int} (hn : n * 8 ≤ 140737488355328) (h : RdA w ao 1 n cap (fun i => .int .i64 (f i))) :
    Calls Try.prog 19 #[.slice ao n cap] w fun e w' => ∃ u c, e = .returned (.slice u n c) ∧ Own w' w.heap.size 3 1 (.slice u n c) n (fun i => .int .i64 (f i)) ∧ Below w.heap.size w w' := by
  have HH := hidd h
  have hnc := h.le
  have hnt := h.top
  unfold maxLen at hnt
  clear h
  go_enter Try.func19, Try.ntmps19
  go_wp2
  go_loopw [3, 4] (fun v i wr => ∃ k : Nat, k ≤ n ∧ i = .int .i64 (k : Int) ∧ Own wr w.heap.size 3 1 v k (fun i => .int .i64 (f i)) ∧ Hid (Below w.heap.size w wr)) (fun _ i _ => n - (intOf i).toNat)
  case atStart => exact ⟨0, Nat.zero_le _, by simp, own_nil _ _ _ _ _, Below.refl _ _⟩
  case round =>
    obtain ⟨k, hk, rfl, hown, HF⟩ := hrel
    obtain ⟨p, uc, rfl, _⟩ := hown.rd
    have hsz := HF.out.size
    by_cases hlt : k < n
    · have i0 : (0 : Int) ≤ (k : Int) := by omega
      have i1 : (k : Int) < (n : Int) := by omega
      obtain ⟨b, off, rfl, hcell⟩ := (HH.out.fresh HF.out).one (by omega)
      have ck : wr.cell? ⟨b, off + k, none⟩ = some (.int .i64 (f k)) := hcell k hlt
      have HN : Hid (∀ (w0 : World) (t : TypeId), (w0.alloc (.cells #[.int .i64 (f k)] t)).cell? ⟨w0.heap.size, 0, none⟩ = some (.int .i64 (f k))) := fun w0 t => new_cell _ _ _
      have HO := hidd (hown.kept (fresh_alloc wr (.cells #[.int .i64 (f k)] 3)))
      have HFA := hidd (HF.out.alloc hsz (.cells #[.int .i64 (f k)] 3))
      clear hcell hown
      go_wp2_with (at_builtin; refine wpList_app1 _ rfl _ _ 37 rfl w.heap.size 3 (.int .i64 0) 8 Try.underlying37 infoIn rfl _ k (fun i => .int .i64 (f i)) rfl HO.out wr.heap.size 1 rfl (HN.out _ _) rfl (by omega) (by omega) HFA.out.size ?_)
      rintro v' w2 hown' happ
      have HB := hidd (happ.below HFA.out HO.out (Nat.le_refl _) HFA.out.size)
      clear happ HO HFA HN
      go_wp2
      go_roundw
      case rel => exact ⟨k + 1, by omega, by go_num, hown', HB⟩
      case measure => simp [intOf]; omega
    · obtain rfl : k = n := by omega
      have hnl : ¬ ((k : Int) < (k : Int)) := by omega
      go_wp2
      go_ret
      exact ⟨p, uc, rfl, hown, HF.out⟩
end Go.Proofs.Ytjjnfpeeipainaa
namespace Go.Proofs.Ytjjnfpeeipainaa
open Go.RowKit
/-! What a tree that grows looks like: parents, depths, kids. -/
def parF (L : List (Int × Int)) (i : Nat) : Int := (L.getD i (0, 0)).1
def tokF (L : List (Int × Int)) (i : Nat) : Int := (L.getD i (0, 0)).2
/-- how many of the first i have the parent p -/
def cntF (P : Nat → Int) : Nat → Int → Nat
  | 0, _ => 0
  | i + 1, p => cntF P i p + (if P i = p then 1 else 0)
theorem cntF_congr {P Q : Nat → Int} : ∀ {n : Nat}, (∀ i, i < n → P i = Q i) → ∀ p, cntF P n p = cntF Q n p
  | 0, _, _ => rfl
  | n + 1, h, p => by
    show cntF P n p + _ = cntF Q n p + _
    rw [cntF_congr (fun i hi => h i (by omega)) p, h n (by omega)]
theorem cntF_none {P : Nat → Int} {p : Int} : ∀ {n : Nat}, (∀ i, i < n → P i < p) → cntF P n p = 0
  | 0, _ => rfl
  | n + 1, h => by
    show cntF P n p + _ = 0
    rw [cntF_none (fun i hi => h i (by omega)), if_neg (by have := h n (by omega); omega)]
theorem cntF_le (P : Nat → Int) (p : Int) : ∀ n, cntF P n p ≤ n
  | 0 => Nat.le_refl _
  | n + 1 => by
    have := cntF_le P p n
    show cntF P n p + _ ≤ _
    split <;> omega
theorem parF_app (L M : List (Int × Int)) {i : Nat} (h : i < L.length) : parF (L ++ M) i = parF L i := by
  unfold parF
  rw [List.getD_eq_getElem?_getD, List.getD_eq_getElem?_getD, List.getElem?_append_left h]
theorem tokF_app (L M : List (Int × Int)) {i : Nat} (h : i < L.length) : tokF (L ++ M) i = tokF L i := by
  unfold tokF
  rw [List.getD_eq_getElem?_getD, List.getD_eq_getElem?_getD, List.getElem?_append_left h]
theorem parF_last (L : List (Int × Int)) (x : Int × Int) : parF (L ++ [x]) L.length = x.1 := by
  unfold parF
  rw [List.getD_eq_getElem?_getD, List.getElem?_append_right (Nat.le_refl _)]
  simp
theorem tokF_last (L : List (Int × Int)) (x : Int × Int) : tokF (L ++ [x]) L.length = x.2 := by
  unfold tokF
  rw [List.getD_eq_getElem?_getD, List.getElem?_append_right (Nat.le_refl _)]
  simp
/-- one node, as it should be -/
structure Nd1 (P T : Nat → Int) (X : Nat → List Int) (e : Nat) (D : Nat → Nat) (i : Nat) : Prop where
  lo : -1 ≤ P i
  hi : P i < (i : Int)
  dm : D i < e
  kd : cntF P i (P i) < (X (D i)).length
  tk : T i = (X (D i)).getD (cntF P i (P i)) 0
  up : (P i = -1 ∧ D i = 0) ∨ (0 ≤ P i ∧ D i = D (P i).toNat + 1)
  mn : 0 < i → D (i - 1) ≤ D i ∧ P (i - 1) ≤ P i
theorem Nd1.congr {P T P' T' : Nat → Int} {X : Nat → List Int} {e e' : Nat} {D D' : Nat → Nat} {i : Nat} (h : Nd1 P T X e D i) (he : e ≤ e') (hp : ∀ j, j ≤ i → P j = P' j) (ht : T i = T' i) (hd : ∀ j, j ≤ i → D j = D' j) : Nd1 P' T' X e' D' i := by
  have hc : cntF P' i (P i) = cntF P i (P i) := (cntF_congr (fun j hj => hp j (by omega)) _).symm
  obtain ⟨h1, h2, h3, h4, h5, h6, h7⟩ := h
  have e1 := hp i (Nat.le_refl _)
  have e2 := hd i (Nat.le_refl _)
  refine ⟨by rw [← e1]; exact h1, by rw [← e1]; exact h2, by rw [← e2]; omega, by rw [← e1, ← e2, hc]; exact h4, by rw [← e1, ← e2, hc, ← ht]; exact h5, ?_, fun h0 => ?_⟩
  · rw [← e1, ← e2]
    rcases h6 with h6 | ⟨h6, h8⟩
    · exact .inl h6
    · exact .inr ⟨h6, by rw [h8, hd _ (by omega)]⟩
  · rw [← e1, ← e2, ← hp (i - 1) (by omega), ← hd (i - 1) (by omega)]
    exact h7 h0
def Shp (L : List (Int × Int)) (X : Nat → List Int) (e : Nat) (D : Nat → Nat) : Prop := ∀ i, i < L.length → Nd1 (parF L) (tokF L) X e D i
theorem Shp.take {L : List (Int × Int)} {X : Nat → List Int} {e : Nat} {D : Nat → Nat} (h : Shp L X e D) (k : Nat) : Shp (L.take k) X e D := by
  intro i hi
  rw [List.length_take] at hi
  have hl : ∀ j, j ≤ i → (L.take k).getD j (0, 0) = L.getD j (0, 0) := fun j hj => by
    rw [List.getD_eq_getElem?_getD, List.getD_eq_getElem?_getD, List.getElem?_take, if_pos (by omega)]
  exact (h i (by omega)).congr (Nat.le_refl _) (fun j hj => by unfold parF; rw [hl j hj]) (by unfold tokF; rw [hl i (Nat.le_refl _)]) (fun _ _ => rfl)
/-- within depth e: a of its list are from above, the parents begin at the place F - 1, q of them are done, r kids of the next -/
structure Gw (X : Nat → List Int) (B : List (Int × Int)) (D : Nat → Nat) (e F a q r : Nat) : Prop where
  shp : Shp B X (e + 1) D
  top : ∀ i, i < B.length → parF B i ≤ (F : Int) + (q : Int) - 1
  cnt : cntF (parF B) B.length ((F : Int) + (q : Int) - 1) = r
  al : a ≤ B.length
  dep : ∀ i, i < B.length → D i ≤ e
  lev : ∀ i, a ≤ i → i < B.length → D i = e
  par : (e = 0 ∧ F = 0 ∧ a = 0) ∨ (0 < e ∧ 0 < F ∧ ∀ i, F ≤ i + 1 → i < a → D i + 1 = e)
theorem Gw.one {X : Nat → List Int} {B : List (Int × Int)} {D : Nat → Nat} {e F a q r : Nat} (h : Gw X B D e F a q r) (hq : q < a + 1 - F) (hr : r < (X e).length) :
    ∃ D', Gw X (B ++ [((F : Int) + (q : Int) - 1, (X e).getD r 0)]) D' e F a q (r + 1) := by
  have hp : ∀ i, i < B.length → parF (B ++ [((F : Int) + (q : Int) - 1, (X e).getD r 0)]) i = parF B i := fun i hi => parF_app _ _ hi
  have ht : ∀ i, i < B.length → tokF (B ++ [((F : Int) + (q : Int) - 1, (X e).getD r 0)]) i = tokF B i := fun i hi => tokF_app _ _ hi
  have hpl := parF_last B ((F : Int) + (q : Int) - 1, (X e).getD r 0)
  have htl := tokF_last B ((F : Int) + (q : Int) - 1, (X e).getD r 0)
  have hal := h.al
  have hlen : (B ++ [((F : Int) + (q : Int) - 1, (X e).getD r 0)]).length = B.length + 1 := by simp
  have hc : cntF (parF (B ++ [((F : Int) + (q : Int) - 1, (X e).getD r 0)])) B.length ((F : Int) + (q : Int) - 1) = r := by rw [cntF_congr hp, h.cnt]
  refine ⟨updX D B.length e, ⟨?_, ?_, ?_, by rw [hlen]; omega, ?_, ?_, ?_⟩⟩
  · intro i hi
    rw [hlen] at hi
    by_cases hb : i < B.length
    · exact (h.shp i hb).congr (Nat.le_refl _) (fun j hj => (hp j (by omega)).symm) (ht i hb).symm (fun j hj => (updX_ne _ _ _ (by omega)).symm)
    · obtain rfl : i = B.length := by omega
      refine ⟨by rw [hpl]; show (-1 : Int) ≤ (F : Int) + (q : Int) - 1; omega, by rw [hpl]; show (F : Int) + (q : Int) - 1 < _; omega, by rw [updX_at]; omega, by rw [hpl, hc, updX_at]; exact hr, by rw [hpl, htl, hc, updX_at], ?_, fun h0 => ?_⟩
      · rw [hpl, updX_at]
        show ((F : Int) + (q : Int) - 1 = -1 ∧ _) ∨ (0 ≤ (F : Int) + (q : Int) - 1 ∧ _)
        rcases h.par with ⟨h1, h2, h3⟩ | ⟨h1, h2, h3⟩
        · exact .inl ⟨by omega, h1⟩
        · refine .inr ⟨by omega, ?_⟩
          rw [updX_ne _ _ _ (by omega), h3 _ (by omega) (by omega)]
      · rw [updX_at, updX_ne _ _ _ (by omega), hpl, hp _ (by omega)]
        exact ⟨h.dep _ (by omega), h.top _ (by omega)⟩
  · intro i hi
    rw [hlen] at hi
    by_cases hb : i < B.length
    · rw [hp i hb]; exact h.top i hb
    · obtain rfl : i = B.length := by omega
      rw [hpl]
      exact Int.le_refl _
  · rw [hlen]
    show cntF _ B.length _ + _ = _
    rw [hc, hpl, if_pos rfl]
  · intro i hi
    rw [hlen] at hi
    by_cases hb : i < B.length
    · rw [updX_ne _ _ _ (by omega)]; exact h.dep i hb
    · obtain rfl : i = B.length := by omega
      rw [updX_at]
      exact Nat.le_refl _
  · intro i h1 hi
    rw [hlen] at hi
    by_cases hb : i < B.length
    · rw [updX_ne _ _ _ (by omega)]; exact h.lev i h1 hb
    · obtain rfl : i = B.length := by omega
      rw [updX_at]
  · rcases h.par with h1 | ⟨h1, h2, h3⟩
    · exact .inl h1
    · exact .inr ⟨h1, h2, fun i hi hi2 => by rw [updX_ne _ _ _ (by omega)]; exact h3 i hi hi2⟩
theorem Gw.kids {X : Nat → List Int} {B : List (Int × Int)} {D : Nat → Nat} {e F a q : Nat} (h : Gw X B D e F a q 0) (hq : q < a + 1 - F) : ∀ r, r ≤ (X e).length → ∃ D', Gw X (B ++ ((X e).take r).map (fun t => ((F : Int) + (q : Int) - 1, t))) D' e F a q r
  | 0, _ => ⟨D, by simpa using h⟩
  | r + 1, hr => by
    obtain ⟨D1, h1⟩ := h.kids hq r (by omega)
    obtain ⟨D2, h2⟩ := h1.one hq (by omega)
    refine ⟨D2, ?_⟩
    rw [take_tok (X e) _ (by omega), ← List.append_assoc]
    exact h2
theorem Gw.next {X : Nat → List Int} {B : List (Int × Int)} {D : Nat → Nat} {e F a q r : Nat} (h : Gw X B D e F a q r) : Gw X B D e F a (q + 1) 0 :=
  ⟨h.shp, fun i hi => by have := h.top i hi; omega, cntF_none (fun i hi => by have := h.top i hi; omega), h.al, h.dep, h.lev, h.par⟩
theorem Gw.all {X : Nat → List Int} {B : List (Int × Int)} {D : Nat → Nat} {e F a : Nat} (h : Gw X B D e F a 0 0) : ∀ q, q ≤ a + 1 - F → ∃ D', Gw X (B ++ kds F q (X e)) D' e F a q 0
  | 0, _ => ⟨D, by simpa [kds_zero] using h⟩
  | q + 1, hq => by
    obtain ⟨D1, h1⟩ := h.all q (by omega)
    obtain ⟨D2, h2⟩ := h1.kids (by omega) (X e).length (Nat.le_refl _)
    rw [List.take_length] at h2
    refine ⟨D2, ?_⟩
    rw [kds_succ, ← List.append_assoc, show (((F + q : Nat) : Int) - 1) = (F : Int) + (q : Int) - 1 by omega]
    exact h2.next
/-- the state behind e depths: where the parents begin, and the list -/
def SF (X : Nat → List Int) : Nat → Nat × List (Int × Int)
  | 0 => (0, [])
  | e + 1 => ((SF X e).2.length + 1, nxt (SF X e).1 ((SF X e).2.length + 1) (X e) (SF X e).2)
theorem gr_SF (X : Nat → List Int) : ∀ (e : Nat) (us : List (List Int)), gr ((List.range e).map X ++ us) 0 1 [] = gr us (SF X e).1 ((SF X e).2.length + 1) (SF X e).2
  | 0, us => rfl
  | e + 1, us => by
    rw [List.range_succ, List.map_append, List.append_assoc]
    show gr ((List.range e).map X ++ (X e :: us)) 0 1 [] = _
    rw [gr_SF X e (X e :: us)]
    rfl
theorem grL_SF (X : Nat → List Int) (e : Nat) : grL X e = (SF X e).2 := by
  have := gr_SF X e []
  rw [List.append_nil] at this
  exact this
theorem SF_len (X : Nat → List Int) (e : Nat) : (SF X e).2.length ≤ 96 := by rw [← grL_SF]; exact grL_len X e
theorem SF_F (X : Nat → List Int) : ∀ e, (SF X e).1 ≤ (SF X e).2.length + 1
  | 0 => by show 0 ≤ _; omega
  | e + 1 => by
    show (SF X e).2.length + 1 ≤ (nxt _ _ _ _).length + 1
    have := (nxt_pre (SF X e).1 ((SF X e).2.length + 1) (X e) (SF_len X e)).length_le
    omega
/-- a tree that grows is as it should be -/
theorem shp_SF (X : Nat → List Int) : ∀ e, (∃ D, Shp (SF X e).2 X e D ∧ Gw X (SF X e).2 D e (SF X e).1 (SF X e).2.length 0 0) ∨ ((SF X e).2.length = 96 ∧ ∃ D, Shp (SF X e).2 X e D)
  | 0 => .inl ⟨fun _ => 0, fun i hi => absurd hi (by show ¬ i < 0; omega), ⟨fun i hi => absurd hi (by show ¬ i < 0; omega), fun i hi => absurd hi (by show ¬ i < 0; omega), rfl, Nat.le_refl _, fun i hi => absurd hi (by show ¬ i < 0; omega), fun i _ hi => absurd hi (by show ¬ i < 0; omega), .inl ⟨rfl, rfl, rfl⟩⟩⟩
  | e + 1 => by
    have hF := SF_F X e
    have hL := SF_len X e
    rcases shp_SF X e with ⟨D, _, hg⟩ | ⟨hl, D, hs⟩
    · obtain ⟨D2, h2⟩ := hg.all ((SF X e).2.length + 1 - (SF X e).1) (Nat.le_refl _)
      by_cases hfit : ((SF X e).2 ++ kds (SF X e).1 ((SF X e).2.length + 1 - (SF X e).1) (X e)).length ≤ 96
      · have hn : (SF X (e + 1)).2 = (SF X e).2 ++ kds (SF X e).1 ((SF X e).2.length + 1 - (SF X e).1) (X e) := List.take_of_length_le hfit
        refine .inl ⟨D2, by rw [hn]; exact h2.shp, ?_⟩
        rw [hn]
        show Gw X _ D2 (e + 1) ((SF X e).2.length + 1) _ 0 0
        have hq : ((SF X e).1 : Int) + (((SF X e).2.length + 1 - (SF X e).1 : Nat) : Int) - 1 = (((SF X e).2.length + 1 : Nat) : Int) + ((0 : Nat) : Int) - 1 := by omega
        refine ⟨fun i hi => (h2.shp i hi).congr (by omega) (fun _ _ => rfl) rfl (fun _ _ => rfl), fun i hi => by rw [← hq]; exact h2.top i hi, by rw [← hq]; exact h2.cnt, Nat.le_refl _, fun i hi => Nat.le_succ_of_le (h2.dep i hi), fun i h1 hi => absurd hi (by omega), .inr ⟨by omega, by omega, fun i h1 hi => ?_⟩⟩
        rw [h2.lev i (by omega) hi]
      · refine .inr ⟨?_, D2, ?_⟩
        · show (List.take 96 _).length = 96
          rw [List.length_take]
          omega
        · exact h2.shp.take 96
    · have hn : (SF X (e + 1)).2 = (SF X e).2 := by
        show List.take 96 _ = _
        rw [List.take_append_of_le_length (by omega), List.take_of_length_le (by omega)]
      refine .inr ⟨by rw [hn]; exact hl, D, ?_⟩
      rw [hn]
      exact fun i hi => (hs i hi).congr (by omega) (fun _ _ => rfl) rfl (fun _ _ => rfl)
theorem shp_grL (X : Nat → List Int) (e : Nat) : ∃ D, Shp (grL X e) X e D := by
  rw [grL_SF]
  rcases shp_SF X e with ⟨D, h, _⟩ | ⟨_, D, h⟩
  · exact ⟨D, h⟩
  · exact ⟨D, h⟩
/-- as many nodes as the tokens make -/
def lvN (X : Nat → List Int) : Nat → Nat
  | 0 => 1
  | e + 1 => if 96 < lvN X e * (X e).length then 97 else lvN X e * (X e).length
def alN (X : Nat → List Int) : Nat → Nat
  | 0 => 0
  | e + 1 => alN X e + lvN X (e + 1)
theorem lvN_le (X : Nat → List Int) : ∀ e, lvN X e ≤ 97
  | 0 => by show 1 ≤ 97; omega
  | e + 1 => by
    show (if 96 < lvN X e * (X e).length then 97 else lvN X e * (X e).length) ≤ 97
    generalize lvN X e * (X e).length = z
    split <;> omega
theorem alN_le (X : Nat → List Int) : ∀ e, alN X e ≤ 97 * e
  | 0 => Nat.le_refl _
  | e + 1 => by
    have := alN_le X e
    have := lvN_le X (e + 1)
    show alN X e + lvN X (e + 1) ≤ _
    omega
theorem kds_len (F n : Nat) (T : List Int) : (kds F n T).length = n * T.length := by
  induction n with
  | zero => simp [kds_zero]
  | succ n ih => rw [kds_succ, List.length_append, ih, List.length_map, Nat.add_mul, Nat.one_mul]
theorem cnt_SF (X : Nat → List Int) : ∀ e, ((SF X e).2.length = alN X e ∧ lvN X e = (SF X e).2.length + 1 - (SF X e).1) ∨ ((SF X e).2.length = 96 ∧ 96 ≤ alN X e)
  | 0 => .inl ⟨rfl, rfl⟩
  | e + 1 => by
    have hF := SF_F X e
    have hL := SF_len X e
    have hlen : (SF X (e + 1)).2.length = min 96 ((SF X e).2.length + ((SF X e).2.length + 1 - (SF X e).1) * (X e).length) := by
      show (List.take 96 _).length = _
      rw [List.length_take, List.length_append, kds_len]
    have ha : alN X (e + 1) = alN X e + lvN X (e + 1) := rfl
    have hl : lvN X (e + 1) = if 96 < lvN X e * (X e).length then 97 else lvN X e * (X e).length := rfl
    have hf : (SF X (e + 1)).1 = (SF X e).2.length + 1 := rfl
    rcases cnt_SF X e with ⟨h1, h2⟩ | ⟨h1, h2⟩
    · rw [← h2] at hlen
      generalize lvN X e * (X e).length = z at hlen hl
      by_cases h3 : 96 < z
      · rw [if_pos h3] at hl
        exact .inr ⟨by omega, by omega⟩
      · rw [if_neg h3] at hl
        by_cases h4 : (SF X e).2.length + z ≤ 96
        · exact .inl ⟨by omega, by omega⟩
        · exact .inr ⟨by omega, by omega⟩
    · generalize ((SF X e).2.length + 1 - (SF X e).1) * (X e).length = z at hlen
      exact .inr ⟨by omega, by omega⟩
theorem grL_count (X : Nat → List Int) (e : Nat) : (grL X e).length = min (alN X e) 96 := by
  have hL := SF_len X e
  rw [grL_SF]
  rcases cnt_SF X e with ⟨h1, _⟩ | ⟨h1, h2⟩
  · omega
  · omega
end Go.Proofs.Ytjjnfpeeipainaa
namespace Go.Proofs.Ytjjnfpeeipainaa
open Go.RowKit
/-! shaped. -/
theorem raw_cells {w : World} {ao : Option Addr} {n cap : Nat} {L : List (Int × Int)} (h : RdA w ao 2 n cap (rwF L)) (hn : 0 < n) : ∃ b o, ao = some ⟨b, o, none⟩ ∧ ∀ i, i < n → w.cell? ⟨b, o + i * 2, none⟩ = some (.int .i64 (parF L i)) ∧ w.cell? ⟨b, o + i * 2 + 1, none⟩ = some (.int .i64 (tokF L i)) := by
  obtain ⟨b, o, e, hc⟩ := h.at_ hn
  refine ⟨b, o, e, fun i hi => ?_⟩
  have c0 := hc (i * 2) (by omega)
  have c1 := hc (i * 2 + 1) (by omega)
  rw [rwF_1] at c0
  rw [rwF_2, ← Nat.add_assoc] at c1
  exact ⟨c0, c1⟩
/-- the two lists that shaped fills -/
structure ShR (w wr : World) (v5 v6 : Value) (i : Nat) (D K : Nat → Nat) : Prop where
  d : Own wr w.heap.size 3 1 v5 i (fun j => .int .i64 ((D j + 1 : Nat) : Int))
  k : Own wr w.heap.size 3 1 v6 i (fun j => .int .i64 ((K j : Nat) : Int))
  off : Off v5 v6
  low : Below w.heap.size w wr
set_option maxRecDepth 20000 in
set_option maxHeartbeats 16000000 in
theorem shaped_any {w : World} {lo bo : Option Addr} {n lc m bc : Nat} {L : List (Int × Int)} {X : Nat → List Int} {A : Nat → Option Addr} {C : Nat → Nat} {D : Nat → Nat} (hnl : n = L.length) (hl : RdA w lo 2 n lc (rwF L)) (hb : Tk w bo m bc X A C) (hs : Shp L X m D) (hn : n ≤ 96) :
    Calls Try.prog 16 #[.slice lo n lc, .slice bo m bc] w fun e w' => e = .returned (.bool true) ∧ Below w.heap.size w w' := by
  have HL := hidd hl
  have HB := hidd hb
  have HS : Hid (∀ i, i < n → Nd1 (parF L) (tokF L) X m D i) := fun i hi => hs i (by omega)
  have hll := hl.le
  have hlt9 := hl.top
  have hbl := hb.out.le
  have hbt := hb.out.top
  unfold maxLen at hlt9 hbt
  clear hl hb hs hnl
  go_enter Try.func16, Try.ntmps16
  go_wp2
  go_loopw [5, 6, 7] (fun v5 v6 vi wr => ∃ i : Nat, i ≤ n ∧ vi = .int .i64 (i : Int) ∧ Hid (ShR w wr v5 v6 i D (fun j => cntF (parF L) j (parF L j)))) (fun _ _ vi _ => n - (intOf vi).toNat)
  case atStart => exact ⟨0, Nat.zero_le _, by simp, own_nil _ _ _ _ _, own_nil _ _ _ _ _, off_nil _, Below.refl _ _⟩
  case round =>
    obtain ⟨i, hi, rfl, HR⟩ := hrel
    rename World => wA
    obtain ⟨du, dc, ed, _⟩ := HR.out.d.rd
    obtain ⟨ku, kc, ek, _⟩ := HR.out.k.rd
    subst ed ek
    by_cases hin : i < n
    · have HN := hidd (HS.out i hin)
      obtain ⟨lb, lf, el, h1⟩ := raw_cells (HL.out.fresh HR.out.low) (by omega)
      have HC := hidd h1
      have EL := hidd el
      obtain ⟨c1, c2⟩ := h1 i hin
      have i0 : (0 : Int) ≤ (i : Int) := by omega
      have i1 : (i : Int) < (n : Int) := by omega
      obtain ⟨p, HP⟩ : ∃ p, Hid (p = parF L i) := ⟨_, rfl⟩
      have hplo : -1 ≤ p := by rw [HP.out]; exact HN.out.lo
      have hphi : p < (i : Int) := by rw [HP.out]; exact HN.out.hi
      rw [← HP.out] at c1
      have d1 : decide (p < -1) = false := decide_eq_false (by omega)
      have d2 : decide ((i : Int) ≤ p) = false := decide_eq_false (by omega)
      rw [el]
      clear h1 el
      go_wp2
      go_loopw [10, 11] (fun vk vj wx => ∃ j kj : Nat, j ≤ i ∧ kj ≤ j ∧ vj = .int .i64 (j : Int) ∧ vk = .int .i64 (kj : Int) ∧ Hid (kj = cntF (parF L) j p) ∧ Hid (wx = wA)) (fun _ vj _ => i - (intOf vj).toNat)
      case atStart => exact ⟨0, 0, Nat.zero_le _, Nat.le_refl _, by simp, by simp, rfl, rfl⟩
      case round =>
        obtain ⟨j, kj, hj, hkj, rfl, rfl, HK, HE⟩ := hrel
        rw [HE.out]
        clear HE
        by_cases hji : j < i
        · obtain ⟨c3, _⟩ := HC.out j (by omega)
          have j0 : (0 : Int) ≤ (j : Int) := by omega
          have j1 : (j : Int) < (i : Int) := by omega
          have j2 : (j : Int) < (n : Int) := by omega
          have HKS : Hid (cntF (parF L) (j + 1) p = kj + (if parF L j = p then 1 else 0)) := by show cntF _ j p + _ = _; rw [← HK.out]
          generalize parF L j = pj at c3 HKS
          by_cases hpe : pj = p
          · subst hpe
            have HK1 : Hid (kj + 1 = cntF (parF L) (j + 1) pj) := by rw [HKS.out, if_pos rfl]; exact rfl
            clear HKS HK
            go_wp2
            go_roundw
            case rel => exact ⟨j + 1, kj + 1, by omega, by omega, by go_num, by go_num, HK1, (by first | rfl | trivial)⟩
            case measure => simp [intOf]; omega
          · have x3 : decide (pj = p) = false := decide_eq_false hpe
            have HK1 : Hid (kj = cntF (parF L) (j + 1) p) := by rw [HKS.out, if_neg hpe]; exact rfl
            clear HKS HK
            go_wp2
            go_roundw
            case rel => exact ⟨j + 1, kj, by omega, by omega, by go_num, rfl, HK1, (by first | rfl | trivial)⟩
            case measure => simp [intOf]; omega
        · obtain rfl : j = i := by omega
          have hnl : ¬ ((j : Int) < (j : Int)) := by omega
          obtain ⟨dd, HDD⟩ : ∃ dd, Hid (dd = D j) := ⟨_, rfl⟩
          obtain ⟨dN, HDN⟩ : ∃ dN, Hid (dN = dd + 1) := ⟨_, rfl⟩
          have hddm : dd < m := by rw [HDD.out]; exact HN.out.dm
          have hdn1 : dN ≤ m := by have := HDN.out; omega
          have hdn2 : 1 ≤ dN := by have := HDN.out; omega
          have HDR := hidd (md_rda HR.out.d)
          have hdl := HDR.out.le
          have hdt := HDR.out.top
          unfold maxLen at hdt
          go_upto_if 45 with fail
          go_cut [9, 46, 47, 48, 49, 50] (fun v9 _ _ _ _ _ wx => wx = wA ∧ v9 = .int .i64 (dN : Int))
          case first =>
            by_cases hp0 : 0 ≤ p
            · obtain ⟨pn, hpn⟩ : ∃ pn : Nat, p = (pn : Int) := ⟨p.toNat, by omega⟩
              have HUP : Hid (D pn + 1 = dd) := by
                show _ = _
                rcases HN.out.up with ⟨h9, _⟩ | ⟨_, h9⟩
                · rw [← HP.out] at h9; omega
                · rw [← HP.out, hpn, Int.toNat_natCast, ← HDD.out] at h9; exact h9.symm
              obtain ⟨db, df, edb, h4⟩ := HDR.out.one (by omega)
              have c4 := h4 pn (by omega)
              rw [HUP.out] at c4
              rw [hpn, edb]
              have g1 : decide ((0 : Int) ≤ (pn : Int)) = true := decide_eq_true (by omega)
              have g2 : (0 : Int) ≤ (pn : Int) := by omega
              have g3 : (pn : Int) < (j : Int) := by omega
              have HDE := hidd edb
              have HPN := hidd hpn
              clear h4 hpn edb
              go_wp2_with fail
              rw [← HPN.out, ← HDE.out]
              go_meet
              case rel => exact ⟨rfl, by rw [HDN.out]; congr 1⟩
            · have g1 : decide ((0 : Int) ≤ p) = false := decide_eq_false hp0
              have HUP : Hid (dd = 0) := by
                show _ = _
                rcases HN.out.up with ⟨_, h9⟩ | ⟨h9, _⟩
                · rw [HDD.out]; exact h9
                · rw [← HP.out] at h9; omega
              go_wp2_with fail
              go_meet
              case rel => exact ⟨rfl, by rw [HDN.out, HUP.out]; rfl⟩
          case rest =>
            obtain ⟨hw, hsv⟩ := hcut
            subst hsv
            rw [hw]
            clear hw hnl
            have hkx : kj < (X dd).length := by rw [HK.out, HDD.out, HP.out]; exact HN.out.kd
            have HTK : Hid (tokF L j = (X dd).getD kj 0) := by rw [HK.out, HDD.out, HP.out]; exact HN.out.tk
            obtain ⟨bb, bf, eb, h5⟩ := (HB.out.out.fresh HR.out.low).one (by omega)
            have c5 : wA.cell? ⟨bb, bf + dd, none⟩ = some (.slice (A dd) (X dd).length (C dd)) := h5 dd hddm
            have hir := (HB.out.inn dd hddm).fresh HR.out.low
            have hxl := hir.le
            have hxt := hir.top
            unfold maxLen at hxt
            obtain ⟨tb, tf, et, h6⟩ := hir.one (by omega)
            have c6 : wA.cell? ⟨tb, tf + kj, none⟩ = some (.int .i64 (tokF L j)) := by rw [HTK.out]; exact h6 kj hkx
            rw [et] at c5
            generalize tokF L j = tt at c2 c6
            obtain ⟨xl, HXL⟩ : ∃ xl, Hid (xl = (X dd).length) := ⟨_, rfl⟩
            rw [← HXL.out] at c5 hkx hxl
            rw [eb]
            have EB := hidd eb
            have g3 : decide ((m : Int) < (dN : Int)) = false := decide_eq_false (by omega)
            have g3' : decide (m < dN) = false := decide_eq_false (by omega)
            have g4' : decide (xl ≤ kj) = false := decide_eq_false (by omega)
            have g4 : decide ((xl : Int) ≤ (kj : Int)) = false := decide_eq_false (by omega)
            have g5 : IntKind.i64.wrap ((dN : Int) - 1) = (dd : Int) := by rw [IntKind.wrap_i64]; have := HDN.out; omega
            have g6 : (0 : Int) ≤ (dd : Int) := by omega
            have g7 : (dd : Int) < (m : Int) := by omega
            have g8 : (0 : Int) ≤ (kj : Int) := by omega
            have g9 : (kj : Int) < (xl : Int) := by omega
            have HN1 : Hid (∀ (w0 : World) (t : TypeId), (w0.alloc (.cells #[.int .i64 (dN : Int)] t)).cell? ⟨w0.heap.size, 0, none⟩ = some (.int .i64 ((D j + 1 : Nat) : Int))) := fun w0 t => by rw [new_cell, HDN.out, HDD.out]
            have HN2 : Hid (∀ (w0 : World) (t : TypeId), (w0.alloc (.cells #[.int .i64 (kj : Int)] t)).cell? ⟨w0.heap.size, 0, none⟩ = some (.int .i64 ((cntF (parF L) j (parF L j) : Nat) : Int))) := fun w0 t => by rw [new_cell, HK.out, HP.out]
            clear h5 h6 hir et eb HTK
            by_cases hj0 : j = 0
            · have g0 : decide ((0 : Int) < (j : Int)) = false := decide_eq_false (by omega)
              have g0' : decide (0 < j) = false := decide_eq_false (by omega)
              clear hj0
              go_upto_region 17 with fail
              go_big_quiet (fail)
              rw [← EB.out]
              obtain ⟨wB, hwB⟩ : ∃ wB, wB = wA.drewN nq := ⟨_, rfl⟩
              have HR2 : Hid (ShR w wB (.slice du j dc) (.slice ku j kc) j D (fun j => cntF (parF L) j (parF L j))) := by rw [hwB]; exact ⟨HR.out.d.kept (fresh_drewN _ _), HR.out.k.kept (fresh_drewN _ _), HR.out.off, fresh_trans HR.out.low (fresh_drewN _ _)⟩
              rw [← hwB]
              have hsz := HR2.out.low.size
              clear hwB HR HN HC HDR c1 c2 c5 c6 HK
              have HO1 := hidd (HR2.out.d.kept (fresh_alloc wB (.cells #[.int .i64 (dN : Int)] 3)))
              have HF1 := hidd (HR2.out.low.alloc hsz (.cells #[.int .i64 (dN : Int)] 3))
              have HK1 := hidd (HR2.out.k.kept (fresh_alloc wB (.cells #[.int .i64 (dN : Int)] 3)))
              go_wp2_with (at_builtin; refine wpList_app1 _ rfl _ _ 37 rfl w.heap.size 3 (.int .i64 0) 8 Try.underlying37 infoIn rfl _ j (fun j => .int .i64 ((D j + 1 : Nat) : Int)) rfl HO1.out wB.heap.size 1 rfl (HN1.out _ _) rfl (by omega) (by omega) HF1.out.size ?_)
              intro v5' w1 hown1 happ1
              have HD1 := hidd hown1
              have HKW := hidd (happ1.own HK1.out HR2.out.off)
              have HOF := hidd (happ1.off HK1.out HR2.out.off)
              have HF2 := hidd (happ1.below HF1.out HO1.out (Nat.le_refl _) HF1.out.size)
              obtain ⟨u9, c9, e9, _⟩ := hown1.rd
              subst e9
              clear hown1 happ1 HO1 HF1 HK1 HR2 hsz HN1
              have hsz1 := HF2.out.size
              have HO2 := hidd (HKW.out.kept (fresh_alloc w1 (.cells #[.int .i64 (kj : Int)] 3)))
              have HF3 := hidd (HF2.out.alloc hsz1 (.cells #[.int .i64 (kj : Int)] 3))
              have HD2 := hidd (HD1.out.kept (fresh_alloc w1 (.cells #[.int .i64 (kj : Int)] 3)))
              go_wp2_with (at_builtin; refine wpList_app1 _ rfl _ _ 37 rfl w.heap.size 3 (.int .i64 0) 8 Try.underlying37 infoIn rfl _ j (fun j => .int .i64 ((cntF (parF L) j (parF L j) : Nat) : Int)) rfl HO2.out w1.heap.size 1 rfl (HN2.out _ _) rfl (by omega) (by omega) HF3.out.size ?_)
              intro v6' w2 hown2 happ2
              have HEND : Hid (ShR w w2 (.slice u9 (j + 1) c9) v6' (j + 1) D (fun j => cntF (parF L) j (parF L j))) := ⟨happ2.own HD2.out HOF.out.symm, hown2, (happ2.off HD2.out HOF.out.symm).symm, happ2.below HF3.out HO2.out (Nat.le_refl _) HF3.out.size⟩
              clear hown2 happ2 HO2 HF3 HD2 HD1 HKW HOF HF2 HN2
              go_wp2
              go_roundw
              case rel => exact ⟨j + 1, by omega, by go_num, HEND⟩
              case measure => simp [intOf]; omega
            · obtain ⟨j', HJ⟩ : ∃ j', Hid (j = j' + 1) := ⟨j - 1, by show j = _; omega⟩
              have hjj : j' < j := by have := HJ.out; omega
              have g0 : decide ((0 : Int) < (j : Int)) = true := decide_eq_true (by omega)
              have g0' : decide (0 < j) = true := decide_eq_true (by omega)
              have g1 : IntKind.i64.wrap ((j : Int) - 1) = (j' : Int) := by rw [IntKind.wrap_i64]; have := HJ.out; omega
              obtain ⟨c7, _⟩ := HC.out j' (by omega)
              obtain ⟨db, df, edb, h4⟩ := HDR.out.one (by omega)
              have c8 := h4 j' (by omega)
              have HMN : Hid (D j' ≤ dd ∧ parF L j' ≤ p) := by
                have := HN.out.mn (by omega)
                rw [HJ.out, Nat.add_sub_cancel, ← HJ.out, ← HDD.out, ← HP.out] at this
                exact this
              obtain ⟨dp, HDP⟩ : ∃ dp, Hid (dp = D j' + 1) := ⟨_, rfl⟩
              rw [← HDP.out] at c8
              generalize parF L j' = pp at c7 HMN
              have g10 : decide ((dN : Int) < (dp : Int)) = false := decide_eq_false (by have := HDP.out; have := HDN.out; have := HMN.out; omega)
              have g10' : decide (dN < dp) = false := decide_eq_false (by have := HDP.out; have := HDN.out; have := HMN.out; omega)
              have g11 : decide (p < pp) = false := decide_eq_false (by have := HMN.out; omega)
              have g12 : (0 : Int) ≤ (j' : Int) := by omega
              have g13 : (j' : Int) < (j : Int) := by omega
              have g14 : (j' : Int) < (n : Int) := by omega
              rw [edb]
              have EDB := hidd edb
              clear h4 edb HJ hj0
              go_upto_region 17 with fail
              go_big_quiet (fail)
              rw [← EB.out, ← EDB.out]
              obtain ⟨wB, hwB⟩ : ∃ wB, wB = wA.drewN nq := ⟨_, rfl⟩
              have HR2 : Hid (ShR w wB (.slice du j dc) (.slice ku j kc) j D (fun j => cntF (parF L) j (parF L j))) := by rw [hwB]; exact ⟨HR.out.d.kept (fresh_drewN _ _), HR.out.k.kept (fresh_drewN _ _), HR.out.off, fresh_trans HR.out.low (fresh_drewN _ _)⟩
              rw [← hwB]
              have hsz := HR2.out.low.size
              clear hwB HR HN HC HDR c1 c2 c5 c6 HK HMN c7 c8
              have HO1 := hidd (HR2.out.d.kept (fresh_alloc wB (.cells #[.int .i64 (dN : Int)] 3)))
              have HF1 := hidd (HR2.out.low.alloc hsz (.cells #[.int .i64 (dN : Int)] 3))
              have HK1 := hidd (HR2.out.k.kept (fresh_alloc wB (.cells #[.int .i64 (dN : Int)] 3)))
              go_wp2_with (at_builtin; refine wpList_app1 _ rfl _ _ 37 rfl w.heap.size 3 (.int .i64 0) 8 Try.underlying37 infoIn rfl _ j (fun j => .int .i64 ((D j + 1 : Nat) : Int)) rfl HO1.out wB.heap.size 1 rfl (HN1.out _ _) rfl (by omega) (by omega) HF1.out.size ?_)
              intro v5' w1 hown1 happ1
              have HD1 := hidd hown1
              have HKW := hidd (happ1.own HK1.out HR2.out.off)
              have HOF := hidd (happ1.off HK1.out HR2.out.off)
              have HF2 := hidd (happ1.below HF1.out HO1.out (Nat.le_refl _) HF1.out.size)
              obtain ⟨u9, c9, e9, _⟩ := hown1.rd
              subst e9
              clear hown1 happ1 HO1 HF1 HK1 HR2 hsz HN1
              have hsz1 := HF2.out.size
              have HO2 := hidd (HKW.out.kept (fresh_alloc w1 (.cells #[.int .i64 (kj : Int)] 3)))
              have HF3 := hidd (HF2.out.alloc hsz1 (.cells #[.int .i64 (kj : Int)] 3))
              have HD2 := hidd (HD1.out.kept (fresh_alloc w1 (.cells #[.int .i64 (kj : Int)] 3)))
              go_wp2_with (at_builtin; refine wpList_app1 _ rfl _ _ 37 rfl w.heap.size 3 (.int .i64 0) 8 Try.underlying37 infoIn rfl _ j (fun j => .int .i64 ((cntF (parF L) j (parF L j) : Nat) : Int)) rfl HO2.out w1.heap.size 1 rfl (HN2.out _ _) rfl (by omega) (by omega) HF3.out.size ?_)
              intro v6' w2 hown2 happ2
              have HEND : Hid (ShR w w2 (.slice u9 (j + 1) c9) v6' (j + 1) D (fun j => cntF (parF L) j (parF L j))) := ⟨happ2.own HD2.out HOF.out.symm, hown2, (happ2.off HD2.out HOF.out.symm).symm, happ2.below HF3.out HO2.out (Nat.le_refl _) HF3.out.size⟩
              clear hown2 happ2 HO2 HF3 HD2 HD1 HKW HOF HF2 HN2
              go_wp2
              go_roundw
              case rel => exact ⟨j + 1, by omega, by go_num, HEND⟩
              case measure => simp [intOf]; omega
    · obtain rfl : i = n := by omega
      have hnl : ¬ ((i : Int) < (i : Int)) := by omega
      have FR := hidd HR.out.low
      go_wp2
      go_ret
      exact ⟨rfl, FR.out⟩
end Go.Proofs.Ytjjnfpeeipainaa
namespace Go.Proofs.Ytjjnfpeeipainaa
open Go.RowKit
/-! MedusaShape: what its loop keeps. -/
theorem own_offT {w : World} {b b' : Nat} {e e' : TypeId} {sz sz' : Nat} {v v' : Value} {n n' : Nat} {cs cs' : Nat → Value} (h : Own w b e sz v n cs) (h' : Own w b' e' sz' v' n' cs') (hne : e ≠ e') : Off v v' := by
  intro k hk hk'
  rcases h.2 with ⟨rfl, _⟩ | ⟨g, cap, cur, rfl, _, hgg, _⟩
  · simp [Value.ownBlock] at hk
  · rcases h'.2 with ⟨rfl, _⟩ | ⟨g', cap', cur', rfl, _, hgg', _⟩
    · simp [Value.ownBlock] at hk'
    · simp only [Value.ownBlock, Option.some.injEq] at hk hk'
      subst hk
      subst hk'
      rw [hgg] at hgg'
      simp at hgg'
      exact hne hgg'.2
theorem off_new {w w' : World} {b : Nat} {e e' : TypeId} {sz sz' : Nat} {v v' : Value} {n n' : Nat} {cs cs' : Nat → Value} (h : Own w b e sz v n cs) (h' : Own w' w.heap.size e' sz' v' n' cs') : Off v v' := by
  intro k hk hk'
  have := (h.lt k hk).2
  have := (h'.lt k hk').1
  omega
/-- the law's lists: the widths so far, the best tokens, the tree before -/
structure ShW (X : Nat → List Int) (wf : Nat → Int) (w5 wr : World) (v16 v17 : Value) (t e : Nat) (A : Nat → Option Addr) (C : Nat → Nat) (bu : Option Addr) (bc : Nat) (LB : List (Int × Int)) : Prop where
  ws : Own wr w5.heap.size 3 1 v16 t (fun j => .int .i64 (wf j))
  bs : Own wr w5.heap.size 37 1 v17 e (fun j => .slice (A j) (X j).length (C j))
  inn : ∀ j, j < e → Own wr w5.heap.size 3 1 (.slice (A j) (X j).length (C j)) (X j).length (tkF (X j)) ∧ Off v16 (.slice (A j) (X j).length (C j))
  bef : Own wr w5.heap.size 48 2 (.slice bu LB.length bc) LB.length (rwF LB)
  low : Below w5.heap.size w5 wr
section
variable {X : Nat → List Int} {wf : Nat → Int} {w5 wr w' : World} {v16 v17 : Value} {t e : Nat} {A : Nat → Option Addr} {C : Nat → Nat} {bu : Option Addr} {bc : Nat} {LB : List (Int × Int)}
theorem ShW.start (X : Nat → List Int) (wf : Nat → Int) (w5 : World) : ShW X wf w5 w5 (.slice none 0 0) (.slice none 0 0) 0 0 (fun _ => none) (fun _ => 0) none 0 [] :=
  ⟨own_nil _ _ _ _ _, own_nil _ _ _ _ _, fun j hj => absurd hj (by omega), own_nil _ _ _ _ _, Below.refl _ _⟩
theorem ShW.fresh (h : ShW X wf w5 wr v16 v17 t e A C bu bc LB) (f : Below wr.heap.size wr w') : ShW X wf w5 w' v16 v17 t e A C bu bc LB :=
  ⟨h.ws.kept f, h.bs.kept f, fun j hj => ⟨(h.inn j hj).1.kept f, (h.inn j hj).2⟩, h.bef.kept f, fresh_trans h.low f⟩
theorem ShW.tree (h : ShW X wf w5 wr v16 v17 t e A C bu bc LB) (f : Below wr.heap.size wr w') {lu : Option Addr} {lc : Nat} {L : List (Int × Int)} (ho : Own w' wr.heap.size 48 2 (.slice lu L.length lc) L.length (rwF L)) : ShW X wf w5 w' v16 v17 t e A C lu lc L :=
  ⟨h.ws.kept f, h.bs.kept f, fun j hj => ⟨(h.inn j hj).1.kept f, (h.inn j hj).2⟩, ho.weaken h.low.size, fresh_trans h.low f⟩
theorem ShW.tk (h : ShW X wf w5 wr v16 v17 t e A C bu bc LB) {u : Option Addr} {c : Nat} (hv : v17 = .slice u e c) : Tk wr u e c X A C := by
  subst hv
  exact ⟨md_rda h.bs, fun j hj => md_rda (h.inn j hj).1⟩
theorem ShW.width (h : ShW X wf w5 wr v16 v17 t e A C bu bc LB) {v' : Value} (ha : App wr w' v16 v') (ho : Own w' w5.heap.size 3 1 v' (t + 1) (fun j => .int .i64 (wf j))) : ShW X wf w5 w' v' v17 (t + 1) e A C bu bc LB :=
  ⟨ho, ha.own h.bs (own_offT h.ws h.bs (by decide)), fun j hj => ⟨ha.own (h.inn j hj).1 (h.inn j hj).2, ha.off (h.inn j hj).1 (h.inn j hj).2⟩, ha.own h.bef (own_offT h.ws h.bef (by decide)), ha.below h.low h.ws (Nat.le_refl _) h.low.size⟩
theorem ShW.best (h : ShW X wf w5 wr v16 v17 t e A C bu bc LB) {v' : Value} {u : Option Addr} {c : Nat} (hn : Own wr w5.heap.size 3 1 (.slice u (X e).length c) (X e).length (tkF (X e))) (hf : Off v16 (.slice u (X e).length c)) (ha : App wr w' v17 v') (ho : Own w' w5.heap.size 37 1 v' (e + 1) (fun j => .slice (updX A e u j) (X j).length (updX C e c j))) : ShW X wf w5 w' v16 v' t (e + 1) (updX A e u) (updX C e c) bu bc LB := by
  refine ⟨ha.own h.ws (own_offT h.bs h.ws (by decide)), ho, fun j hj => ?_, ha.own h.bef (own_offT h.bs h.bef (by decide)), ha.below h.low h.bs (Nat.le_refl _) h.low.size⟩
  by_cases ej : j = e
  · subst ej
    rw [updX_at, updX_at]
    exact ⟨ha.own hn (own_offT h.bs hn (by decide)), hf⟩
  · rw [updX_ne _ _ _ ej, updX_ne _ _ _ ej]
    have hj' := h.inn j (by omega)
    exact ⟨ha.own hj'.1 (own_offT h.bs hj'.1 (by decide)), hj'.2⟩
end
/-- a width that is not below 0 -/
def w0F (f : Nat → Int) (i : Nat) : Int := if f i < 0 then 0 else f i
theorem w0F_pos (f : Nat → Int) (i : Nat) : 0 ≤ w0F f i := by unfold w0F; split <;> omega
/-- a vector of the width out of any numbers -/
def fiF (f : Nat → Int) (n : Nat) (i : Nat) : Int := if i < n then f i else IntKind.i8.wrap (i : Int)
theorem fiF_lt {f : Nat → Int} {n i : Nat} (h : i < n) : fiF f n i = f i := if_pos h
theorem fiF_ge {f : Nat → Int} {n i : Nat} (h : ¬ i < n) : fiF f n i = IntKind.i8.wrap (i : Int) := if_neg h
theorem fiF_bd {f : Nat → Int} {n : Nat} (h : ∀ i, i < n → -128 ≤ f i ∧ f i ≤ 127) (i : Nat) : -128 ≤ fiF f n i ∧ fiF f n i ≤ 127 := by
  by_cases e : i < n
  · rw [fiF_lt e]; exact h i e
  · rw [fiF_ge e]
    simp [IntKind.wrap, IntKind.bits, IntKind.signed]
    omega
theorem long_any (w : World) (n : Int) : Calls Try.prog 14 #[.int .i64 n] w fun e w' => e = .returned (.bool (decide (2147483647 < n))) ∧ w' = w := by
  go_enter Try.func14, Try.ntmps14
  go_wp2
  go_ret
  exact ⟨rfl, rfl⟩
end Go.Proofs.Ytjjnfpeeipainaa
