import Derived.Test.YtjjnfpeeipainaaMA
import Derived.Test.YtjjnfpeeipainaaLG
import Derived.Test.YtjjnfpeeipainaaMB
import Derived.Test.YtjjnfpeeipainaaHX
namespace Go.Proofs.Ytjjnfpeeipainaa
open Go.RowKit
/-! Propose. -/
/-- what is proposed -/
def prL (S : (Nat → Int) → Nat → Nat → Nat) (x : WtD) (f : Nat → Int) (R C : Nat) (ws : Nat → Int) (n : Nat) : List (Int × Int) := grL (fun i => tpL S (fun r => mv (x.md i).f f C r) R (ws i)) (min x.mn n)
theorem propose_nil (W : World) (ho : Option Addr) (n hc : Nat) (wo : Option Addr) (k wc : Nat) : Calls Try.prog 11 #[.pointer none, .slice ho n hc, .slice wo k wc] W fun e w' => e = .returned (.tuple #[.slice none 0 0, .int .i64 1]) ∧ w' = W := by
  go_enter Try.func11, Try.ntmps11
  go_wp2_with (go_at_call 12; refine (guesses_nil _ _ _ _).mono ?_; rintro e w' ⟨rfl, rfl⟩)
  go_ret2
  exact ⟨rfl, rfl⟩
set_option maxRecDepth 100000 in
set_option maxHeartbeats 8000000 in
theorem propose_ok {S : (Nat → Int) → Nat → Nat → Nat} (HT : TopC S) {W : World} {g : Nat} {x y : WtD} (h : Mdl W g x y) (hB : WtB y) {R C : Nat} (hV : x.V = (R : Int)) (hW : x.W = (C : Int)) (hR : R ≤ 1048576) (hm : ∀ k, k < x.mn → (x.md k).isa x.V x.W) (hmn : x.mn ≤ 1048576) {ho : Option Addr} {hc : Nat} {f : Nat → Int} (hh : RdA W ho 1 C hc (fun i => .int .i8 (f i))) (hg : ∀ i, i < C → -128 ≤ f i ∧ f i ≤ 127)
    {wo : Option Addr} {n wc : Nat} {ws : Nat → Int} (hw : RdA W wo 1 n wc (fun i => .int .i64 (ws i))) (h0 : ∀ i, i < n → 0 ≤ ws i) :
    Calls Try.prog 11 #[.pointer (some ⟨g, 0, none⟩), .slice ho C hc, .slice wo n wc] W fun e w' =>
      ∃ u c, e = .returned (.tuple #[.slice u (prL S x f R C ws n).length c, .int .i64 0]) ∧ Own w' W.heap.size 48 2 (.slice u (prL S x f R C ws n).length c) (prL S x f R C ws n).length (rwF (prL S x f R C ws n)) ∧ Below W.heap.size W w' := by
  have HG := hidd (guesses_ok h hB hV hW hR hm hmn hh hg)
  have HW := hidd hw
  have H0 := hidd h0
  have hwl := hw.le
  have hwt := hw.top
  unfold maxLen at hwt
  obtain ⟨d, hd⟩ : ∃ d, d = min x.mn n := ⟨_, rfl⟩
  obtain ⟨L, hL⟩ : ∃ L, L = prL S x f R C ws n := ⟨_, rfl⟩
  rw [← hL]
  have HBE : Hid (∀ (z : World) (gu : Option Addr) (gc : Nat), GsE W z (.slice gu x.mn gc) x.mn R C x.md f → Below W.heap.size W z → Calls Try.prog 31 #[.slice gu x.mn gc, .slice wo n wc] z fun e w' => ∃ A C', e = .returned (.slice (some ⟨z.heap.size, 0, none⟩) d d) ∧ Tk w' (some ⟨z.heap.size, 0, none⟩) d d (fun i => tpL S (fun r => mv (x.md i).f f C r) R (ws i)) A C' ∧ Below z.heap.size z w') := by
    rintro z gu gc ⟨bb, hgs⟩ hz
    exact best_any HT (Fs := fun j r => mv (x.md j).f f C r) hd (md_rda hgs.own) (fun j hj => by
      obtain ⟨_, F, h1, h2⟩ := hgs.rows j hj
      exact (rowIs_rd h1 (by unfold maxLen; omega)).congr (fun r hr => h2 r (by omega))) (HW.out.fresh hz) hR hmn
  have HGR : Hid (∀ (z : World) (b : Nat) (A : Nat → Option Addr) (C' : Nat → Nat), Tk z (some ⟨b, 0, none⟩) d d (fun i => tpL S (fun r => mv (x.md i).f f C r) R (ws i)) A C' → Calls Try.prog 30 #[.slice (some ⟨b, 0, none⟩) d d] z fun e w' => ∃ u c, e = .returned (.slice u L.length c) ∧ Own w' z.heap.size 48 2 (.slice u L.length c) L.length (rwF L) ∧ Below z.heap.size z w') := by
    intro z b A C' ht
    have := grow_any ht (by omega)
    rw [hL]
    unfold prL
    rw [← hd]
    exact this
  clear h hB hV hW hm hh hg hw h0 hL hd
  go_enter Try.func11, Try.ntmps11
  go_wp2_with fail
  refine HG.out.mono ?_
  rintro e w1 ⟨gu, gc, rfl, hgs, f1⟩
  have HB1 := hidd (HBE.out w1 gu gc hgs f1)
  have F1 := hidd f1
  clear HG HBE hgs f1
  go_wp2
  go_loopw [23] (fun vi wr => ∃ k : Nat, k ≤ n ∧ vi = .int .i64 (k : Int) ∧ Hid (wr = w1)) (fun vi _ => n - (intOf vi).toNat)
  case atStart => exact ⟨0, by omega, rfl, rfl⟩
  case round =>
    obtain ⟨k, hk, rfl, HE⟩ := hrel
    rw [HE.out]
    clear HE
    by_cases hlt : k < n
    · obtain ⟨wb, wf, ew, h2⟩ := (HW.out.fresh F1.out).one (by omega)
      rw [ew]
      have c2 : w1.cell? ⟨wb, wf + k, none⟩ = some (.int .i64 (ws k)) := h2 k hlt
      have i0 : (0 : Int) ≤ (k : Int) := by omega
      have i1 : (k : Int) < (n : Int) := by omega
      have d1 : decide (ws k < 0) = false := decide_eq_false (by have := H0.out k hlt; omega)
      have EW := hidd ew
      clear h2 ew
      go_wp2
      go_roundw
      case rel => exact ⟨k + 1, by omega, by go_num, (by first | rfl | trivial)⟩
      case measure => simp [intOf]; omega
    · obtain rfl : k = n := by omega
      have hnl : ¬ ((k : Int) < (k : Int)) := by omega
      go_wp2_with fail
      refine HB1.out.mono ?_
      rintro e w2 ⟨A, C', rfl, htk, f2⟩
      have HG2 := hidd (HGR.out w2 _ A C' htk)
      have F2 := hidd (fresh_trans F1.out f2)
      clear htk f2 HB1 HGR
      go_wp2_with fail
      refine HG2.out.mono ?_
      rintro e w3 ⟨u, c, rfl, ho, f3⟩
      have HO := hidd (ho.weaken F2.out.size)
      have F3 := hidd (fresh_trans F2.out f3)
      clear ho f3 HG2
      go_wp2
      go_ret2
      exact ⟨u, c, rfl, HO.out, F3.out⟩
end Go.Proofs.Ytjjnfpeeipainaa
namespace Go.Proofs.Ytjjnfpeeipainaa
open Go.RowKit
/-! fixed: what that model proposes. -/
theorem topC : TopC sg := fun _ _ _ _ _ h hn k => top_any h hn k
theorem sg_three {f : Nat → Int} (h0 : f 0 = 2) (h1 : f 1 = 1) (h2 : f 2 = 3) : sg f 3 0 = 2 ∧ sg f 3 1 = 0 := by
  have a0 := sg_lt (f := f) (n := 3) (k := 0) (by omega)
  have a1 := sg_lt (f := f) (n := 3) (k := 1) (by omega)
  have a2 := sg_lt (f := f) (n := 3) (k := 2) (by omega)
  have r1 := sg_ahead (f := f) (n := 3) (i := 0) (j := 1) (by omega) (by omega)
  have r2 := sg_ahead (f := f) (n := 3) (i := 1) (j := 2) (by omega) (by omega)
  have i1 : sg f 3 0 ≠ sg f 3 1 := fun e => by have := sg_inj (f := f) (n := 3) (by omega) (by omega) e; omega
  have i2 : sg f 3 1 ≠ sg f 3 2 := fun e => by have := sg_inj (f := f) (n := 3) (by omega) (by omega) e; omega
  have i3 : sg f 3 0 ≠ sg f 3 2 := fun e => by have := sg_inj (f := f) (n := 3) (by omega) (by omega) e; omega
  generalize sg f 3 0 = p at *
  generalize sg f 3 1 = q at *
  generalize sg f 3 2 = r at *
  have hp : p = 0 ∨ p = 1 ∨ p = 2 := by omega
  have hq : q = 0 ∨ q = 1 ∨ q = 2 := by omega
  have hr : r = 0 ∨ r = 1 ∨ r = 2 := by omega
  clear a0 a1 a2
  rcases hp with rfl | rfl | rfl <;> rcases hq with rfl | rfl | rfl <;> rcases hr with rfl | rfl | rfl <;> first | exact ⟨rfl, rfl⟩ | (exfalso; omega)
def oneF : Nat → Int := fun i => ([1, 0] : List Int).getD i 0
def twoF : Nat → Int := fun i => ([2] : List Int).getD i 0
theorem pl_list {x : WtD} (hmn : x.mn = 1) (hf : ∀ i, (x.md 0).f i = hdF i) : prL sg x oneF 3 2 twoF 1 = [(-1, 2), (-1, 0)] := by
  have e : ∀ r, mv (x.md 0).f oneF 2 r = wrap64 (hdF (r * 2)) := by
    intro r
    unfold mv dot
    simp [isum, oneF, hf]
  have hs := sg_three (f := fun r => mv (x.md 0).f oneF 2 r) (by rw [e]; show wrap64 2 = 2; simp [wrap64]) (by rw [e]; show wrap64 1 = 1; simp [wrap64]) (by rw [e]; show wrap64 3 = 3; simp [wrap64])
  have ht : tpL sg (fun r => mv (x.md 0).f oneF 2 r) 3 (twoF 0) = [2, 0] := by
    unfold tpL
    show (List.range 2).map _ = _
    simp [List.range_succ, hs.1, hs.2]
  unfold prL grL
  rw [hmn]
  show gr [tpL sg (fun r => mv (x.md 0).f oneF 2 r) 3 (twoF 0)] 0 1 [] = _
  rw [ht]
  rfl
theorem lit_rd (w : World) {t : TypeId} {l : List Value} {f : Nat → Value} (hl : l.length ≤ 64) (h : ∀ i, i < l.length → l.getD i undef = f i) : RdA (w.alloc (.cells l.toArray t)) (some ⟨w.heap.size, 0, none⟩) 1 l.length l.length f :=
  (rowIs_rd (Blk.row (Blk.new w t l.toArray)) (by unfold maxLen; omega)).congr (fun j hj => h j (by omega))
set_option maxRecDepth 20000 in
set_option maxHeartbeats 4000000 in
theorem fixedM_any (w : World) : Calls Try.prog 8 #[] w fun e w' => e = .returned (.bool true) ∧ Below w.heap.size w w' := by
  have HPL := hidd (plain_any w)
  have HPR : Hid (∀ (z : World) (x : WtD) (g : Nat), PlP z x g → Calls Try.prog 11 #[.pointer (some ⟨g, 0, none⟩), .slice (some ⟨z.heap.size, 0, none⟩) 2 2, .slice (some ⟨z.heap.size + 1, 0, none⟩) 1 1] ((z.alloc (.cells #[.int .i8 1, .int .i8 0] 51)).alloc (.cells #[.int .i64 2] 3)) fun e w' => ∃ b c, e = .returned (.tuple #[.slice (some ⟨b, 0, none⟩) 2 c, .int .i64 0]) ∧ 2 ≤ c ∧ c ≤ 9223372036854775807 ∧ (∀ w9, Below w'.heap.size w' w9 → w9.cell? ⟨b, 0, none⟩ = some (.int .i64 (-1)) ∧ w9.cell? ⟨b, 1, none⟩ = some (.int .i64 2) ∧ w9.cell? ⟨b, 2, none⟩ = some (.int .i64 (-1)) ∧ w9.cell? ⟨b, 3, none⟩ = some (.int .i64 0)) ∧ Below z.heap.size z w') := by
    rintro z x g ⟨y, hmd, hm, hp, hV, hW, hmn, hf⟩
    have fa := fresh_trans (fresh_alloc z (.cells #[.int .i8 1, .int .i8 0] 51)) (fresh_alloc _ (.cells #[.int .i64 2] 3))
    have r1 : RdA ((z.alloc (.cells #[.int .i8 1, .int .i8 0] 51)).alloc (.cells #[.int .i64 2] 3)) (some ⟨z.heap.size, 0, none⟩) 1 2 2 (fun i => .int .i8 (oneF i)) := (lit_rd z (l := [.int .i8 1, .int .i8 0]) (by decide) (fun i hi => (by
      have hi' : i < 2 := hi
      match i, hi' with
      | 0, _ => rfl
      | 1, _ => rfl))).fresh (fresh_alloc _ _)
    have r2 : RdA ((z.alloc (.cells #[.int .i8 1, .int .i8 0] 51)).alloc (.cells #[.int .i64 2] 3)) (some ⟨z.heap.size + 1, 0, none⟩) 1 1 1 (fun i => .int .i64 (twoF i)) := by
      have := lit_rd (z.alloc (.cells #[.int .i8 1, .int .i8 0] 51)) (t := 3) (l := [.int .i64 2]) (f := fun i => .int .i64 (twoF i)) (by decide) (fun i hi => (by
        have hi' : i < 1 := hi
        match i, hi' with
        | 0, _ => rfl))
      simp only [World.size_alloc] at this
      exact this
    have hmd2 := hmd.fresh fa
    have hc := propose_ok topC hmd2 (hmd2.b hm hp) (R := 3) (C := 2) hV hW (by omega) hp.m (by omega) r1 (fun i hi => (by
      match i, hi with
      | 0, _ => decide
      | 1, _ => decide)) r2 (fun i hi => (by
      match i, hi with
      | 0, _ => decide))
    refine hc.mono ?_
    rintro e w' ⟨u, c, rfl, ho, f1⟩
    rw [pl_list hmn hf] at ho ⊢
    have hr := md_rda ho
    have hle := hr.le
    have htop := hr.top
    obtain ⟨b, o, eu, hc⟩ := hr.at_ (by decide)
    have hb0 := ho
    rcases ho.2 with ⟨e4, _⟩ | ⟨g', cap', cur, e4, _⟩
    · cases e4
    · injection e4 with e5
      rw [eu] at e5
      injection e5 with e5
      injection e5 with e6 e7
      subst e6 e7 eu
      refine ⟨_, c, rfl, hle, htop, fun w9 h9 => ⟨?_, ?_, ?_, ?_⟩, fresh_trans fa f1⟩
      · exact fresh_cell h9 (by have := hc 0 (by decide); rw [Nat.zero_add] at this; exact this)
      · exact fresh_cell h9 (by have := hc 1 (by decide); rw [Nat.zero_add] at this; exact this)
      · exact fresh_cell h9 (by have := hc 2 (by decide); rw [Nat.zero_add] at this; exact this)
      · exact fresh_cell h9 (by have := hc 3 (by decide); rw [Nat.zero_add] at this; exact this)
  have HPN : Hid (∀ z ho n hc wo k wc, Calls Try.prog 11 #[.pointer none, .slice ho n hc, .slice wo k wc] z fun e w' => e = .returned (.tuple #[.slice none 0 0, .int .i64 1]) ∧ w' = z) := fun z ho n hc wo k wc => propose_nil z ho n hc wo k wc
  go_enter Try.func8, Try.ntmps8
  go_wp2_with fail
  refine HPL.out.mono ?_
  rintro e w1 ⟨x, g, rfl, hx, f1⟩
  have HP1 := hidd (HPR.out w1 x g hx)
  have F1 := hidd f1
  clear HPL HPR hx f1
  go_wp2_with fail
  refine HP1.out.mono ?_
  rintro e w2 ⟨b, c, rfl, hc1, hc2, hcell, f2⟩
  have HC := hidd hcell
  have F2 := hidd (fresh_trans F1.out f2)
  have FA := hidd (fresh_trans (fresh_alloc w2 (.cells #[.int .i8 1, .int .i8 0] 51)) (fresh_alloc _ (.cells #[.int .i64 2] 3)))
  clear hcell f2 HP1 F1
  go_wp2_with fail
  refine (HPN.out _ _ _ _ _ _ _).mono ?_
  rintro e w3 ⟨rfl, hw3⟩
  rw [hw3]
  clear hw3 w3 HPN
  obtain ⟨k0, k1, k2, k3⟩ := HC.out _ FA.out
  have F3 := hidd (fresh_trans F2.out FA.out)
  generalize (w2.alloc (.cells #[.int .i8 1, .int .i8 0] 51)).alloc (.cells #[.int .i64 2] 3) = w3 at *
  clear HC FA F2
  go_wp2
  go_ret
  exact ⟨rfl, F3.out⟩
end Go.Proofs.Ytjjnfpeeipainaa
namespace Go.Proofs.Ytjjnfpeeipainaa
open Go.RowKit
/-! fit, right. -/
def fitF (f : Nat → Int) (n : Nat) (i : Nat) : Int := if i < n then f i else IntKind.i8.wrap ((i : Int) + 2)
theorem fitF_lt {f : Nat → Int} {n i : Nat} (h : i < n) : fitF f n i = f i := if_pos h
theorem fitF_ge {f : Nat → Int} {n i : Nat} (h : ¬ i < n) : fitF f n i = IntKind.i8.wrap ((i : Int) + 2) := if_neg h
theorem fitF_bd {f : Nat → Int} {n : Nat} (h : ∀ i, i < n → -128 ≤ f i ∧ f i ≤ 127) (i : Nat) : -128 ≤ fitF f n i ∧ fitF f n i ≤ 127 := by
  by_cases e : i < n
  · rw [fitF_lt e]; exact h i e
  · rw [fitF_ge e]
    simp [IntKind.wrap, IntKind.bits, IntKind.signed]
    omega
set_option maxRecDepth 100000 in
set_option maxHeartbeats 4000000 in
theorem fitv_any {w : World} {x : WtD} {C : Nat} (hW : x.W = (C : Int)) (hC : C ≤ 1048576) {ho : Option Addr} {n hc : Nat} {f : Nat → Int} (hh : RdA w ho 1 n hc (fun i => .int .i8 (f i))) :
    Calls Try.prog 10 #[.agg #[.int .i64 x.V, .int .i64 x.W, .int .i64 x.H, .int .i64 x.K, .int .i64 x.L, .int .i64 x.D, .int .i64 x.N, .int .i64 x.M, .int .i64 x.E.R, .int .i64 x.E.C, .slice x.E.O x.E.n x.E.c, .slice x.tO x.tn x.tc, .slice x.yO x.yn x.yc, .slice x.F.O x.F.n x.F.c, .int .i64 x.Q.R, .int .i64 x.Q.C, .slice x.Q.O x.Q.n x.Q.c, .slice x.mO x.mn x.mc], .slice ho n hc] w fun e w' => ∃ u c, e = .returned (.slice u C c) ∧ Own w' w.heap.size 51 1 (.slice u C c) C (fun i => .int .i8 (fitF f n i)) ∧ Below w.heap.size w w' := by
  have hr : (w.alloc (.cells #[.int .i64 x.V, .int .i64 x.W, .int .i64 x.H, .int .i64 x.K, .int .i64 x.L, .int .i64 x.D, .int .i64 x.N, .int .i64 x.M, .int .i64 x.E.R, .int .i64 x.E.C, .slice x.E.O x.E.n x.E.c, .slice x.tO x.tn x.tc, .slice x.yO x.yn x.yc, .slice x.F.O x.F.n x.F.c, .int .i64 x.Q.R, .int .i64 x.Q.C, .slice x.Q.O x.Q.n x.Q.c, .slice x.mO x.mn x.mc] 31)).rowIs w.heap.size 31 18 (wtc x) := World.rowIs_list w (wtL x) 31
  have f1 := fresh_alloc w (.cells #[.int .i64 x.V, .int .i64 x.W, .int .i64 x.H, .int .i64 x.K, .int .i64 x.L, .int .i64 x.D, .int .i64 x.N, .int .i64 x.M, .int .i64 x.E.R, .int .i64 x.E.C, .slice x.E.O x.E.n x.E.c, .slice x.tO x.tn x.tc, .slice x.yO x.yn x.yc, .slice x.F.O x.F.n x.F.c, .int .i64 x.Q.R, .int .i64 x.Q.C, .slice x.Q.O x.Q.n x.Q.c, .slice x.mO x.mn x.mc] 31)
  have HH := hidd hh
  have hnc := hh.le
  have hnt := hh.top
  unfold maxLen at hnt
  have HW := hidd hW
  clear hh hW
  go_enter Try.func10, Try.ntmps10
  go_upto_region 1 with fail
  generalize w.alloc (.cells #[.int .i64 x.V, .int .i64 x.W, .int .i64 x.H, .int .i64 x.K, .int .i64 x.L, .int .i64 x.D, .int .i64 x.N, .int .i64 x.M, .int .i64 x.E.R, .int .i64 x.E.C, .slice x.E.O x.E.n x.E.c, .slice x.tO x.tn x.tc, .slice x.yO x.yn x.yc, .slice x.F.O x.F.n x.F.c, .int .i64 x.Q.R, .int .i64 x.Q.C, .slice x.Q.O x.Q.n x.Q.c, .slice x.mO x.mn x.mc] 31) = wa at *
  have HC1 : Hid (wa.cell? ⟨w.heap.size, 1, none⟩ = some (.int .i64 (C : Int))) := by show _ = _; rw [← HW.out]; exact hr.cell (i := 1) (by decide)
  have hsz := hr.lt
  clear hr HW
  go_wp2
  go_loopw [5, 6, 7] (fun v i _ wr => ∃ k : Nat, k ≤ C ∧ i = .int .i64 (k : Int) ∧ Own wr wa.heap.size 51 1 v k (fun i => .int .i8 (fitF f n i)) ∧ Below wa.heap.size wa wr) (fun _ i _ _ => C - (intOf i).toNat)
  case atStart => exact ⟨0, Nat.zero_le _, by simp, own_nil _ _ _ _ _, Below.refl _ _⟩
  case round =>
    obtain ⟨k, hk, rfl, hown, hf⟩ := hrel
    obtain ⟨p, uc, rfl, _⟩ := hown.rd
    have c1 := fresh_cell hf HC1.out
    have hsz2 := hf.size
    by_cases hlt : k < C
    · have i0 : (0 : Int) ≤ (k : Int) := by omega
      have i1 : (k : Int) < (C : Int) := by omega
      by_cases hkn : k < n
      · obtain ⟨b, off, rfl, hcell⟩ := (HH.out.fresh (fresh_trans f1 hf)).one (by omega)
        have ck := hcell k hkn
        have i2 : (k : Int) < (n : Int) := by omega
        have HN : Hid (∀ (w0 : World) (t : TypeId), (w0.alloc (.cells #[.int .i8 (f k)] t)).cell? ⟨w0.heap.size, 0, none⟩ = some (.int .i8 (fitF f n k))) := fun w0 t => by rw [new_cell, fitF_lt hkn]
        have HO := hidd (hown.kept (fresh_alloc wr (.cells #[.int .i8 (f k)] 51)))
        have HFA := hidd (fresh_trans hf (fresh_alloc wr (.cells #[.int .i8 (f k)] 51)))
        clear hcell
        go_wp2_with (at_builtin; refine wpList_app1 _ rfl _ _ 24 rfl wa.heap.size 51 (.int .i8 0) 1 Try.underlying24 infoI8 rfl _ k (fun i => .int .i8 (fitF f n i)) rfl HO.out wr.heap.size 1 rfl (HN.out _ _) rfl (by omega) (by omega) HFA.out.size ?_)
        rintro v' w2 hown' happ
        have HB := hidd (happ.below HFA.out HO.out (Nat.le_refl _) HFA.out.size)
        clear happ HO HFA HN
        go_wp2
        go_roundw
        case rel => exact ⟨k + 1, by omega, by go_num, hown', HB.out⟩
        case measure => simp [intOf]; omega
      · have i2 : ¬ ((k : Int) < (n : Int)) := by omega
        have HN : Hid (∀ (w0 : World) (t : TypeId), (w0.alloc (.cells #[.int .i8 (IntKind.i8.wrap ((k : Int) + 2))] t)).cell? ⟨w0.heap.size, 0, none⟩ = some (.int .i8 (fitF f n k))) := fun w0 t => by rw [new_cell, fitF_ge hkn]
        have HO := hidd (hown.kept (fresh_alloc wr (.cells #[.int .i8 (IntKind.i8.wrap ((k : Int) + 2))] 51)))
        have HFA := hidd (fresh_trans hf (fresh_alloc wr (.cells #[.int .i8 (IntKind.i8.wrap ((k : Int) + 2))] 51)))
        go_wp2_with (at_builtin; refine wpList_app1 _ rfl _ _ 24 rfl wa.heap.size 51 (.int .i8 0) 1 Try.underlying24 infoI8 rfl _ k (fun i => .int .i8 (fitF f n i)) rfl HO.out wr.heap.size 1 rfl (HN.out _ _) rfl (by omega) (by omega) HFA.out.size ?_)
        rintro v' w2 hown' happ
        have HB := hidd (happ.below HFA.out HO.out (Nat.le_refl _) HFA.out.size)
        clear happ HO HFA HN
        go_wp2
        go_roundw
        case rel => exact ⟨k + 1, by omega, by go_num, hown', HB.out⟩
        case measure => simp [intOf]; omega
    · obtain rfl : k = C := by omega
      have hnl : ¬ ((k : Int) < (k : Int)) := by omega
      go_wp2
      go_ret
      exact ⟨p, uc, rfl, hown.weaken (by omega), fresh_trans f1 hf⟩
/-- widths that are none below 0 -/
def rgF (f : Nat → Int) (i : Nat) : Int := if f i < 0 then 1 else f i
theorem rgF_pos (f : Nat → Int) (i : Nat) : 0 ≤ rgF f i := by unfold rgF; split <;> omega
theorem infoIn : (Try.prog.info? 3).map (fun i => (i.zero, i.size, i.bytes)) = some (some (.int .i64 0), 1, 8) := by kernel_rfl
set_option maxRecDepth 20000 in
set_option maxHeartbeats 4000000 in
theorem right_any {w : World} {ao : Option Addr} {n cap : Nat} {f : Nat → Int} (hn : n * 8 ≤ 140737488355328) (h : RdA w ao 1 n cap (fun i => .int .i64 (f i))) :
    Calls Try.prog 17 #[.slice ao n cap] w fun e w' => ∃ u c, e = .returned (.slice u n c) ∧ Own w' w.heap.size 3 1 (.slice u n c) n (fun i => .int .i64 (rgF f i)) ∧ Below w.heap.size w w' := by
  have HH := hidd h
  have hnc := h.le
  have hnt := h.top
  unfold maxLen at hnt
  clear h
  go_enter Try.func17, Try.ntmps17
  go_wp2
  go_loopw [3, 4, 5] (fun v i _ wr => ∃ k : Nat, k ≤ n ∧ i = .int .i64 (k : Int) ∧ Own wr w.heap.size 3 1 v k (fun i => .int .i64 (rgF f i)) ∧ Hid (Below w.heap.size w wr)) (fun _ i _ _ => n - (intOf i).toNat)
  case atStart => exact ⟨0, Nat.zero_le _, by simp, own_nil _ _ _ _ _, Below.refl _ _⟩
  case round =>
    obtain ⟨k, hk, rfl, hown, HF⟩ := hrel
    obtain ⟨p, uc, rfl, _⟩ := hown.rd
    have hsz := HF.out.size
    by_cases hlt : k < n
    · have i0 : (0 : Int) ≤ (k : Int) := by omega
      have i1 : (k : Int) < (n : Int) := by omega
      obtain ⟨b, off, rfl, hcell⟩ := (HH.out.fresh HF.out).one (by omega)
      have ck : wr.cell? ⟨b, off + k, none⟩ = some (.int .i64 (f k)) := hcell k hlt
      obtain ⟨y, HY⟩ : ∃ y, Hid (y = rgF f k) := ⟨_, rfl⟩
      have HN : Hid (∀ (w0 : World) (t : TypeId), (w0.alloc (.cells #[.int .i64 y] t)).cell? ⟨w0.heap.size, 0, none⟩ = some (.int .i64 (rgF f k))) := fun w0 t => by rw [new_cell, HY.out]
      have HO := hidd (hown.kept (fresh_alloc wr (.cells #[.int .i64 y] 3)))
      have HFA := hidd (HF.out.alloc hsz (.cells #[.int .i64 y] 3))
      clear hcell hown
      by_cases hneg : f k < 0
      · have d1 : decide (f k < 0) = true := decide_eq_true hneg
        have hy : y = 1 := by rw [HY.out]; exact if_pos hneg
        rw [hy] at HN HO HFA
        clear hy HY
        go_wp2_with (at_builtin; refine wpList_app1 _ rfl _ _ 37 rfl w.heap.size 3 (.int .i64 0) 8 Try.underlying37 infoIn rfl _ k (fun i => .int .i64 (rgF f i)) rfl HO.out wr.heap.size 1 rfl (HN.out _ _) rfl (by omega) (by omega) HFA.out.size ?_)
        rintro v' w2 hown' happ
        have HB := hidd (happ.below HFA.out HO.out (Nat.le_refl _) HFA.out.size)
        clear happ HO HFA HN
        go_wp2
        go_roundw
        case rel => exact ⟨k + 1, by omega, by go_num, hown', HB⟩
        case measure => simp [intOf]; omega
      · have d1 : decide (f k < 0) = false := decide_eq_false hneg
        have hy : y = f k := by rw [HY.out]; exact if_neg hneg
        rw [hy] at HN HO HFA
        clear hy HY
        go_wp2_with (at_builtin; refine wpList_app1 _ rfl _ _ 37 rfl w.heap.size 3 (.int .i64 0) 8 Try.underlying37 infoIn rfl _ k (fun i => .int .i64 (rgF f i)) rfl HO.out wr.heap.size 1 rfl (HN.out _ _) rfl (by omega) (by omega) HFA.out.size ?_)
        rintro v' w2 hown' happ
        have HB := hidd (happ.below HFA.out HO.out (Nat.le_refl _) HFA.out.size)
        clear happ HO HFA HN
        go_wp2
        go_roundw
        case rel => exact ⟨k + 1, by omega, by go_num, hown', HB⟩
        case measure => simp [intOf]; omega
    · obtain rfl : k = n := by omega
      have hnl : ¬ ((k : Int) < (k : Int)) := by omega
      go_wp2
      go_ret
      exact ⟨p, uc, rfl, hown, HF.out⟩
end Go.Proofs.Ytjjnfpeeipainaa
