import Derived.Test.YtlnbbnojkpdccaaLG
import Derived.Test.YtlnbbnojkpdccaaLgR
namespace Go.Proofs.Ytlnbbnojkpdccaa
open Go.RowKit
/-! fit; EqWide. -/
set_option maxHeartbeats 1000000 in
theorem eqWide_any {w : World} {ao bo : Option Addr} {n m ca cb : Nat} {f g : Nat → Int} (ha : RdA w ao 1 n ca (fun i => .int .i64 (f i))) (hb : RdA w bo 1 m cb (fun i => .int .i64 (g i))) :
    Calls Try.prog 23 #[.slice ao n ca, .slice bo m cb] w fun e w' => (∃ r : Bool, e = .returned (.bool r) ∧ (r = true ↔ n = m ∧ ∀ i, i < n → f i = g i)) ∧ Below w.heap.size w w' := by
  have hn : n ≤ 9223372036854775807 := by have := ha.le; have := ha.top; unfold maxLen at this; omega
  have hm : m ≤ 9223372036854775807 := by have := hb.le; have := hb.top; unfold maxLen at this; omega
  by_cases hnm : n = m
  · subst hnm
    go_enter Try.func23, Try.ntmps23
    go_wp2
    go_loopw [5] (fun i wr => ∃ k : Nat, k ≤ n ∧ i = .int .i64 k ∧ Hid (∀ j, j < k → f j = g j) ∧ Below w.heap.size w wr) (fun i _ => n - (intOf i).toNat)
    case atStart => exact ⟨0, by omega, rfl, fun j hj => absurd hj (by omega), Below.refl _ _⟩
    case round =>
      obtain ⟨k, hk, rfl, HE, hf⟩ := hrel
      by_cases hlt : k < n
      · obtain ⟨b1, o1, rfl, h1⟩ := (ha.fresh hf).one (by omega)
        obtain ⟨b2, o2, rfl, h2⟩ := (hb.fresh hf).one (by omega)
        have c1 := h1 k hlt
        have c2 := h2 k hlt
        clear h1 h2
        by_cases e : f k = g k
        · rw [← e] at c2
          have HE3 := hidd e
          clear e
          go_wp2
          go_quiet (fail)
          go_wp2
          go_roundw
          case rel => exact ⟨k + 1, by omega, by go_num, fun j hj => (by
            by_cases q : j = k
            · rw [q]; exact HE3.out
            · exact HE.out j (by omega)), below_drewN hf _⟩
          case measure => simp [intOf]; omega
        · have x3 : decide (f k = g k) = false := decide_eq_false e
          have HE3 := hidd e
          go_wp2
          go_quiet (fail)
          go_wp2
          go_ret
          exact ⟨⟨false, rfl, ⟨fun q => (by cases q), fun q => absurd (q.2 k hlt) HE3.out⟩⟩, below_drewN hf _⟩
      · obtain rfl : n = k := by omega
        go_wp2
        go_ret
        exact ⟨⟨true, rfl, ⟨fun _ => ⟨(by first | rfl | trivial), HE.out⟩, fun _ => rfl⟩⟩, hf⟩
  · have hne : ¬ (n : Int) = (m : Int) := by omega
    go_enter Try.func23, Try.ntmps23
    go_wp2
    go_ret
    exact ⟨⟨false, rfl, ⟨fun q => (by cases q), fun q => absurd q.1 hnm⟩⟩, Below.refl _ _⟩
theorem eqw_rows {w : World} {ao bo : Option Addr} {n ca cb : Nat} {f g : Nat → Int} (ha : RdA w ao 1 n ca (fun i => .int .i64 (f i))) (hb : RdA w bo 1 n cb (fun i => .int .i64 (g i))) (he : ∀ i, i < n → f i = g i) :
    Calls Try.prog 23 #[.slice ao n ca, .slice bo n cb] w fun e w' => e = .returned (.bool true) ∧ Below w.heap.size w w' := by
  refine (eqWide_any ha hb).mono ?_
  rintro e w8 ⟨⟨r, rfl, hr⟩, f8⟩
  have : r = true := hr.2 ⟨rfl, he⟩
  subst this
  exact ⟨rfl, f8⟩
def fitF (f : Nat → Int) (n : Nat) (i : Nat) : Int := if i < n then f i else IntKind.i8.wrap (3 - (i : Int))
theorem fitF_lt {f : Nat → Int} {n i : Nat} (h : i < n) : fitF f n i = f i := if_pos h
theorem fitF_ge {f : Nat → Int} {n i : Nat} (h : ¬ i < n) : fitF f n i = IntKind.i8.wrap (3 - (i : Int)) := if_neg h
theorem fitF_bd {f : Nat → Int} {n : Nat} (h : ∀ i, i < n → -128 ≤ f i ∧ f i ≤ 127) (i : Nat) : -128 ≤ fitF f n i ∧ fitF f n i ≤ 127 := by
  by_cases e : i < n
  · rw [fitF_lt e]; exact h i e
  · rw [fitF_ge e]
    simp [IntKind.wrap, IntKind.bits, IntKind.signed]
    omega
set_option maxRecDepth 100000 in
set_option maxHeartbeats 4000000 in
theorem fitv_any {w : World} {x : WtD} {C : Nat} (hW : x.W = (C : Int)) (hC : C ≤ 1048576) {ho : Option Addr} {n hc : Nat} {f : Nat → Int} (hh : RdA w ho 1 n hc (fun i => .int .i8 (f i))) :
    Calls Try.prog 16 #[.agg #[.int .i64 x.V, .int .i64 x.W, .int .i64 x.H, .int .i64 x.K, .int .i64 x.L, .int .i64 x.D, .int .i64 x.N, .int .i64 x.M, .int .i64 x.E.R, .int .i64 x.E.C, .slice x.E.O x.E.n x.E.c, .slice x.tO x.tn x.tc, .slice x.yO x.yn x.yc, .slice x.F.O x.F.n x.F.c, .int .i64 x.Q.R, .int .i64 x.Q.C, .slice x.Q.O x.Q.n x.Q.c, .slice x.mO x.mn x.mc], .slice ho n hc] w fun e w' => ∃ u c, e = .returned (.slice u C c) ∧ Own w' w.heap.size 57 1 (.slice u C c) C (fun i => .int .i8 (fitF f n i)) ∧ Below w.heap.size w w' := by
  have hr : (w.alloc (.cells #[.int .i64 x.V, .int .i64 x.W, .int .i64 x.H, .int .i64 x.K, .int .i64 x.L, .int .i64 x.D, .int .i64 x.N, .int .i64 x.M, .int .i64 x.E.R, .int .i64 x.E.C, .slice x.E.O x.E.n x.E.c, .slice x.tO x.tn x.tc, .slice x.yO x.yn x.yc, .slice x.F.O x.F.n x.F.c, .int .i64 x.Q.R, .int .i64 x.Q.C, .slice x.Q.O x.Q.n x.Q.c, .slice x.mO x.mn x.mc] 46)).rowIs w.heap.size 46 18 (wtc x) := World.rowIs_list w (wtL x) 46
  have f1 := fresh_alloc w (.cells #[.int .i64 x.V, .int .i64 x.W, .int .i64 x.H, .int .i64 x.K, .int .i64 x.L, .int .i64 x.D, .int .i64 x.N, .int .i64 x.M, .int .i64 x.E.R, .int .i64 x.E.C, .slice x.E.O x.E.n x.E.c, .slice x.tO x.tn x.tc, .slice x.yO x.yn x.yc, .slice x.F.O x.F.n x.F.c, .int .i64 x.Q.R, .int .i64 x.Q.C, .slice x.Q.O x.Q.n x.Q.c, .slice x.mO x.mn x.mc] 46)
  have HH := hidd hh
  have hnc := hh.le
  have hnt := hh.top
  unfold maxLen at hnt
  have HW := hidd hW
  clear hh hW
  go_enter Try.func16, Try.ntmps16
  go_upto_region 1 with fail
  generalize w.alloc (.cells #[.int .i64 x.V, .int .i64 x.W, .int .i64 x.H, .int .i64 x.K, .int .i64 x.L, .int .i64 x.D, .int .i64 x.N, .int .i64 x.M, .int .i64 x.E.R, .int .i64 x.E.C, .slice x.E.O x.E.n x.E.c, .slice x.tO x.tn x.tc, .slice x.yO x.yn x.yc, .slice x.F.O x.F.n x.F.c, .int .i64 x.Q.R, .int .i64 x.Q.C, .slice x.Q.O x.Q.n x.Q.c, .slice x.mO x.mn x.mc] 46) = wa at *
  have HC1 : Hid (wa.cell? ⟨w.heap.size, 1, none⟩ = some (.int .i64 (C : Int))) := by show _ = _; rw [← HW.out]; exact hr.cell (i := 1) (by decide)
  have hsz := hr.lt
  clear hr HW
  go_wp2
  go_loopw [5, 6, 7] (fun v i _ wr => ∃ k : Nat, k ≤ C ∧ i = .int .i64 (k : Int) ∧ Own wr wa.heap.size 57 1 v k (fun i => .int .i8 (fitF f n i)) ∧ Below wa.heap.size wa wr) (fun _ i _ _ => C - (intOf i).toNat)
  case atStart => exact ⟨0, Nat.zero_le _, by simp, own_nil _ _ _ _ _, Below.refl _ _⟩
  case round =>
    obtain ⟨k, hk, rfl, hown, hf⟩ := hrel
    obtain ⟨p, uc, rfl, _⟩ := hown.rd
    have c1 := fresh_cell hf HC1.out
    have hsz2 := hf.size
    by_cases hlt : k < C
    · have i0 : (0 : Int) ≤ (k : Int) := by omega
      have i1 : (k : Int) < (C : Int) := by omega
      by_cases hkn : k < n
      · obtain ⟨b, off, rfl, hcell⟩ := (HH.out.fresh (fresh_trans f1 hf)).one (by omega)
        have ck := hcell k hkn
        have i2 : (k : Int) < (n : Int) := by omega
        have HN : Hid (∀ (w0 : World) (t : TypeId), (w0.alloc (.cells #[.int .i8 (f k)] t)).cell? ⟨w0.heap.size, 0, none⟩ = some (.int .i8 (fitF f n k))) := fun w0 t => by rw [new_cell, fitF_lt hkn]
        have HO := hidd (hown.kept (fresh_alloc wr (.cells #[.int .i8 (f k)] 57)))
        have HFA := hidd (fresh_trans hf (fresh_alloc wr (.cells #[.int .i8 (f k)] 57)))
        clear hcell
        go_wp2_with (at_builtin; refine wpList_app1 _ rfl _ _ 39 rfl wa.heap.size 57 (.int .i8 0) 1 Try.underlying39 infoI8 rfl _ k (fun i => .int .i8 (fitF f n i)) rfl HO.out wr.heap.size 1 rfl (HN.out _ _) rfl (by omega) (by omega) HFA.out.size ?_)
        rintro v' w2 hown' happ
        have HB := hidd (happ.below HFA.out HO.out (Nat.le_refl _) HFA.out.size)
        clear happ HO HFA HN
        go_wp2
        go_roundw
        case rel => exact ⟨k + 1, by omega, by go_num, hown', HB.out⟩
        case measure => simp [intOf]; omega
      · have i2 : ¬ ((k : Int) < (n : Int)) := by omega
        have HN : Hid (∀ (w0 : World) (t : TypeId), (w0.alloc (.cells #[.int .i8 (IntKind.i8.wrap (3 - (k : Int)))] t)).cell? ⟨w0.heap.size, 0, none⟩ = some (.int .i8 (fitF f n k))) := fun w0 t => by rw [new_cell, fitF_ge hkn]
        have HO := hidd (hown.kept (fresh_alloc wr (.cells #[.int .i8 (IntKind.i8.wrap (3 - (k : Int)))] 57)))
        have HFA := hidd (fresh_trans hf (fresh_alloc wr (.cells #[.int .i8 (IntKind.i8.wrap (3 - (k : Int)))] 57)))
        go_wp2_with (at_builtin; refine wpList_app1 _ rfl _ _ 39 rfl wa.heap.size 57 (.int .i8 0) 1 Try.underlying39 infoI8 rfl _ k (fun i => .int .i8 (fitF f n i)) rfl HO.out wr.heap.size 1 rfl (HN.out _ _) rfl (by omega) (by omega) HFA.out.size ?_)
        rintro v' w2 hown' happ
        have HB := hidd (happ.below HFA.out HO.out (Nat.le_refl _) HFA.out.size)
        clear happ HO HFA HN
        go_wp2
        go_roundw
        case rel => exact ⟨k + 1, by omega, by go_num, hown', HB.out⟩
        case measure => simp [intOf]; omega
    · obtain rfl : k = C := by omega
      have hnl : ¬ ((k : Int) < (k : Int)) := by omega
      go_wp2
      go_ret
      exact ⟨p, uc, rfl, hown.weaken (by omega), fresh_trans f1 hf⟩
end Go.Proofs.Ytlnbbnojkpdccaa
namespace Go.Proofs.Ytlnbbnojkpdccaa
open Go.RowKit
/-! A round of HeadsGuesses. -/
noncomputable def loopG : Code := (loopsOf (Try.f8.body.getD .skip)).headD .skip
def LF5 (B : Nat) (hu : Option Addr) (C hc : Nat) (lu : Option Addr) (n lc k : Nat) (a : Act) : Prop := ∃ u : Nat → Value, u 2 = .pointer (some ⟨B, 0, none⟩) ∧ u 9 = .slice hu C hc ∧ u 10 = .slice lu n lc ∧ u 12 = .int .i64 (k : Int) ∧ a = { tmps := #[u 0, u 1, u 2, u 3, u 4, u 5, u 6, u 7, u 8, u 9, u 10, u 11, u 12, u 13, u 14, u 15, u 16, u 17, u 18, u 19, u 20, u 21, u 22, u 23, u 24, u 25, u 26, u 27, u 28, u 29, u 30, u 31, u 32, u 33, u 34, u 35, u 36, u 37, u 38, u 39, u 40, u 41, u 42, u 43, u 44, u 45, u 46, u 47, u 48, u 49, u 50, u 51, u 52, u 53, u 54, u 55, u 56, u 57, u 58, u 59, u 60, u 61, u 62, u 63, u 64, u 65, u 66, u 67, u 68, u 69, u 70, u 71, u 72, u 73, u 74, u 75, u 76, u 77, u 78, u 79, u 80, u 81, u 82, u 83, u 84, u 85, u 86, u 87, u 88, u 89, u 90, u 91, u 92, u 93, u 94, u 95], defers := [] }
set_option maxRecDepth 10000 in
theorem LF5.of {B : Nat} {hu : Option Addr} {C hc : Nat} {lu : Option Addr} {n lc k : Nat} {t : Array Value} (h : t.size = 96) (h2 : t.getD 2 undef = .pointer (some ⟨B, 0, none⟩)) (h9 : t.getD 9 undef = .slice hu C hc) (h10 : t.getD 10 undef = .slice lu n lc) (h12 : t.getD 12 undef = .int .i64 (k : Int)) : LF5 B hu C hc lu n lc k { tmps := t, defers := [] } :=
  ⟨fun i => t.getD i undef, h2, h9, h10, h12, congrArg (fun x => Act.mk x []) (arr_lit t 96 h)⟩
/-- what the loop of HeadsGuesses reads -/
structure Gk (w w0 : World) (x : WtD) (B : Nat) (hu : Option Addr) (C hc : Nat) (hf : Nat → Int) (lu : Option Addr) (lc R : Nat) (bb : Nat → Nat) : Prop where
  rd : WtR w x
  may : x.may
  fits : WtP x
  V : x.V = (R : Int)
  W : x.W = (C : Int)
  R1 : R ≤ 1048576
  box : w.rowIs B 46 18 (wtc x)
  hid : RdA w hu 1 C hc (fun i => .int .i8 (hf i))
  bd : ∀ i, i < C → -128 ≤ hf i ∧ hf i ≤ 127
  gs : Gs w0 w (.slice lu x.mn lc) x.mn R C x.md hf bb
theorem Gk.fresh {w w' w0 : World} {x : WtD} {B : Nat} {hu : Option Addr} {C hc : Nat} {hf : Nat → Int} {lu : Option Addr} {lc R : Nat} {bb : Nat → Nat} (h : Gk w w0 x B hu C hc hf lu lc R bb) (f : Below w.heap.size w w') : Gk w' w0 x B hu C hc hf lu lc R bb :=
  ⟨h.rd.fresh f, h.may, h.fits, h.V, h.W, h.R1, row_fresh h.box f, h.hid.fresh f, h.bd, h.gs.fresh f⟩
theorem isa_sm {x y : WtD} {k : Nat} (hs : Sm x y) (hm : x.may) (hp : WtP x) (hk : k < x.mn) (p : Option Addr) (c : Nat) : WtD.may { y with Q := { x.md k with O := p, c := c } } ∧ WtP { y with Q := { x.md k with O := p, c := c } } := by
  have h1 := hs.may hm
  have h2 := hs.wtp hp
  obtain ⟨a1, a2, _⟩ := hs.bs.cfg
  refine ⟨h1, ⟨h2.E, ?_, h2.F, h2.T, h2.yn, h2.mn, h2.y, h2.m⟩⟩
  have h3 := hp.m k hk
  show MtD.isa { x.md k with O := p, c := c } y.V y.W
  rw [a1, a2]
  exact h3
set_option maxRecDepth 100000 in
set_option maxHeartbeats 40000000 in
theorem roundG {w0 wr : World} {x : WtD} {B : Nat} {hu : Option Addr} {C hc : Nat} {hf : Nat → Int} {lu : Option Addr} {lc R k : Nat} {bb : Nat → Nat} (HK : Hid (Gk wr w0 x B hu C hc hf lu lc R bb)) (hlt : k < x.mn) (hmn : x.mn ≤ 1048576)
    (a : Act) (ha : LF5 B hu C hc lu x.mn lc k a) (K : Act → World → Prop) (HR : Hid (∀ a' w', LF5 B hu C hc lu x.mn lc (k + 1) a' → Below wr.heap.size wr w' → K a' w')) :
    loopG.wp Try.prog (Exit.then K (fun _ _ _ => False)) a wr := by
  conv => arg 2; whnf
  obtain ⟨u, e2, e9, e10, e12, rfl⟩ := ha
  rw [e2, e9, e10, e12]
  clear e2 e9 e10 e12
  have i0 : (0 : Int) ≤ (k : Int) := by omega
  have i1 : (k : Int) < (x.mn : Int) := by omega
  have hll := HK.out.gs.own.rda.le
  have hlt2 := HK.out.gs.own.rda.top
  unfold maxLen at hlt2
  obtain ⟨T, hT⟩ : ∃ T, T = wtA x := ⟨_, rfl⟩
  have RG : Hid (wr.rangeAt B 0 T.toList) := by rw [hT]; exact row_range HK.out.box rfl
  have SL : Hid ((Try.prog.info? 46).map (·.size) = some T.toList.length) := by rw [hT]; exact sizeW
  have HCW : Hid (Calls Try.prog 19 #[.agg T] wr fun e w' => ∃ y, e = .returned (.agg (wtA y)) ∧ WtR w' y ∧ Sm x y ∧ Below wr.heap.size wr w') := by
    show Calls _ _ _ _ _
    rw [hT]
    exact (copyW_any HK.out.rd (HK.out.fits.b HK.out.may)).mono fun e w' ⟨y, h1, h2⟩ => ⟨y, h1, h2.wtr HK.out.rd, h2.sm, h2.low⟩
  clear hT
  go_wp2_with (refine wpList_load_mid rfl 46 _ rfl B 0 rfl T.toList _ RG.out Try.underlying46 rfl SL.out ?_)
  refine HCW.out.mono ?_
  rintro e w1 ⟨y, rfl, hy, hs, f1⟩
  have HY := hidd hy
  have HS := hidd hs
  have F1 := hidd f1
  clear HCW RG SL hy hs f1
  obtain ⟨T9, hT9⟩ : ∃ T9, T9 = wtA y := ⟨_, rfl⟩
  rw [← hT9]
  have S18 : Hid ((Try.prog.info? 46).map (·.size) = some T9.size) := by rw [hT9]; exact sizeW
  have H1 : Hid (T9.all (·.oneCell') = true) := by rw [hT9]; exact wtA_one y
  have HOZ : Hid ((#[.int .i64 0, .int .i64 0, .int .i64 0, .int .i64 0, .int .i64 0, .int .i64 0, .int .i64 0, .int .i64 0, .int .i64 0, .int .i64 0, .slice none 0 0, .slice none 0 0, .slice none 0 0, .slice none 0 0, .int .i64 0, .int .i64 0, .slice none 0 0, .slice none 0 0] : Array Value).size = T9.size) := by rw [hT9]; rfl
  have HZH : Hid ((w1.alloc (.cells #[.int .i64 0, .int .i64 0, .int .i64 0, .int .i64 0, .int .i64 0, .int .i64 0, .int .i64 0, .int .i64 0, .int .i64 0, .int .i64 0, .slice none 0 0, .slice none 0 0, .slice none 0 0, .slice none 0 0, .int .i64 0, .int .i64 0, .slice none 0 0, .slice none 0 0] 46)).heap[w1.heap.size]? = some (.cells #[.int .i64 0, .int .i64 0, .int .i64 0, .int .i64 0, .int .i64 0, .int .i64 0, .int .i64 0, .int .i64 0, .int .i64 0, .int .i64 0, .slice none 0 0, .slice none 0 0, .slice none 0 0, .slice none 0 0, .int .i64 0, .int .i64 0, .slice none 0 0, .slice none 0 0] 46 (0, 0))) := heap_new _ _
  have HEQ : Hid ((w1.alloc (.cells #[.int .i64 0, .int .i64 0, .int .i64 0, .int .i64 0, .int .i64 0, .int .i64 0, .int .i64 0, .int .i64 0, .int .i64 0, .int .i64 0, .slice none 0 0, .slice none 0 0, .slice none 0 0, .slice none 0 0, .int .i64 0, .int .i64 0, .slice none 0 0, .slice none 0 0] 46)).setRow w1.heap.size T9 = w1.alloc (.cells T9 46)) := World.setRow_alloc_new _ _ _ _
  have HRW : Hid ((w1.alloc (.cells T9 46)).rowIs w1.heap.size 46 18 (wtc y)) := by rw [hT9]; exact World.rowIs_list w1 (wtL y) 46
  have f2 := fresh_alloc w1 (.cells T9 46)
  clear hT9
  go_upto_region 15 with (refine wpList_store_row rfl 46 _ _ rfl w1.heap.size T9 rfl rfl 46 _ HZH.out S18.out HOZ.out H1.out ?_)
  rw [HEQ.out]
  clear HEQ HZH HOZ H1 S18
  generalize w1.alloc (.cells T9 46) = w2 at *
  have F2 := hidd f2
  have HK2 := hidd ((HK.out.fresh F1.out).fresh f2)
  clear f2
  have b17 : w2.cell? ⟨B, 17, none⟩ = some (.slice x.mO x.mn x.mc) := HK2.out.box.cell (i := 17) (by decide)
  obtain ⟨mb, mf, em, hmc⟩ := HK2.out.rd.mat (by omega)
  obtain ⟨d0, d1, d2⟩ := hmc k hlt
  have hml := HK2.out.rd.mle
  have hmt := HK2.out.rd.mtop
  unfold maxLen at hmt
  rw [em] at b17
  have HCM : Hid (Calls Try.prog 22 #[.agg #[.int .i64 (x.md k).R, .int .i64 (x.md k).C, .slice (x.md k).O (x.md k).n (x.md k).c]] w2 fun e w' => ∃ p c, e = .returned (.agg #[.int .i64 (x.md k).R, .int .i64 (x.md k).C, .slice p (x.md k).n c]) ∧ Own w' w2.heap.size 57 1 (.slice p (x.md k).n c) (x.md k).n (fun i => .int .i8 ((x.md k).f i)) ∧ Below w2.heap.size w2 w') := copyM_any (HK2.out.rd.mr k hlt) ((HK2.out.fits.b HK2.out.may).m k hlt)
  clear hmc
  go_wp2_with fail
  refine HCM.out.mono ?_
  rintro e w3 ⟨p, c, rfl, ho, f3⟩
  have HO := hidd ho
  have F3 := hidd f3
  have HRW3 := hidd (row_fresh HRW.out f3)
  have HK3 := hidd (HK2.out.fresh f3)
  clear b17 d0 d1 d2 ho f3 HCM HRW HK2 em hml hmt
  have s14 : ∃ v, w3.cell? ⟨w1.heap.size, 14, none⟩ = some v := ⟨_, HRW3.out.cell (i := 14) (by decide)⟩
  have s15 : ∃ v, w3.cell? ⟨w1.heap.size, 15, none⟩ = some v := ⟨_, HRW3.out.cell (i := 15) (by decide)⟩
  have s16 : ∃ v, w3.cell? ⟨w1.heap.size, 16, none⟩ = some v := ⟨_, HRW3.out.cell (i := 16) (by decide)⟩
  obtain ⟨v14, s14⟩ := s14
  obtain ⟨v15, s15⟩ := s15
  obtain ⟨v16, s16⟩ := s16
  have fz : ∀ j, w3.frozen? ⟨w1.heap.size, j, none⟩ = false := HRW3.out.frozen
  go_upto_region 16 with fail
  have HB4 : Hid (∀ a b c, Below w1.heap.size w1 (((w3.setCell ⟨w1.heap.size, 14, none⟩ a).setCell ⟨w1.heap.size, 15, none⟩ b).setCell ⟨w1.heap.size, 16, none⟩ c)) := fun a b c => (((fresh_trans F2.out F3.out).setCell (Nat.le_refl _) _).setCell (Nat.le_refl _) _).setCell (Nat.le_refl _) _
  have HRW4 := hidd (putw_Q HRW3.out { x.md k with O := p, c := c })
  have HO4 := hidd (Own.set3 (j0 := 14) (j1 := 15) (j2 := 16) (x0 := .int .i64 (x.md k).R) (x1 := .int .i64 (x.md k).C) (x2 := .slice p (x.md k).n c) HO.out (Own.apart HO.out HRW3.out (by decide)))
  have F4 := hidd (HB4.out (.int .i64 (x.md k).R) (.int .i64 (x.md k).C) (.slice p (x.md k).n c))
  clear s14 s15 s16 fz HRW3 HO HB4
  generalize ((w3.setCell ⟨w1.heap.size, 14, none⟩ (.int .i64 (x.md k).R)).setCell ⟨w1.heap.size, 15, none⟩ (.int .i64 (x.md k).C)).setCell ⟨w1.heap.size, 16, none⟩ (.slice p (x.md k).n c) = w4 at *
  obtain ⟨v, hv⟩ : ∃ v : WtD, v = { y with Q := { x.md k with O := p, c := c } } := ⟨_, rfl⟩
  have HV : Hid (WtR w4 v ∧ v.may ∧ WtP v ∧ v.V = (R : Int) ∧ v.W = (C : Int) ∧ v.Q.f = (x.md k).f) := by
    obtain ⟨a1, a2, _⟩ := HS.out.bs.cfg
    have h1 := isa_sm HS.out HK3.out.may HK3.out.fits hlt p c
    have h2 := HY.out.fresh F4.out
    rw [hv]
    exact ⟨⟨h2.E, h2.T, h2.F, ⟨Own.rda HO4.out, (HK3.out.rd.mr k hlt).bd⟩, h2.yle, h2.ytop, h2.yat, h2.yr, h2.mle, h2.mtop, h2.mat, h2.mr⟩, h1.1, h1.2, a1.trans HK3.out.V, a2.trans HK3.out.W, rfl⟩
  rw [← hv] at HRW4
  obtain ⟨T8, hT8⟩ : ∃ T8, T8 = wtA v := ⟨_, rfl⟩
  have RG : Hid (w4.rangeAt w1.heap.size 0 T8.toList) := by rw [hT8]; exact row_range HRW4.out rfl
  have SL : Hid ((Try.prog.info? 46).map (·.size) = some T8.toList.length) := by rw [hT8]; exact sizeW
  have HNW : Hid (Calls Try.prog 20 #[.agg T8] w4 fun e w' => ∃ y' g, e = .returned (.tuple #[.pointer (some ⟨g, 0, none⟩), .int .i64 0]) ∧ Mdl w' g v y' ∧ w4.heap.size ≤ g ∧ Below w4.heap.size w4 w') := by
    show Calls _ _ _ _ _
    rw [hT8]
    exact new_ok HV.out.1 HV.out.2.1 HV.out.2.2.1
  have FR := hidd (fresh_trans F1.out F4.out)
  clear hT8 hv HRW4 HO4 HS HY F1 F2 F3 F4 HK3
  go_wp2_with (refine wpList_load_mid rfl 46 _ rfl w1.heap.size 0 rfl T8.toList _ RG.out Try.underlying46 rfl SL.out ?_)
  refine HNW.out.mono ?_
  rintro e w5 ⟨y', g, rfl, hmd, _, f5⟩
  have HM := hidd hmd
  have F5 := hidd (fresh_trans FR.out f5)
  clear hmd f5 HNW RG SL FR
  have HLG : Hid (Calls Try.prog 17 #[.pointer (some ⟨g, 0, none⟩), .slice hu C hc] w5 fun e w' => ∃ b F, e = .returned (.tuple #[.slice (some ⟨b, 0, none⟩) R R, .int .i64 0]) ∧ w5.heap.size ≤ b ∧ w'.rowIs b 2 R F ∧ (∀ r, r < R → F r = .int .i64 (mv (x.md k).f hf C r)) ∧ Below w5.heap.size w5 w') := by
    have h9 := HV.out
    have := logits_ok HM.out (HM.out.b h9.2.1 h9.2.2.1) h9.2.2.2.1 h9.2.2.2.2.1 HK.out.R1 h9.2.2.1.Q (HK.out.hid.fresh F5.out) HK.out.bd
    rw [h9.2.2.2.2.2] at this
    exact this
  go_wp2_with fail
  refine HLG.out.mono ?_
  rintro e w6 ⟨b, F, rfl, _, hrow, hF, f6⟩
  have F6 := hidd (fresh_trans F5.out f6)
  have HK6 := hidd (HK.out.fresh F6.out)
  obtain ⟨lb, lo, el, hlc⟩ := HK6.out.gs.own.rda.one (by omega)
  have ck := hlc k hlt
  obtain ⟨_, G, hG1, hG2⟩ := HK6.out.gs.rows k hlt
  have HQ : Hid (Calls Try.prog 23 #[.slice (some ⟨b, 0, none⟩) R R, .slice (some ⟨bb k, 0, none⟩) R R] w6 fun e w' => e = .returned (.bool true) ∧ Below w6.heap.size w6 w') :=
    eqw_rows (f := fun r => mv (x.md k).f hf C r) (g := fun r => mv (x.md k).f hf C r) ((rowIs_rd hrow (by unfold maxLen; have := HK6.out.R1; omega)).congr (fun j hj => hF j (by omega))) ((rowIs_rd hG1 (by unfold maxLen; have := HK6.out.R1; omega)).congr (fun j hj => hG2 j (by omega))) (fun _ _ => rfl)
  clear f6 hrow hF hG1 hG2 hlc HLG HM F5 HV
  rw [el]
  go_wp2_with fail
  refine HQ.out.mono ?_
  rintro e w7 ⟨rfl, f7⟩
  have F7 := hidd (fresh_trans F6.out f7)
  have EL := hidd el
  clear HQ f7 F6 HK6 ck el
  go_wp2
  exact HR.out _ _ (LF5.of rfl rfl rfl (by rw [EL.out]; rfl) (by first | rfl | simp)) F7.out
end Go.Proofs.Ytlnbbnojkpdccaa
namespace Go.Proofs.Ytlnbbnojkpdccaa
open Go.RowKit
/-! The law HeadsGuesses. -/
set_option maxRecDepth 100000 in
set_option maxHeartbeats 8000000 in
theorem guesses_law {w : World} {x : WtD} (hx : WtR w x) {ho : Option Addr} {n hc : Nat} {f : Nat → Int} (hh : RdA w ho 1 n hc (fun i => .int .i8 (f i))) (hg : ∀ i, i < n → -128 ≤ f i ∧ f i ≤ 127) :
    Calls Try.prog 8 #[.agg #[.int .i64 x.V, .int .i64 x.W, .int .i64 x.H, .int .i64 x.K, .int .i64 x.L, .int .i64 x.D, .int .i64 x.N, .int .i64 x.M, .int .i64 x.E.R, .int .i64 x.E.C, .slice x.E.O x.E.n x.E.c, .slice x.tO x.tn x.tc, .slice x.yO x.yn x.yc, .slice x.F.O x.F.n x.F.c, .int .i64 x.Q.R, .int .i64 x.Q.C, .slice x.Q.O x.Q.n x.Q.c, .slice x.mO x.mn x.mc], .slice ho n hc] w (RfP w) := by
  obtain ⟨T, hT⟩ : ∃ T, T = wtA x := ⟨_, rfl⟩
  have hr : (w.alloc (.cells #[.int .i64 x.V, .int .i64 x.W, .int .i64 x.H, .int .i64 x.K, .int .i64 x.L, .int .i64 x.D, .int .i64 x.N, .int .i64 x.M, .int .i64 x.E.R, .int .i64 x.E.C, .slice x.E.O x.E.n x.E.c, .slice x.tO x.tn x.tc, .slice x.yO x.yn x.yc, .slice x.F.O x.F.n x.F.c, .int .i64 x.Q.R, .int .i64 x.Q.C, .slice x.Q.O x.Q.n x.Q.c, .slice x.mO x.mn x.mc] 46)).rowIs w.heap.size 46 18 (wtc x) := World.rowIs_list w (wtL x) 46
  have f1 := fresh_alloc w (.cells #[.int .i64 x.V, .int .i64 x.W, .int .i64 x.H, .int .i64 x.K, .int .i64 x.L, .int .i64 x.D, .int .i64 x.N, .int .i64 x.M, .int .i64 x.E.R, .int .i64 x.E.C, .slice x.E.O x.E.n x.E.c, .slice x.tO x.tn x.tc, .slice x.yO x.yn x.yc, .slice x.F.O x.F.n x.F.c, .int .i64 x.Q.R, .int .i64 x.Q.C, .slice x.Q.O x.Q.n x.Q.c, .slice x.mO x.mn x.mc] 46)
  have SL : Hid ((Try.prog.info? 46).map (·.size) = some T.toList.length) := by rw [hT]; exact sizeW
  have HRG : Hid (∀ z, Below (w.alloc (.cells #[.int .i64 x.V, .int .i64 x.W, .int .i64 x.H, .int .i64 x.K, .int .i64 x.L, .int .i64 x.D, .int .i64 x.N, .int .i64 x.M, .int .i64 x.E.R, .int .i64 x.E.C, .slice x.E.O x.E.n x.E.c, .slice x.tO x.tn x.tc, .slice x.yO x.yn x.yc, .slice x.F.O x.F.n x.F.c, .int .i64 x.Q.R, .int .i64 x.Q.C, .slice x.Q.O x.Q.n x.Q.c, .slice x.mO x.mn x.mc] 46)).heap.size (w.alloc (.cells #[.int .i64 x.V, .int .i64 x.W, .int .i64 x.H, .int .i64 x.K, .int .i64 x.L, .int .i64 x.D, .int .i64 x.N, .int .i64 x.M, .int .i64 x.E.R, .int .i64 x.E.C, .slice x.E.O x.E.n x.E.c, .slice x.tO x.tn x.tc, .slice x.yO x.yn x.yc, .slice x.F.O x.F.n x.F.c, .int .i64 x.Q.R, .int .i64 x.Q.C, .slice x.Q.O x.Q.n x.Q.c, .slice x.mO x.mn x.mc] 46)) z → z.rangeAt w.heap.size 0 T.toList) := fun z hz => by rw [hT]; exact row_range (row_fresh hr hz) rfl
  have HFX : Hid (∀ z, Calls Try.prog 9 #[] z fun e w' => e = .returned (.bool true) ∧ Below z.heap.size z w') := fun z => fixed_any z
  have HT := hidd hT
  have HR := hidd hr
  have HX := hidd hx
  have HH := hidd hh
  have HG := hidd hg
  have hnc := hh.le
  have hnt := hh.top
  unfold maxLen at hnt
  clear hr hT hx hh hg
  by_cases hfit : x.may ∧ WtP x
  · obtain ⟨hm, hp⟩ := hfit
    have HMD : Hid (∀ z, Below w.heap.size w z → Calls Try.prog 15 #[.agg T] z fun e w' => ∃ y g, e = .returned (.tuple #[.pointer (some ⟨g, 0, none⟩), .bool true, .bool true]) ∧ Mdl w' g x y ∧ Below z.heap.size z w') := fun z hz => by rw [HT.out]; exact made_ok (HX.out.fresh hz) hm hp
    obtain ⟨R, C, hV, hW, hR1, hR2, hC1, hC2⟩ := may_nat hm
    have HFT : Hid (∀ z, Below w.heap.size w z → Calls Try.prog 16 #[.agg T, .slice ho n hc] z fun e w' => ∃ u c, e = .returned (.slice u C c) ∧ Own w' z.heap.size 57 1 (.slice u C c) C (fun i => .int .i8 (fitF f n i)) ∧ Below z.heap.size z w') := fun z hz => by rw [HT.out]; exact fitv_any hW hC2 (HH.out.fresh hz)
    have HGO : Hid (∀ z g y u c, Mdl z g x y → RdA z u 1 C c (fun i => .int .i8 (fitF f n i)) → Calls Try.prog 21 #[.pointer (some ⟨g, 0, none⟩), .slice u C c] z fun e w' => ∃ u c, e = .returned (.tuple #[.slice u x.mn c, .int .i64 0]) ∧ GsE z w' (.slice u x.mn c) x.mn R C x.md (fitF f n) ∧ Below z.heap.size z w') := fun z g y u c hmd hrd => guesses_ok hmd (hmd.b hm hp) hV hW hR2 hp.m (hp.b hm).M hrd (fun i _ => fitF_bd HG.out i)
    have HMN : Hid ((x.mn : Int) = x.M) := hp.mn
    have hmb : x.mn ≤ 1048576 := (hp.b hm).M
    have HMP := hidd (And.intro hm hp)
    have HVW := hidd (And.intro hV hW)
    clear hV hW hm hp
    go_enter Try.func8, Try.ntmps8
    go_upto_region 1 with fail
    have HR1 := hidd (HR.out)
    generalize hwa : w.alloc (.cells #[.int .i64 x.V, .int .i64 x.W, .int .i64 x.H, .int .i64 x.K, .int .i64 x.L, .int .i64 x.D, .int .i64 x.N, .int .i64 x.M, .int .i64 x.E.R, .int .i64 x.E.C, .slice x.E.O x.E.n x.E.c, .slice x.tO x.tn x.tc, .slice x.yO x.yn x.yc, .slice x.F.O x.F.n x.F.c, .int .i64 x.Q.R, .int .i64 x.Q.C, .slice x.Q.O x.Q.n x.Q.c, .slice x.mO x.mn x.mc] 46) = wa at *
    clear hwa HR
    go_wp2_with fail
    refine (HFX.out _).mono ?_
    rintro e w0 ⟨rfl, f0⟩
    have F0 := hidd (fresh_trans f1 f0)
    have RG := hidd (HRG.out w0 f0)
    have HR0 := hidd (row_fresh HR1.out f0)
    clear f1 f0 HR1
    go_wp2_with (refine wpList_load_mid rfl 46 _ rfl w.heap.size 0 rfl T.toList _ RG.out Try.underlying46 rfl SL.out ?_)
    refine (HMD.out _ F0.out).mono ?_
    rintro e w1 ⟨y, g, rfl, hmd, f2⟩
    have F1 := hidd (fresh_trans F0.out f2)
    have HM1 := hidd hmd
    have HR1 := hidd (row_fresh HR0.out f2)
    replace RG : Hid (w1.rangeAt w.heap.size 0 T.toList) := by rw [HT.out]; exact row_range HR1.out rfl
    clear hmd f2 HMD HR0 F0 HRG
    go_wp2_with (refine wpList_load_mid rfl 46 _ rfl w.heap.size 0 rfl T.toList _ RG.out Try.underlying46 rfl SL.out ?_)
    refine (HFT.out _ F1.out).mono ?_
    rintro e w2 ⟨hu, hcc, rfl, ho2, f3⟩
    have F2 := hidd (fresh_trans F1.out f3)
    have HM2 := hidd (HM1.out.fresh f3)
    have HR2 := hidd (row_fresh HR1.out f3)
    have HO2 := hidd (Own.rda ho2)
    clear ho2 f3 F1 HM1 HR1 HFT RG
    go_wp2_with fail
    refine (HGO.out _ g y hu hcc HM2.out HO2.out).mono ?_
    rintro e w3 ⟨lu, lc, rfl, hgs, f4⟩
    obtain ⟨bb, hgs⟩ := hgs
    have F3 := hidd (fresh_trans F2.out f4)
    have HR3 := hidd (row_fresh HR2.out f4)
    have HGK : Hid (Gk w3 w2 x w.heap.size hu C hcc (fitF f n) lu lc R bb) := ⟨HX.out.fresh F3.out, HMP.out.1, HMP.out.2, HVW.out.1, HVW.out.2, hR2, HR3.out, HO2.out.fresh f4, fun i _ => fitF_bd HG.out i, hgs⟩
    have c7 : w3.cell? ⟨w.heap.size, 7, none⟩ = some (.int .i64 (x.mn : Int)) := by rw [HMN.out]; exact HR3.out.cell (i := 7) (by decide)
    have hll := hgs.own.rda.le
    have hlt2 := hgs.own.rda.top
    unfold maxLen at hlt2
    clear hgs f4 HR2 HR3 HO2 F2 HM2 HGO HFX SL HX HH HG HT HVW HMP HMN
    go_wp2
    refine loop_invP (c := loopG) (fun q a wz => ∃ k : Nat, q + k = x.mn ∧ LF5 w.heap.size hu C hcc lu x.mn lc k a ∧ Hid (Below w3.heap.size w3 wz)) x.mn ⟨0, by omega, LF5.of rfl rfl rfl rfl (by first | rfl | simp), Below.refl _ _⟩ ?_
    clear c7
    rintro q a wr ⟨k, hq, ha, HB⟩
    by_cases hlt : k < x.mn
    · refine then_only (fun _ _ h => h) (roundG (hidd (HGK.out.fresh HB.out)) hlt hmb a ha _ (hidd fun a' w' h1 h2 => ?_))
      exact ⟨q - 1, by omega, k + 1, by omega, h1, fresh_trans HB.out h2⟩
    · obtain rfl : k = x.mn := by omega
      obtain ⟨u, e2, e9, e10, e12, rfl⟩ := ha
      rw [e2, e9, e10, e12]
      clear e2 e9 e10 e12 hq
      conv => arg 2; whnf
      have hnl : ¬ ((x.mn : Int) < (x.mn : Int)) := by omega
      go_wp2
      go_ret
      exact ⟨rfl, fresh_trans F3.out HB.out⟩
  · have hie : ∃ er, IsE x er ∧ er ≠ 0 := by
      by_cases hm : x.may
      · exact ⟨41, .inr (.inl ⟨hm, fun hp => hfit ⟨hm, hp⟩, rfl⟩), by decide⟩
      · exact ⟨40, .inl ⟨hm, rfl⟩, by decide⟩
    obtain ⟨er, he, h0⟩ := hie
    have HMD : Hid (∀ z, Below w.heap.size w z → Calls Try.prog 15 #[.agg T] z fun e w' => e = .returned (.tuple #[.pointer none, .bool false, .bool true]) ∧ Below z.heap.size z w') := fun z hz => by rw [HT.out]; exact made_bad (HX.out.fresh hz) he h0
    clear he h0 hfit
    go_enter Try.func8, Try.ntmps8
    go_upto_region 1 with fail
    have HR1 := hidd (HR.out)
    generalize hwa : w.alloc (.cells #[.int .i64 x.V, .int .i64 x.W, .int .i64 x.H, .int .i64 x.K, .int .i64 x.L, .int .i64 x.D, .int .i64 x.N, .int .i64 x.M, .int .i64 x.E.R, .int .i64 x.E.C, .slice x.E.O x.E.n x.E.c, .slice x.tO x.tn x.tc, .slice x.yO x.yn x.yc, .slice x.F.O x.F.n x.F.c, .int .i64 x.Q.R, .int .i64 x.Q.C, .slice x.Q.O x.Q.n x.Q.c, .slice x.mO x.mn x.mc] 46) = wa at *
    clear hwa HR
    go_wp2_with fail
    refine (HFX.out _).mono ?_
    rintro e w0 ⟨rfl, f0⟩
    have F0 := hidd (fresh_trans f1 f0)
    have RG := hidd (HRG.out w0 f0)
    have HR0 := hidd (row_fresh HR1.out f0)
    clear f1 f0 HR1
    go_wp2_with (refine wpList_load_mid rfl 46 _ rfl w.heap.size 0 rfl T.toList _ RG.out Try.underlying46 rfl SL.out ?_)
    refine (HMD.out _ F0.out).mono ?_
    rintro e w1 ⟨rfl, f2⟩
    have F1 := hidd (fresh_trans F0.out f2)
    clear f2 HMD RG SL F0
    go_wp2
    go_ret
    exact ⟨rfl, F1.out⟩
end Go.Proofs.Ytlnbbnojkpdccaa
