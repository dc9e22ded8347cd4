import Derived.Test.YtilghknalbhacaaJAR
import Derived.Test.YtilghknalbhacaaJAV
namespace Go.Proofs.Ytilghknalbhacaa
open Go.RowKit
theorem row_ne {w : World} {a b n m : Nat} {t u : TypeId} {f g : Nat → Value} (h : w.rowIs a t n f) (k : w.rowIs b u m g) (e : t ≠ u) : a ≠ b := fun hab => by
  subst hab
  obtain ⟨c, h1, _⟩ := h
  obtain ⟨d, k1, _⟩ := k
  rw [h1] at k1
  injection k1 with k2
  injection k2 with _ k3
  exact e k3
theorem rda_row {w : World} {b n sz : Nat} {t : TypeId} {F cs : Nat → Value} (h : w.rowIs b t (n * sz) F) (hn : n ≤ maxLen) (e : ∀ j, j < n * sz → F j = cs j) : RdA w (some ⟨b, 0, none⟩) sz n n cs := ⟨Nat.le_refl _, hn, fun _ => ⟨b, 0, rfl, fun j hj => by rw [Nat.zero_add, h.cell hj, e j hj]⟩⟩
def f4 : Nat → Int | 0 => 1 | 1 => 2 | 2 => 3 | 3 => 4 | _ => 0
def fB : Nat → Int | 0 => 5 | 1 => -6 | _ => 0
def fC : Nat → Int | 0 => 7 | 1 => -8 | _ => 0
def fF : Nat → Int | 0 => 127 | 1 => -127 | _ => 0
def sh3 : Nat → Int | 3 => 24 | _ => 0
def twoM (b : Nat) : MtD := ⟨2, 2, some ⟨b, 0, none⟩, 4, 4, f4⟩
def flatM (b : Nat) : MtD := ⟨1, 2, some ⟨b, 0, none⟩, 2, 2, fB⟩
def tallM (b : Nat) : MtD := ⟨2, 1, some ⟨b, 0, none⟩, 2, 2, fC⟩
def lyM (b1 b2 b3 b4 : Nat) : LyD := ⟨⟨some ⟨b4, 0, none⟩, 2, 2, fun _ => 1⟩, ⟨some ⟨b4 + 1, 0, none⟩, 2, 2, fun _ => 2⟩, twoM b1, twoM b1, twoM b1, twoM b1, flatM b2, flatM b2, tallM b3, sh3⟩
theorem i4 : ∀ i, i < 4 → -128 ≤ f4 i ∧ f4 i ≤ 127 := by decide
theorem iB : ∀ i, i < 2 → -128 ≤ fB i ∧ fB i ≤ 127 := by decide
theorem iC : ∀ i, i < 2 → -128 ≤ fC i ∧ fC i ≤ 127 := by decide
theorem iF : ∀ i, i < 2 → -128 ≤ fF i ∧ fF i ≤ 127 := by decide
theorem g4 : ∀ i, i < 4 → -127 ≤ f4 i := by decide
theorem gB : ∀ i, i < 2 → -127 ≤ fB i := by decide
theorem gC : ∀ i, i < 2 → -127 ≤ fC i := by decide
theorem gF : ∀ i, i < 2 → -127 ≤ fF i := by decide
theorem shs : ∀ i, i < 7 → 0 ≤ sh3 i ∧ sh3 i ≤ 24 := by decide
theorem s22 : shp 2 2 4 = true := by decide
theorem s12 : shp 1 2 2 = true := by decide
theorem s21 : shp 2 1 2 = true := by decide
/-- the least weights -/
def lst (b1 b2 b3 b4 b7 : Nat) : WtD := ⟨2, 2, 1, 1, 1, 1, 1, 0, twoM b1, some ⟨b7, 0, none⟩, 1, 1, fun _ => 9, fun _ => -9, some ⟨b7 + 1, 0, none⟩, 1, 1, fun _ => lyM b1 b2 b3 b4, ⟨some ⟨b7 + 1 + 1, 0, none⟩, 2, 2, fF⟩, twoM b1, none, 0, 0, fun _ => mtO0⟩
theorem lst_rd {w : World} {b1 b2 b3 b4 b7 : Nat} (hA : w.rowIs b1 84 4 (fun i => ([.int .i8 1, .int .i8 2, .int .i8 3, .int .i8 4] : List Value).getD i undef)) (hB : w.rowIs b2 84 2 (fun i => ([.int .i8 5, .int .i8 (-6)] : List Value).getD i undef)) (hC : w.rowIs b3 84 2 (fun i => ([.int .i8 7, .int .i8 (-8)] : List Value).getD i undef)) (hD : w.rowIs b4 84 2 (fun i => ([.int .i8 1, .int .i8 1] : List Value).getD i undef)) (hE : w.rowIs (b4 + 1) 84 2 (fun i => ([.int .i8 2, .int .i8 2] : List Value).getD i undef))
    (hT : w.rowIs b7 97 2 (fun i => ([.int .i64 9, .int .i64 (-9)] : List Value).getD i undef)) (hY : w.rowIs (b7 + 1) 67 30 (fun i => ([.slice (some ⟨b4, 0, none⟩) 2 2, .slice (some ⟨b4 + 1, 0, none⟩) 2 2, .int .i64 2, .int .i64 2, .slice (some ⟨b1, 0, none⟩) 4 4, .int .i64 2, .int .i64 2, .slice (some ⟨b1, 0, none⟩) 4 4, .int .i64 2, .int .i64 2, .slice (some ⟨b1, 0, none⟩) 4 4, .int .i64 2, .int .i64 2, .slice (some ⟨b1, 0, none⟩) 4 4, .int .i64 1, .int .i64 2, .slice (some ⟨b2, 0, none⟩) 2 2, .int .i64 1, .int .i64 2, .slice (some ⟨b2, 0, none⟩) 2 2, .int .i64 2, .int .i64 1, .slice (some ⟨b3, 0, none⟩) 2 2, .int .i64 0, .int .i64 0, .int .i64 0, .int .i64 24, .int .i64 0, .int .i64 0, .int .i64 0] : List Value).getD i undef)) (hF : w.rowIs (b7 + 1 + 1) 84 2 (fun i => ([.int .i8 127, .int .i8 (-127)] : List Value).getD i undef)) : WtR w (lst b1 b2 b3 b4 b7) := by
  have mx : ∀ n, n ≤ 4 → n ≤ maxLen := fun n h => by unfold maxLen; omega
  have k2 : ∀ {P : Nat → Prop}, P 0 → P 1 → ∀ i, i < 2 → P i := fun h0 h1 i hi => by
    match i, hi with
    | 0, _ => exact h0
    | 1, _ => exact h1
  have k4 : ∀ {P : Nat → Prop}, P 0 → P 1 → P 2 → P 3 → ∀ i, i < 4 → P i := fun h0 h1 h2 h3 i hi => by
    match i, hi with
    | 0, _ => exact h0
    | 1, _ => exact h1
    | 2, _ => exact h2
    | 3, _ => exact h3
  have mA : MtR w (twoM b1) := ⟨rda_row (sz := 1) (n := 4) hA (mx 4 (by decide)) (k4 rfl rfl rfl rfl), i4⟩
  have mB : MtR w (flatM b2) := ⟨rda_row (sz := 1) (n := 2) hB (mx 2 (by decide)) (k2 rfl rfl), iB⟩
  have mC : MtR w (tallM b3) := ⟨rda_row (sz := 1) (n := 2) hC (mx 2 (by decide)) (k2 rfl rfl), iC⟩
  have n1 : LsR w ⟨some ⟨b4, 0, none⟩, 2, 2, fun _ => 1⟩ := ⟨rda_row (sz := 1) (n := 2) hD (mx 2 (by decide)) (k2 rfl rfl), fun _ _ => ⟨(by decide : (-128 : Int) ≤ 1), (by decide : (1 : Int) ≤ 127)⟩⟩
  have n2 : LsR w ⟨some ⟨b4 + 1, 0, none⟩, 2, 2, fun _ => 2⟩ := ⟨rda_row (sz := 1) (n := 2) hE (mx 2 (by decide)) (k2 rfl rfl), fun _ _ => ⟨(by decide : (-128 : Int) ≤ 2), (by decide : (2 : Int) ≤ 127)⟩⟩
  have nF : LsR w ⟨some ⟨b7 + 1 + 1, 0, none⟩, 2, 2, fF⟩ := ⟨rda_row (sz := 1) (n := 2) hF (mx 2 (by decide)) (k2 rfl rfl), iF⟩
  exact ⟨mA, rda_row (sz := 2) (n := 1) hT (mx 1 (by decide)) (k2 rfl rfl), nF, mA, Nat.le_refl _, mx 1 (by decide), fun _ => ⟨b7 + 1, 0, rfl, fun k hk => lyC_of (fun t ht => by
    have e : k = 0 := by have : k < 1 := hk; omega
    subst e
    have := hY.cell (i := t) ht
    rw [show 0 + 0 * 30 + t = t by omega, this]
    rfl)⟩, fun k _ => ⟨n1, n2, mA, mA, mA, mA, mB, mB, mC⟩, Nat.le_refl _, mx 0 (by decide), fun h => absurd h (by show ¬ 0 < 0; omega), fun k hk => absurd hk (by show ¬ k < 0; omega)⟩
theorem lst_may {b1 b2 b3 b4 b7 : Nat} : (lst b1 b2 b3 b4 b7).may := by show may 2 2 1 1 1 1 1 0; unfold may; decide
theorem lst_fit {b1 b2 b3 b4 b7 : Nat} : WtP (lst b1 b2 b3 b4 b7) := by
  have mA : (twoM b1).isa 2 2 := ⟨⟨s22, g4⟩, rfl, rfl⟩
  have mB : (flatM b2).isa 1 2 := ⟨⟨s12, gB⟩, rfl, rfl⟩
  have mC : (tallM b3).isa 2 1 := ⟨⟨s21, gC⟩, rfl, rfl⟩
  exact ⟨mA, mA, ⟨rfl, gF⟩, ⟨rfl, fun i _ => ⟨⟨(by decide : (-16384 : Int) ≤ 9), (by decide : (9 : Int) ≤ 16384)⟩, (by decide : (-16384 : Int) ≤ -9), (by decide : (-9 : Int) ≤ 16384)⟩⟩, rfl, rfl, fun k _ => ⟨⟨rfl, fun _ _ => (by decide : (-127 : Int) ≤ 1)⟩, ⟨rfl, fun _ _ => (by decide : (-127 : Int) ≤ 2)⟩, mA, mA, mA, mA, mB, mB, mC, shs⟩, fun k hk => absurd hk (by show ¬ k < 0; omega)⟩
theorem lst_sm {b1 b2 b3 b4 b7 : Nat} {y : WtD} (h : Sm (lst b1 b2 b3 b4 b7) y) : Sm (lst 0 0 0 0 0) y := by
  have hb := h.bs
  refine ⟨⟨hb.cfg, hb.E, hb.Q, hb.F, hb.T, hb.Y, hb.M⟩, fun j hj => ?_, fun j hj => h.mm j hj⟩
  obtain ⟨a1, a2, a3, a4⟩ := h.yy j hj
  refine ⟨a1, a2, fun q hq => ?_, a4⟩
  match q, hq with
  | 0, _ => exact a3 0 (by decide)
  | 1, _ => exact a3 1 (by decide)
  | 2, _ => exact a3 2 (by decide)
  | 3, _ => exact a3 3 (by decide)
  | 4, _ => exact a3 4 (by decide)
  | 5, _ => exact a3 5 (by decide)
  | 6, _ => exact a3 6 (by decide)
theorem lst_b {b1 b2 b3 b4 b7 : Nat} : WtB (lst b1 b2 b3 b4 b7) := WtP.b lst_may lst_fit
set_option maxRecDepth 100000 in
set_option maxHeartbeats 8000000 in
theorem least_any (w : World) :
    Calls Try.prog 28 #[] w fun e w' => ∃ y, e = .returned (.agg (wtA y)) ∧ Sm (lst 0 0 0 0 0) y ∧ WtR w' y ∧ Below w.heap.size w w' := by
  go_enter Try.func28, Try.ntmps28
  go_upto_region 1 with fail
  have HR := World.rowIs_list w [.int .i64 0, .int .i64 0, .int .i64 0, .int .i64 0, .int .i64 0, .int .i64 0, .int .i64 0, .int .i64 0, .int .i64 0, .int .i64 0, .slice none 0 0, .slice none 0 0, .slice none 0 0, .slice none 0 0, .int .i64 0, .int .i64 0, .slice none 0 0, .slice none 0 0] 34
  have F0 := fresh_alloc w (.cells #[.int .i64 0, .int .i64 0, .int .i64 0, .int .i64 0, .int .i64 0, .int .i64 0, .int .i64 0, .int .i64 0, .int .i64 0, .int .i64 0, .slice none 0 0, .slice none 0 0, .slice none 0 0, .slice none 0 0, .int .i64 0, .int .i64 0, .slice none 0 0, .slice none 0 0] 34)
  generalize (w.alloc (.cells #[.int .i64 0, .int .i64 0, .int .i64 0, .int .i64 0, .int .i64 0, .int .i64 0, .int .i64 0, .int .i64 0, .int .i64 0, .int .i64 0, .slice none 0 0, .slice none 0 0, .slice none 0 0, .slice none 0 0, .int .i64 0, .int .i64 0, .slice none 0 0, .slice none 0 0] 34)) = w0 at *
  go_upto_region 2 with (fail)
  have HA1 := World.rowIs_list w0 [.int .i8 1, .int .i8 2, .int .i8 3, .int .i8 4] 84
  replace HA1 := HA1.alloc (.cells #[.int .i64 2, .int .i64 2, .slice (some ⟨w0.heap.size, 0, none⟩) 4 4] 29)
  have HA2 := World.rowIs_list (w0.alloc (.cells #[.int .i8 1, .int .i8 2, .int .i8 3, .int .i8 4] 84)) [.int .i64 2, .int .i64 2, .slice (some ⟨w0.heap.size, 0, none⟩) 4 4] 29
  rw [show (w0.alloc (.cells #[.int .i8 1, .int .i8 2, .int .i8 3, .int .i8 4] 84)).heap.size = w0.heap.size + 1 from by simp] at HA2
  have ff : Below w0.heap.size w0 ((w0.alloc (.cells #[.int .i8 1, .int .i8 2, .int .i8 3, .int .i8 4] 84)).alloc (.cells #[.int .i64 2, .int .i64 2, .slice (some ⟨w0.heap.size, 0, none⟩) 4 4] 29)) := fresh_trans (fresh_alloc w0 _) (fresh_alloc (w0.alloc (.cells #[.int .i8 1, .int .i8 2, .int .i8 3, .int .i8 4] 84)) _)
  replace HR := row_fresh HR ff
  have F1 := fresh_trans F0 ff
  clear ff F0
  generalize ((w0.alloc (.cells #[.int .i8 1, .int .i8 2, .int .i8 3, .int .i8 4] 84)).alloc (.cells #[.int .i64 2, .int .i64 2, .slice (some ⟨w0.heap.size, 0, none⟩) 4 4] 29)) = w1 at *
  generalize w0.heap.size = b1 at *
  go_upto_region 3 with (fail)
  have HB1 := World.rowIs_list w1 [.int .i8 5, .int .i8 (-6)] 84
  replace HB1 := HB1.alloc (.cells #[.int .i64 1, .int .i64 2, .slice (some ⟨w1.heap.size, 0, none⟩) 2 2] 29)
  have HB2 := World.rowIs_list (w1.alloc (.cells #[.int .i8 5, .int .i8 (-6)] 84)) [.int .i64 1, .int .i64 2, .slice (some ⟨w1.heap.size, 0, none⟩) 2 2] 29
  rw [show (w1.alloc (.cells #[.int .i8 5, .int .i8 (-6)] 84)).heap.size = w1.heap.size + 1 from by simp] at HB2
  have ff : Below w1.heap.size w1 ((w1.alloc (.cells #[.int .i8 5, .int .i8 (-6)] 84)).alloc (.cells #[.int .i64 1, .int .i64 2, .slice (some ⟨w1.heap.size, 0, none⟩) 2 2] 29)) := fresh_trans (fresh_alloc w1 _) (fresh_alloc (w1.alloc (.cells #[.int .i8 5, .int .i8 (-6)] 84)) _)
  replace HR := row_fresh HR ff
  replace HA1 := row_fresh HA1 ff
  replace HA2 := row_fresh HA2 ff
  have F2 := fresh_trans F1 ff
  clear ff F1
  generalize ((w1.alloc (.cells #[.int .i8 5, .int .i8 (-6)] 84)).alloc (.cells #[.int .i64 1, .int .i64 2, .slice (some ⟨w1.heap.size, 0, none⟩) 2 2] 29)) = w2 at *
  generalize w1.heap.size = b2 at *
  go_upto_region 4 with (fail)
  have HC1 := World.rowIs_list w2 [.int .i8 7, .int .i8 (-8)] 84
  replace HC1 := HC1.alloc (.cells #[.int .i64 2, .int .i64 1, .slice (some ⟨w2.heap.size, 0, none⟩) 2 2] 29)
  have HC2 := World.rowIs_list (w2.alloc (.cells #[.int .i8 7, .int .i8 (-8)] 84)) [.int .i64 2, .int .i64 1, .slice (some ⟨w2.heap.size, 0, none⟩) 2 2] 29
  rw [show (w2.alloc (.cells #[.int .i8 7, .int .i8 (-8)] 84)).heap.size = w2.heap.size + 1 from by simp] at HC2
  have ff : Below w2.heap.size w2 ((w2.alloc (.cells #[.int .i8 7, .int .i8 (-8)] 84)).alloc (.cells #[.int .i64 2, .int .i64 1, .slice (some ⟨w2.heap.size, 0, none⟩) 2 2] 29)) := fresh_trans (fresh_alloc w2 _) (fresh_alloc (w2.alloc (.cells #[.int .i8 7, .int .i8 (-8)] 84)) _)
  replace HR := row_fresh HR ff
  replace HA1 := row_fresh HA1 ff
  replace HA2 := row_fresh HA2 ff
  replace HB1 := row_fresh HB1 ff
  replace HB2 := row_fresh HB2 ff
  have F3 := fresh_trans F2 ff
  clear ff F2
  generalize ((w2.alloc (.cells #[.int .i8 7, .int .i8 (-8)] 84)).alloc (.cells #[.int .i64 2, .int .i64 1, .slice (some ⟨w2.heap.size, 0, none⟩) 2 2] 29)) = w3 at *
  generalize w2.heap.size = b3 at *
  have ca0 : ((w3.alloc (.cells #[.int .i8 1, .int .i8 1] 84)).alloc (.cells #[.int .i8 2, .int .i8 2] 84)).cell? ⟨b1 + 1, 0, none⟩ = some (.int .i64 2) := ((HA2.alloc (.cells #[.int .i8 1, .int .i8 1] 84)).alloc (.cells #[.int .i8 2, .int .i8 2] 84)).cell (i := 0) (by simp)
  have ca1 : ((w3.alloc (.cells #[.int .i8 1, .int .i8 1] 84)).alloc (.cells #[.int .i8 2, .int .i8 2] 84)).cell? ⟨b1 + 1, 1, none⟩ = some (.int .i64 2) := ((HA2.alloc (.cells #[.int .i8 1, .int .i8 1] 84)).alloc (.cells #[.int .i8 2, .int .i8 2] 84)).cell (i := 1) (by simp)
  have ca2 : ((w3.alloc (.cells #[.int .i8 1, .int .i8 1] 84)).alloc (.cells #[.int .i8 2, .int .i8 2] 84)).cell? ⟨b1 + 1, 2, none⟩ = some (.slice (some ⟨b1, 0, none⟩) 4 4) := ((HA2.alloc (.cells #[.int .i8 1, .int .i8 1] 84)).alloc (.cells #[.int .i8 2, .int .i8 2] 84)).cell (i := 2) (by simp)
  have cb0 : ((w3.alloc (.cells #[.int .i8 1, .int .i8 1] 84)).alloc (.cells #[.int .i8 2, .int .i8 2] 84)).cell? ⟨b2 + 1, 0, none⟩ = some (.int .i64 1) := ((HB2.alloc (.cells #[.int .i8 1, .int .i8 1] 84)).alloc (.cells #[.int .i8 2, .int .i8 2] 84)).cell (i := 0) (by simp)
  have cb1 : ((w3.alloc (.cells #[.int .i8 1, .int .i8 1] 84)).alloc (.cells #[.int .i8 2, .int .i8 2] 84)).cell? ⟨b2 + 1, 1, none⟩ = some (.int .i64 2) := ((HB2.alloc (.cells #[.int .i8 1, .int .i8 1] 84)).alloc (.cells #[.int .i8 2, .int .i8 2] 84)).cell (i := 1) (by simp)
  have cb2 : ((w3.alloc (.cells #[.int .i8 1, .int .i8 1] 84)).alloc (.cells #[.int .i8 2, .int .i8 2] 84)).cell? ⟨b2 + 1, 2, none⟩ = some (.slice (some ⟨b2, 0, none⟩) 2 2) := ((HB2.alloc (.cells #[.int .i8 1, .int .i8 1] 84)).alloc (.cells #[.int .i8 2, .int .i8 2] 84)).cell (i := 2) (by simp)
  have cc0 : ((w3.alloc (.cells #[.int .i8 1, .int .i8 1] 84)).alloc (.cells #[.int .i8 2, .int .i8 2] 84)).cell? ⟨b3 + 1, 0, none⟩ = some (.int .i64 2) := ((HC2.alloc (.cells #[.int .i8 1, .int .i8 1] 84)).alloc (.cells #[.int .i8 2, .int .i8 2] 84)).cell (i := 0) (by simp)
  have cc1 : ((w3.alloc (.cells #[.int .i8 1, .int .i8 1] 84)).alloc (.cells #[.int .i8 2, .int .i8 2] 84)).cell? ⟨b3 + 1, 1, none⟩ = some (.int .i64 1) := ((HC2.alloc (.cells #[.int .i8 1, .int .i8 1] 84)).alloc (.cells #[.int .i8 2, .int .i8 2] 84)).cell (i := 1) (by simp)
  have cc2 : ((w3.alloc (.cells #[.int .i8 1, .int .i8 1] 84)).alloc (.cells #[.int .i8 2, .int .i8 2] 84)).cell? ⟨b3 + 1, 2, none⟩ = some (.slice (some ⟨b3, 0, none⟩) 2 2) := ((HC2.alloc (.cells #[.int .i8 1, .int .i8 1] 84)).alloc (.cells #[.int .i8 2, .int .i8 2] 84)).cell (i := 2) (by simp)
  have hb4 : w.heap.size ≤ w3.heap.size := F3.size
  have HZ : Hid ((((w3.alloc (.cells #[.int .i8 1, .int .i8 1] 84)).alloc (.cells #[.int .i8 2, .int .i8 2] 84)).alloc (.cells #[.slice none 0 0, .slice none 0 0, .int .i64 0, .int .i64 0, .slice none 0 0, .int .i64 0, .int .i64 0, .slice none 0 0, .int .i64 0, .int .i64 0, .slice none 0 0, .int .i64 0, .int .i64 0, .slice none 0 0, .int .i64 0, .int .i64 0, .slice none 0 0, .int .i64 0, .int .i64 0, .slice none 0 0, .int .i64 0, .int .i64 0, .slice none 0 0, .int .i64 0, .int .i64 0, .int .i64 0, .int .i64 0, .int .i64 0, .int .i64 0, .int .i64 0] 67)).heap[w3.heap.size + 1 + 1]? = some (.cells #[.slice none 0 0, .slice none 0 0, .int .i64 0, .int .i64 0, .slice none 0 0, .int .i64 0, .int .i64 0, .slice none 0 0, .int .i64 0, .int .i64 0, .slice none 0 0, .int .i64 0, .int .i64 0, .slice none 0 0, .int .i64 0, .int .i64 0, .slice none 0 0, .int .i64 0, .int .i64 0, .slice none 0 0, .int .i64 0, .int .i64 0, .slice none 0 0, .int .i64 0, .int .i64 0, .int .i64 0, .int .i64 0, .int .i64 0, .int .i64 0, .int .i64 0] 67 (0, 0))) := by have := heap_new ((w3.alloc (.cells #[.int .i8 1, .int .i8 1] 84)).alloc (.cells #[.int .i8 2, .int .i8 2] 84)) (.cells #[.slice none 0 0, .slice none 0 0, .int .i64 0, .int .i64 0, .slice none 0 0, .int .i64 0, .int .i64 0, .slice none 0 0, .int .i64 0, .int .i64 0, .slice none 0 0, .int .i64 0, .int .i64 0, .slice none 0 0, .int .i64 0, .int .i64 0, .slice none 0 0, .int .i64 0, .int .i64 0, .slice none 0 0, .int .i64 0, .int .i64 0, .slice none 0 0, .int .i64 0, .int .i64 0, .int .i64 0, .int .i64 0, .int .i64 0, .int .i64 0, .int .i64 0] 67); rwa [show ((w3.alloc (.cells #[.int .i8 1, .int .i8 1] 84)).alloc (.cells #[.int .i8 2, .int .i8 2] 84)).heap.size = w3.heap.size + 1 + 1 from by simp] at this
  have HON : Hid ((#[.slice (some ⟨w3.heap.size, 0, none⟩) 2 2, .slice (some ⟨w3.heap.size + 1, 0, none⟩) 2 2, .int .i64 2, .int .i64 2, .slice (some ⟨b1, 0, none⟩) 4 4, .int .i64 2, .int .i64 2, .slice (some ⟨b1, 0, none⟩) 4 4, .int .i64 2, .int .i64 2, .slice (some ⟨b1, 0, none⟩) 4 4, .int .i64 2, .int .i64 2, .slice (some ⟨b1, 0, none⟩) 4 4, .int .i64 1, .int .i64 2, .slice (some ⟨b2, 0, none⟩) 2 2, .int .i64 1, .int .i64 2, .slice (some ⟨b2, 0, none⟩) 2 2, .int .i64 2, .int .i64 1, .slice (some ⟨b3, 0, none⟩) 2 2, .int .i64 0, .int .i64 0, .int .i64 0, .int .i64 0, .int .i64 0, .int .i64 0, .int .i64 0] : Array Value).all (·.oneCell') = true) := by show _ = _; simp [Value.oneCell']
  go_upto_region 5 with (first | refine wpList_store_row rfl 67 _ _ rfl (w3.heap.size + 1 + 1) #[.slice (some ⟨w3.heap.size, 0, none⟩) 2 2, .slice (some ⟨w3.heap.size + 1, 0, none⟩) 2 2, .int .i64 2, .int .i64 2, .slice (some ⟨b1, 0, none⟩) 4 4, .int .i64 2, .int .i64 2, .slice (some ⟨b1, 0, none⟩) 4 4, .int .i64 2, .int .i64 2, .slice (some ⟨b1, 0, none⟩) 4 4, .int .i64 2, .int .i64 2, .slice (some ⟨b1, 0, none⟩) 4 4, .int .i64 1, .int .i64 2, .slice (some ⟨b2, 0, none⟩) 2 2, .int .i64 1, .int .i64 2, .slice (some ⟨b2, 0, none⟩) 2 2, .int .i64 2, .int .i64 1, .slice (some ⟨b3, 0, none⟩) 2 2, .int .i64 0, .int .i64 0, .int .i64 0, .int .i64 0, .int .i64 0, .int .i64 0, .int .i64 0] rfl rfl 67 _ HZ.out sizeL rfl HON.out ?_ | fail)
  clear HZ HON ca0 ca1 ca2 cb0 cb1 cb2 cc0 cc1 cc2
  rw [show (((w3.alloc (.cells #[.int .i8 1, .int .i8 1] 84)).alloc (.cells #[.int .i8 2, .int .i8 2] 84)).alloc (.cells #[.slice none 0 0, .slice none 0 0, .int .i64 0, .int .i64 0, .slice none 0 0, .int .i64 0, .int .i64 0, .slice none 0 0, .int .i64 0, .int .i64 0, .slice none 0 0, .int .i64 0, .int .i64 0, .slice none 0 0, .int .i64 0, .int .i64 0, .slice none 0 0, .int .i64 0, .int .i64 0, .slice none 0 0, .int .i64 0, .int .i64 0, .slice none 0 0, .int .i64 0, .int .i64 0, .int .i64 0, .int .i64 0, .int .i64 0, .int .i64 0, .int .i64 0] 67)).setRow (w3.heap.size + 1 + 1) #[.slice (some ⟨w3.heap.size, 0, none⟩) 2 2, .slice (some ⟨w3.heap.size + 1, 0, none⟩) 2 2, .int .i64 2, .int .i64 2, .slice (some ⟨b1, 0, none⟩) 4 4, .int .i64 2, .int .i64 2, .slice (some ⟨b1, 0, none⟩) 4 4, .int .i64 2, .int .i64 2, .slice (some ⟨b1, 0, none⟩) 4 4, .int .i64 2, .int .i64 2, .slice (some ⟨b1, 0, none⟩) 4 4, .int .i64 1, .int .i64 2, .slice (some ⟨b2, 0, none⟩) 2 2, .int .i64 1, .int .i64 2, .slice (some ⟨b2, 0, none⟩) 2 2, .int .i64 2, .int .i64 1, .slice (some ⟨b3, 0, none⟩) 2 2, .int .i64 0, .int .i64 0, .int .i64 0, .int .i64 0, .int .i64 0, .int .i64 0, .int .i64 0] = ((w3.alloc (.cells #[.int .i8 1, .int .i8 1] 84)).alloc (.cells #[.int .i8 2, .int .i8 2] 84)).alloc (.cells #[.slice (some ⟨w3.heap.size, 0, none⟩) 2 2, .slice (some ⟨w3.heap.size + 1, 0, none⟩) 2 2, .int .i64 2, .int .i64 2, .slice (some ⟨b1, 0, none⟩) 4 4, .int .i64 2, .int .i64 2, .slice (some ⟨b1, 0, none⟩) 4 4, .int .i64 2, .int .i64 2, .slice (some ⟨b1, 0, none⟩) 4 4, .int .i64 2, .int .i64 2, .slice (some ⟨b1, 0, none⟩) 4 4, .int .i64 1, .int .i64 2, .slice (some ⟨b2, 0, none⟩) 2 2, .int .i64 1, .int .i64 2, .slice (some ⟨b2, 0, none⟩) 2 2, .int .i64 2, .int .i64 1, .slice (some ⟨b3, 0, none⟩) 2 2, .int .i64 0, .int .i64 0, .int .i64 0, .int .i64 0, .int .i64 0, .int .i64 0, .int .i64 0] 67) from by rw [show w3.heap.size + 1 + 1 = ((w3.alloc (.cells #[.int .i8 1, .int .i8 1] 84)).alloc (.cells #[.int .i8 2, .int .i8 2] 84)).heap.size from by simp]; exact World.setRow_alloc_new _ _ _ _]
  have HD1 := World.rowIs_list w3 [.int .i8 1, .int .i8 1] 84
  replace HD1 := HD1.alloc (.cells #[.int .i8 2, .int .i8 2] 84)
  replace HD1 := HD1.alloc (.cells #[.slice (some ⟨w3.heap.size, 0, none⟩) 2 2, .slice (some ⟨w3.heap.size + 1, 0, none⟩) 2 2, .int .i64 2, .int .i64 2, .slice (some ⟨b1, 0, none⟩) 4 4, .int .i64 2, .int .i64 2, .slice (some ⟨b1, 0, none⟩) 4 4, .int .i64 2, .int .i64 2, .slice (some ⟨b1, 0, none⟩) 4 4, .int .i64 2, .int .i64 2, .slice (some ⟨b1, 0, none⟩) 4 4, .int .i64 1, .int .i64 2, .slice (some ⟨b2, 0, none⟩) 2 2, .int .i64 1, .int .i64 2, .slice (some ⟨b2, 0, none⟩) 2 2, .int .i64 2, .int .i64 1, .slice (some ⟨b3, 0, none⟩) 2 2, .int .i64 0, .int .i64 0, .int .i64 0, .int .i64 0, .int .i64 0, .int .i64 0, .int .i64 0] 67)
  have HD2 := World.rowIs_list (w3.alloc (.cells #[.int .i8 1, .int .i8 1] 84)) [.int .i8 2, .int .i8 2] 84
  replace HD2 := HD2.alloc (.cells #[.slice (some ⟨w3.heap.size, 0, none⟩) 2 2, .slice (some ⟨w3.heap.size + 1, 0, none⟩) 2 2, .int .i64 2, .int .i64 2, .slice (some ⟨b1, 0, none⟩) 4 4, .int .i64 2, .int .i64 2, .slice (some ⟨b1, 0, none⟩) 4 4, .int .i64 2, .int .i64 2, .slice (some ⟨b1, 0, none⟩) 4 4, .int .i64 2, .int .i64 2, .slice (some ⟨b1, 0, none⟩) 4 4, .int .i64 1, .int .i64 2, .slice (some ⟨b2, 0, none⟩) 2 2, .int .i64 1, .int .i64 2, .slice (some ⟨b2, 0, none⟩) 2 2, .int .i64 2, .int .i64 1, .slice (some ⟨b3, 0, none⟩) 2 2, .int .i64 0, .int .i64 0, .int .i64 0, .int .i64 0, .int .i64 0, .int .i64 0, .int .i64 0] 67)
  rw [show (w3.alloc (.cells #[.int .i8 1, .int .i8 1] 84)).heap.size = w3.heap.size + 1 from by simp] at HD2
  have HD3 := World.rowIs_list ((w3.alloc (.cells #[.int .i8 1, .int .i8 1] 84)).alloc (.cells #[.int .i8 2, .int .i8 2] 84)) [.slice (some ⟨w3.heap.size, 0, none⟩) 2 2, .slice (some ⟨w3.heap.size + 1, 0, none⟩) 2 2, .int .i64 2, .int .i64 2, .slice (some ⟨b1, 0, none⟩) 4 4, .int .i64 2, .int .i64 2, .slice (some ⟨b1, 0, none⟩) 4 4, .int .i64 2, .int .i64 2, .slice (some ⟨b1, 0, none⟩) 4 4, .int .i64 2, .int .i64 2, .slice (some ⟨b1, 0, none⟩) 4 4, .int .i64 1, .int .i64 2, .slice (some ⟨b2, 0, none⟩) 2 2, .int .i64 1, .int .i64 2, .slice (some ⟨b2, 0, none⟩) 2 2, .int .i64 2, .int .i64 1, .slice (some ⟨b3, 0, none⟩) 2 2, .int .i64 0, .int .i64 0, .int .i64 0, .int .i64 0, .int .i64 0, .int .i64 0, .int .i64 0] 67
  rw [show ((w3.alloc (.cells #[.int .i8 1, .int .i8 1] 84)).alloc (.cells #[.int .i8 2, .int .i8 2] 84)).heap.size = w3.heap.size + 1 + 1 from by simp] at HD3
  have ff : Below w3.heap.size w3 (((w3.alloc (.cells #[.int .i8 1, .int .i8 1] 84)).alloc (.cells #[.int .i8 2, .int .i8 2] 84)).alloc (.cells #[.slice (some ⟨w3.heap.size, 0, none⟩) 2 2, .slice (some ⟨w3.heap.size + 1, 0, none⟩) 2 2, .int .i64 2, .int .i64 2, .slice (some ⟨b1, 0, none⟩) 4 4, .int .i64 2, .int .i64 2, .slice (some ⟨b1, 0, none⟩) 4 4, .int .i64 2, .int .i64 2, .slice (some ⟨b1, 0, none⟩) 4 4, .int .i64 2, .int .i64 2, .slice (some ⟨b1, 0, none⟩) 4 4, .int .i64 1, .int .i64 2, .slice (some ⟨b2, 0, none⟩) 2 2, .int .i64 1, .int .i64 2, .slice (some ⟨b2, 0, none⟩) 2 2, .int .i64 2, .int .i64 1, .slice (some ⟨b3, 0, none⟩) 2 2, .int .i64 0, .int .i64 0, .int .i64 0, .int .i64 0, .int .i64 0, .int .i64 0, .int .i64 0] 67)) := fresh_trans (fresh_trans (fresh_alloc w3 _) (fresh_alloc (w3.alloc (.cells #[.int .i8 1, .int .i8 1] 84)) _)) (fresh_alloc ((w3.alloc (.cells #[.int .i8 1, .int .i8 1] 84)).alloc (.cells #[.int .i8 2, .int .i8 2] 84)) _)
  replace HR := row_fresh HR ff
  replace HA1 := row_fresh HA1 ff
  replace HA2 := row_fresh HA2 ff
  replace HB1 := row_fresh HB1 ff
  replace HB2 := row_fresh HB2 ff
  replace HC1 := row_fresh HC1 ff
  replace HC2 := row_fresh HC2 ff
  have F4 := fresh_trans F3 ff
  clear ff F3
  generalize (((w3.alloc (.cells #[.int .i8 1, .int .i8 1] 84)).alloc (.cells #[.int .i8 2, .int .i8 2] 84)).alloc (.cells #[.slice (some ⟨w3.heap.size, 0, none⟩) 2 2, .slice (some ⟨w3.heap.size + 1, 0, none⟩) 2 2, .int .i64 2, .int .i64 2, .slice (some ⟨b1, 0, none⟩) 4 4, .int .i64 2, .int .i64 2, .slice (some ⟨b1, 0, none⟩) 4 4, .int .i64 2, .int .i64 2, .slice (some ⟨b1, 0, none⟩) 4 4, .int .i64 2, .int .i64 2, .slice (some ⟨b1, 0, none⟩) 4 4, .int .i64 1, .int .i64 2, .slice (some ⟨b2, 0, none⟩) 2 2, .int .i64 1, .int .i64 2, .slice (some ⟨b2, 0, none⟩) 2 2, .int .i64 2, .int .i64 1, .slice (some ⟨b3, 0, none⟩) 2 2, .int .i64 0, .int .i64 0, .int .i64 0, .int .i64 0, .int .i64 0, .int .i64 0, .int .i64 0] 67)) = w4 at *
  generalize w3.heap.size = b4 at *
  have l26 : w4.cell? ⟨b4 + 1 + 1, 26, none⟩ = some (.int .i64 0) := HD3.cell (i := 26) (by simp)
  have fz := HD3.frozen
  go_upto_region 6 with fail
  replace HR := HR.setOther (a := ⟨b4 + 1 + 1, 26, none⟩) (row_ne HR HD3 (by decide)) (.int .i64 24)
  replace HA1 := HA1.setOther (a := ⟨b4 + 1 + 1, 26, none⟩) (row_ne HA1 HD3 (by decide)) (.int .i64 24)
  replace HA2 := HA2.setOther (a := ⟨b4 + 1 + 1, 26, none⟩) (row_ne HA2 HD3 (by decide)) (.int .i64 24)
  replace HB1 := HB1.setOther (a := ⟨b4 + 1 + 1, 26, none⟩) (row_ne HB1 HD3 (by decide)) (.int .i64 24)
  replace HB2 := HB2.setOther (a := ⟨b4 + 1 + 1, 26, none⟩) (row_ne HB2 HD3 (by decide)) (.int .i64 24)
  replace HC1 := HC1.setOther (a := ⟨b4 + 1 + 1, 26, none⟩) (row_ne HC1 HD3 (by decide)) (.int .i64 24)
  replace HC2 := HC2.setOther (a := ⟨b4 + 1 + 1, 26, none⟩) (row_ne HC2 HD3 (by decide)) (.int .i64 24)
  replace HD1 := HD1.setOther (a := ⟨b4 + 1 + 1, 26, none⟩) (row_ne HD1 HD3 (by decide)) (.int .i64 24)
  replace HD2 := HD2.setOther (a := ⟨b4 + 1 + 1, 26, none⟩) (row_ne HD2 HD3 (by decide)) (.int .i64 24)
  have HL := (HD3.set 26 (.int .i64 24)).congr (g := fun i => ([.slice (some ⟨b4, 0, none⟩) 2 2, .slice (some ⟨b4 + 1, 0, none⟩) 2 2, .int .i64 2, .int .i64 2, .slice (some ⟨b1, 0, none⟩) 4 4, .int .i64 2, .int .i64 2, .slice (some ⟨b1, 0, none⟩) 4 4, .int .i64 2, .int .i64 2, .slice (some ⟨b1, 0, none⟩) 4 4, .int .i64 2, .int .i64 2, .slice (some ⟨b1, 0, none⟩) 4 4, .int .i64 1, .int .i64 2, .slice (some ⟨b2, 0, none⟩) 2 2, .int .i64 1, .int .i64 2, .slice (some ⟨b2, 0, none⟩) 2 2, .int .i64 2, .int .i64 1, .slice (some ⟨b3, 0, none⟩) 2 2, .int .i64 0, .int .i64 0, .int .i64 0, .int .i64 24, .int .i64 0, .int .i64 0, .int .i64 0] : List Value).getD i undef) (fun i hi => by
    match i, hi with
    | 0, _ | 1, _ | 2, _ | 3, _ | 4, _ | 5, _ | 6, _ | 7, _ | 8, _ | 9, _ | 10, _ | 11, _ | 12, _ | 13, _ | 14, _ | 15, _ | 16, _ | 17, _ | 18, _ | 19, _ | 20, _ | 21, _ | 22, _ | 23, _ | 24, _ | 25, _ | 26, _ | 27, _ | 28, _ | 29, _ => rfl
    | j + 30, h => exact absurd h (by show ¬ j + 30 < 30; omega))
  have F5 : Below w.heap.size w (w4.setCell ⟨b4 + 1 + 1, 26, none⟩ (.int .i64 24)) := F4.setCell (show w.heap.size ≤ b4 + 1 + 1 by omega) _
  clear l26 fz HD3 F4
  generalize (w4.setCell ⟨b4 + 1 + 1, 26, none⟩ (.int .i64 24)) = w5 at *
  go_upto_region 7 with (fail)
  have HE1 := World.rowIs_list w5 [.int .i64 2, .int .i64 2, .int .i64 1, .int .i64 1, .int .i64 1, .int .i64 1, .int .i64 1, .int .i64 0] 23
  have ff : Below w5.heap.size w5 (w5.alloc (.cells #[.int .i64 2, .int .i64 2, .int .i64 1, .int .i64 1, .int .i64 1, .int .i64 1, .int .i64 1, .int .i64 0] 23)) := fresh_alloc w5 _
  replace HR := row_fresh HR ff
  replace HA1 := row_fresh HA1 ff
  replace HA2 := row_fresh HA2 ff
  replace HB1 := row_fresh HB1 ff
  replace HB2 := row_fresh HB2 ff
  replace HC1 := row_fresh HC1 ff
  replace HC2 := row_fresh HC2 ff
  replace HD1 := row_fresh HD1 ff
  replace HD2 := row_fresh HD2 ff
  replace HL := row_fresh HL ff
  have F6 := fresh_trans F5 ff
  clear ff F5
  generalize (w5.alloc (.cells #[.int .i64 2, .int .i64 2, .int .i64 1, .int .i64 1, .int .i64 1, .int .i64 1, .int .i64 1, .int .i64 0] 23)) = w6 at *
  generalize w5.heap.size = b6 at *
  have ce0 : w6.cell? ⟨b6, 0, none⟩ = some (.int .i64 2) := HE1.cell (i := 0) (by simp)
  have ce1 : w6.cell? ⟨b6, 1, none⟩ = some (.int .i64 2) := HE1.cell (i := 1) (by simp)
  have ce2 : w6.cell? ⟨b6, 2, none⟩ = some (.int .i64 1) := HE1.cell (i := 2) (by simp)
  have ce3 : w6.cell? ⟨b6, 3, none⟩ = some (.int .i64 1) := HE1.cell (i := 3) (by simp)
  have ce4 : w6.cell? ⟨b6, 4, none⟩ = some (.int .i64 1) := HE1.cell (i := 4) (by simp)
  have ce5 : w6.cell? ⟨b6, 5, none⟩ = some (.int .i64 1) := HE1.cell (i := 5) (by simp)
  have ce6 : w6.cell? ⟨b6, 6, none⟩ = some (.int .i64 1) := HE1.cell (i := 6) (by simp)
  have ce7 : w6.cell? ⟨b6, 7, none⟩ = some (.int .i64 0) := HE1.cell (i := 7) (by simp)
  have ca0 : w6.cell? ⟨b1 + 1, 0, none⟩ = some (.int .i64 2) := HA2.cell (i := 0) (by simp)
  have ca1 : w6.cell? ⟨b1 + 1, 1, none⟩ = some (.int .i64 2) := HA2.cell (i := 1) (by simp)
  have ca2 : w6.cell? ⟨b1 + 1, 2, none⟩ = some (.slice (some ⟨b1, 0, none⟩) 4 4) := HA2.cell (i := 2) (by simp)
  have cf0 : (((w6.alloc (.cells #[.int .i64 9, .int .i64 (-9)] 97)).alloc (.cells #[.slice (some ⟨b4, 0, none⟩) 2 2, .slice (some ⟨b4 + 1, 0, none⟩) 2 2, .int .i64 2, .int .i64 2, .slice (some ⟨b1, 0, none⟩) 4 4, .int .i64 2, .int .i64 2, .slice (some ⟨b1, 0, none⟩) 4 4, .int .i64 2, .int .i64 2, .slice (some ⟨b1, 0, none⟩) 4 4, .int .i64 2, .int .i64 2, .slice (some ⟨b1, 0, none⟩) 4 4, .int .i64 1, .int .i64 2, .slice (some ⟨b2, 0, none⟩) 2 2, .int .i64 1, .int .i64 2, .slice (some ⟨b2, 0, none⟩) 2 2, .int .i64 2, .int .i64 1, .slice (some ⟨b3, 0, none⟩) 2 2, .int .i64 0, .int .i64 0, .int .i64 0, .int .i64 24, .int .i64 0, .int .i64 0, .int .i64 0] 67)).alloc (.cells #[.int .i8 127, .int .i8 (-127)] 84)).cell? ⟨b1 + 1, 0, none⟩ = some (.int .i64 2) := (((HA2.alloc (.cells #[.int .i64 9, .int .i64 (-9)] 97)).alloc (.cells #[.slice (some ⟨b4, 0, none⟩) 2 2, .slice (some ⟨b4 + 1, 0, none⟩) 2 2, .int .i64 2, .int .i64 2, .slice (some ⟨b1, 0, none⟩) 4 4, .int .i64 2, .int .i64 2, .slice (some ⟨b1, 0, none⟩) 4 4, .int .i64 2, .int .i64 2, .slice (some ⟨b1, 0, none⟩) 4 4, .int .i64 2, .int .i64 2, .slice (some ⟨b1, 0, none⟩) 4 4, .int .i64 1, .int .i64 2, .slice (some ⟨b2, 0, none⟩) 2 2, .int .i64 1, .int .i64 2, .slice (some ⟨b2, 0, none⟩) 2 2, .int .i64 2, .int .i64 1, .slice (some ⟨b3, 0, none⟩) 2 2, .int .i64 0, .int .i64 0, .int .i64 0, .int .i64 24, .int .i64 0, .int .i64 0, .int .i64 0] 67)).alloc (.cells #[.int .i8 127, .int .i8 (-127)] 84)).cell (i := 0) (by simp)
  have cf1 : (((w6.alloc (.cells #[.int .i64 9, .int .i64 (-9)] 97)).alloc (.cells #[.slice (some ⟨b4, 0, none⟩) 2 2, .slice (some ⟨b4 + 1, 0, none⟩) 2 2, .int .i64 2, .int .i64 2, .slice (some ⟨b1, 0, none⟩) 4 4, .int .i64 2, .int .i64 2, .slice (some ⟨b1, 0, none⟩) 4 4, .int .i64 2, .int .i64 2, .slice (some ⟨b1, 0, none⟩) 4 4, .int .i64 2, .int .i64 2, .slice (some ⟨b1, 0, none⟩) 4 4, .int .i64 1, .int .i64 2, .slice (some ⟨b2, 0, none⟩) 2 2, .int .i64 1, .int .i64 2, .slice (some ⟨b2, 0, none⟩) 2 2, .int .i64 2, .int .i64 1, .slice (some ⟨b3, 0, none⟩) 2 2, .int .i64 0, .int .i64 0, .int .i64 0, .int .i64 24, .int .i64 0, .int .i64 0, .int .i64 0] 67)).alloc (.cells #[.int .i8 127, .int .i8 (-127)] 84)).cell? ⟨b1 + 1, 1, none⟩ = some (.int .i64 2) := (((HA2.alloc (.cells #[.int .i64 9, .int .i64 (-9)] 97)).alloc (.cells #[.slice (some ⟨b4, 0, none⟩) 2 2, .slice (some ⟨b4 + 1, 0, none⟩) 2 2, .int .i64 2, .int .i64 2, .slice (some ⟨b1, 0, none⟩) 4 4, .int .i64 2, .int .i64 2, .slice (some ⟨b1, 0, none⟩) 4 4, .int .i64 2, .int .i64 2, .slice (some ⟨b1, 0, none⟩) 4 4, .int .i64 2, .int .i64 2, .slice (some ⟨b1, 0, none⟩) 4 4, .int .i64 1, .int .i64 2, .slice (some ⟨b2, 0, none⟩) 2 2, .int .i64 1, .int .i64 2, .slice (some ⟨b2, 0, none⟩) 2 2, .int .i64 2, .int .i64 1, .slice (some ⟨b3, 0, none⟩) 2 2, .int .i64 0, .int .i64 0, .int .i64 0, .int .i64 24, .int .i64 0, .int .i64 0, .int .i64 0] 67)).alloc (.cells #[.int .i8 127, .int .i8 (-127)] 84)).cell (i := 1) (by simp)
  have cf2 : (((w6.alloc (.cells #[.int .i64 9, .int .i64 (-9)] 97)).alloc (.cells #[.slice (some ⟨b4, 0, none⟩) 2 2, .slice (some ⟨b4 + 1, 0, none⟩) 2 2, .int .i64 2, .int .i64 2, .slice (some ⟨b1, 0, none⟩) 4 4, .int .i64 2, .int .i64 2, .slice (some ⟨b1, 0, none⟩) 4 4, .int .i64 2, .int .i64 2, .slice (some ⟨b1, 0, none⟩) 4 4, .int .i64 2, .int .i64 2, .slice (some ⟨b1, 0, none⟩) 4 4, .int .i64 1, .int .i64 2, .slice (some ⟨b2, 0, none⟩) 2 2, .int .i64 1, .int .i64 2, .slice (some ⟨b2, 0, none⟩) 2 2, .int .i64 2, .int .i64 1, .slice (some ⟨b3, 0, none⟩) 2 2, .int .i64 0, .int .i64 0, .int .i64 0, .int .i64 24, .int .i64 0, .int .i64 0, .int .i64 0] 67)).alloc (.cells #[.int .i8 127, .int .i8 (-127)] 84)).cell? ⟨b1 + 1, 2, none⟩ = some (.slice (some ⟨b1, 0, none⟩) 4 4) := (((HA2.alloc (.cells #[.int .i64 9, .int .i64 (-9)] 97)).alloc (.cells #[.slice (some ⟨b4, 0, none⟩) 2 2, .slice (some ⟨b4 + 1, 0, none⟩) 2 2, .int .i64 2, .int .i64 2, .slice (some ⟨b1, 0, none⟩) 4 4, .int .i64 2, .int .i64 2, .slice (some ⟨b1, 0, none⟩) 4 4, .int .i64 2, .int .i64 2, .slice (some ⟨b1, 0, none⟩) 4 4, .int .i64 2, .int .i64 2, .slice (some ⟨b1, 0, none⟩) 4 4, .int .i64 1, .int .i64 2, .slice (some ⟨b2, 0, none⟩) 2 2, .int .i64 1, .int .i64 2, .slice (some ⟨b2, 0, none⟩) 2 2, .int .i64 2, .int .i64 1, .slice (some ⟨b3, 0, none⟩) 2 2, .int .i64 0, .int .i64 0, .int .i64 0, .int .i64 24, .int .i64 0, .int .i64 0, .int .i64 0] 67)).alloc (.cells #[.int .i8 127, .int .i8 (-127)] 84)).cell (i := 2) (by simp)
  have RGL : Hid ((w6.alloc (.cells #[.int .i64 9, .int .i64 (-9)] 97)).rangeAt (b4 + 1 + 1) 0 [.slice (some ⟨b4, 0, none⟩) 2 2, .slice (some ⟨b4 + 1, 0, none⟩) 2 2, .int .i64 2, .int .i64 2, .slice (some ⟨b1, 0, none⟩) 4 4, .int .i64 2, .int .i64 2, .slice (some ⟨b1, 0, none⟩) 4 4, .int .i64 2, .int .i64 2, .slice (some ⟨b1, 0, none⟩) 4 4, .int .i64 2, .int .i64 2, .slice (some ⟨b1, 0, none⟩) 4 4, .int .i64 1, .int .i64 2, .slice (some ⟨b2, 0, none⟩) 2 2, .int .i64 1, .int .i64 2, .slice (some ⟨b2, 0, none⟩) 2 2, .int .i64 2, .int .i64 1, .slice (some ⟨b3, 0, none⟩) 2 2, .int .i64 0, .int .i64 0, .int .i64 0, .int .i64 24, .int .i64 0, .int .i64 0, .int .i64 0]) := row_range (HL.alloc (.cells #[.int .i64 9, .int .i64 (-9)] 97)) rfl
  have ft := fresh_alloc w6 (.cells #[.int .i64 9, .int .i64 (-9)] 97)
  have fl := fresh_alloc (w6.alloc (.cells #[.int .i64 9, .int .i64 (-9)] 97)) (.cells #[.slice (some ⟨b4, 0, none⟩) 2 2, .slice (some ⟨b4 + 1, 0, none⟩) 2 2, .int .i64 2, .int .i64 2, .slice (some ⟨b1, 0, none⟩) 4 4, .int .i64 2, .int .i64 2, .slice (some ⟨b1, 0, none⟩) 4 4, .int .i64 2, .int .i64 2, .slice (some ⟨b1, 0, none⟩) 4 4, .int .i64 2, .int .i64 2, .slice (some ⟨b1, 0, none⟩) 4 4, .int .i64 1, .int .i64 2, .slice (some ⟨b2, 0, none⟩) 2 2, .int .i64 1, .int .i64 2, .slice (some ⟨b2, 0, none⟩) 2 2, .int .i64 2, .int .i64 1, .slice (some ⟨b3, 0, none⟩) 2 2, .int .i64 0, .int .i64 0, .int .i64 0, .int .i64 24, .int .i64 0, .int .i64 0, .int .i64 0] 67)
  have fi := fresh_alloc ((w6.alloc (.cells #[.int .i64 9, .int .i64 (-9)] 97)).alloc (.cells #[.slice (some ⟨b4, 0, none⟩) 2 2, .slice (some ⟨b4 + 1, 0, none⟩) 2 2, .int .i64 2, .int .i64 2, .slice (some ⟨b1, 0, none⟩) 4 4, .int .i64 2, .int .i64 2, .slice (some ⟨b1, 0, none⟩) 4 4, .int .i64 2, .int .i64 2, .slice (some ⟨b1, 0, none⟩) 4 4, .int .i64 2, .int .i64 2, .slice (some ⟨b1, 0, none⟩) 4 4, .int .i64 1, .int .i64 2, .slice (some ⟨b2, 0, none⟩) 2 2, .int .i64 1, .int .i64 2, .slice (some ⟨b2, 0, none⟩) 2 2, .int .i64 2, .int .i64 1, .slice (some ⟨b3, 0, none⟩) 2 2, .int .i64 0, .int .i64 0, .int .i64 0, .int .i64 24, .int .i64 0, .int .i64 0, .int .i64 0] 67)) (.cells #[.int .i8 127, .int .i8 (-127)] 84)
  have f3 := fresh_trans (fresh_trans ft fl) fi
  have HT := ((World.rowIs_list w6 [.int .i64 9, .int .i64 (-9)] 97).alloc (.cells #[.slice (some ⟨b4, 0, none⟩) 2 2, .slice (some ⟨b4 + 1, 0, none⟩) 2 2, .int .i64 2, .int .i64 2, .slice (some ⟨b1, 0, none⟩) 4 4, .int .i64 2, .int .i64 2, .slice (some ⟨b1, 0, none⟩) 4 4, .int .i64 2, .int .i64 2, .slice (some ⟨b1, 0, none⟩) 4 4, .int .i64 2, .int .i64 2, .slice (some ⟨b1, 0, none⟩) 4 4, .int .i64 1, .int .i64 2, .slice (some ⟨b2, 0, none⟩) 2 2, .int .i64 1, .int .i64 2, .slice (some ⟨b2, 0, none⟩) 2 2, .int .i64 2, .int .i64 1, .slice (some ⟨b3, 0, none⟩) 2 2, .int .i64 0, .int .i64 0, .int .i64 0, .int .i64 24, .int .i64 0, .int .i64 0, .int .i64 0] 67)).alloc (.cells #[.int .i8 127, .int .i8 (-127)] 84)
  have HY := (World.rowIs_list (w6.alloc (.cells #[.int .i64 9, .int .i64 (-9)] 97)) [.slice (some ⟨b4, 0, none⟩) 2 2, .slice (some ⟨b4 + 1, 0, none⟩) 2 2, .int .i64 2, .int .i64 2, .slice (some ⟨b1, 0, none⟩) 4 4, .int .i64 2, .int .i64 2, .slice (some ⟨b1, 0, none⟩) 4 4, .int .i64 2, .int .i64 2, .slice (some ⟨b1, 0, none⟩) 4 4, .int .i64 2, .int .i64 2, .slice (some ⟨b1, 0, none⟩) 4 4, .int .i64 1, .int .i64 2, .slice (some ⟨b2, 0, none⟩) 2 2, .int .i64 1, .int .i64 2, .slice (some ⟨b2, 0, none⟩) 2 2, .int .i64 2, .int .i64 1, .slice (some ⟨b3, 0, none⟩) 2 2, .int .i64 0, .int .i64 0, .int .i64 0, .int .i64 24, .int .i64 0, .int .i64 0, .int .i64 0] 67).alloc (.cells #[.int .i8 127, .int .i8 (-127)] 84)
  have HF := World.rowIs_list ((w6.alloc (.cells #[.int .i64 9, .int .i64 (-9)] 97)).alloc (.cells #[.slice (some ⟨b4, 0, none⟩) 2 2, .slice (some ⟨b4 + 1, 0, none⟩) 2 2, .int .i64 2, .int .i64 2, .slice (some ⟨b1, 0, none⟩) 4 4, .int .i64 2, .int .i64 2, .slice (some ⟨b1, 0, none⟩) 4 4, .int .i64 2, .int .i64 2, .slice (some ⟨b1, 0, none⟩) 4 4, .int .i64 2, .int .i64 2, .slice (some ⟨b1, 0, none⟩) 4 4, .int .i64 1, .int .i64 2, .slice (some ⟨b2, 0, none⟩) 2 2, .int .i64 1, .int .i64 2, .slice (some ⟨b2, 0, none⟩) 2 2, .int .i64 2, .int .i64 1, .slice (some ⟨b3, 0, none⟩) 2 2, .int .i64 0, .int .i64 0, .int .i64 0, .int .i64 24, .int .i64 0, .int .i64 0, .int .i64 0] 67)) [.int .i8 127, .int .i8 (-127)] 84
  rw [show (w6.alloc (.cells #[.int .i64 9, .int .i64 (-9)] 97)).heap.size = w6.heap.size + 1 from by simp] at HY
  rw [show ((w6.alloc (.cells #[.int .i64 9, .int .i64 (-9)] 97)).alloc (.cells #[.slice (some ⟨b4, 0, none⟩) 2 2, .slice (some ⟨b4 + 1, 0, none⟩) 2 2, .int .i64 2, .int .i64 2, .slice (some ⟨b1, 0, none⟩) 4 4, .int .i64 2, .int .i64 2, .slice (some ⟨b1, 0, none⟩) 4 4, .int .i64 2, .int .i64 2, .slice (some ⟨b1, 0, none⟩) 4 4, .int .i64 2, .int .i64 2, .slice (some ⟨b1, 0, none⟩) 4 4, .int .i64 1, .int .i64 2, .slice (some ⟨b2, 0, none⟩) 2 2, .int .i64 1, .int .i64 2, .slice (some ⟨b2, 0, none⟩) 2 2, .int .i64 2, .int .i64 1, .slice (some ⟨b3, 0, none⟩) 2 2, .int .i64 0, .int .i64 0, .int .i64 0, .int .i64 24, .int .i64 0, .int .i64 0, .int .i64 0] 67)).heap.size = w6.heap.size + 1 + 1 from by simp] at HF
  have HX : Hid (WtR (((w6.alloc (.cells #[.int .i64 9, .int .i64 (-9)] 97)).alloc (.cells #[.slice (some ⟨b4, 0, none⟩) 2 2, .slice (some ⟨b4 + 1, 0, none⟩) 2 2, .int .i64 2, .int .i64 2, .slice (some ⟨b1, 0, none⟩) 4 4, .int .i64 2, .int .i64 2, .slice (some ⟨b1, 0, none⟩) 4 4, .int .i64 2, .int .i64 2, .slice (some ⟨b1, 0, none⟩) 4 4, .int .i64 2, .int .i64 2, .slice (some ⟨b1, 0, none⟩) 4 4, .int .i64 1, .int .i64 2, .slice (some ⟨b2, 0, none⟩) 2 2, .int .i64 1, .int .i64 2, .slice (some ⟨b2, 0, none⟩) 2 2, .int .i64 2, .int .i64 1, .slice (some ⟨b3, 0, none⟩) 2 2, .int .i64 0, .int .i64 0, .int .i64 0, .int .i64 24, .int .i64 0, .int .i64 0, .int .i64 0] 67)).alloc (.cells #[.int .i8 127, .int .i8 (-127)] 84)) (lst b1 b2 b3 b4 w6.heap.size)) := lst_rd (row_fresh HA1 f3) (row_fresh HB1 f3) (row_fresh HC1 f3) (row_fresh HD1 f3) (row_fresh HD2 f3) HT HY HF
  have HCP : Hid (Calls Try.prog 18 #[.agg #[.int .i64 2, .int .i64 2, .int .i64 1, .int .i64 1, .int .i64 1, .int .i64 1, .int .i64 1, .int .i64 0, .int .i64 2, .int .i64 2, .slice (some ⟨b1, 0, none⟩) 4 4, .slice (some ⟨w6.heap.size, 0, none⟩) 1 1, .slice (some ⟨w6.heap.size + 1, 0, none⟩) 1 1, .slice (some ⟨w6.heap.size + 1 + 1, 0, none⟩) 2 2, .int .i64 2, .int .i64 2, .slice (some ⟨b1, 0, none⟩) 4 4, .slice none 0 0]] (((w6.alloc (.cells #[.int .i64 9, .int .i64 (-9)] 97)).alloc (.cells #[.slice (some ⟨b4, 0, none⟩) 2 2, .slice (some ⟨b4 + 1, 0, none⟩) 2 2, .int .i64 2, .int .i64 2, .slice (some ⟨b1, 0, none⟩) 4 4, .int .i64 2, .int .i64 2, .slice (some ⟨b1, 0, none⟩) 4 4, .int .i64 2, .int .i64 2, .slice (some ⟨b1, 0, none⟩) 4 4, .int .i64 2, .int .i64 2, .slice (some ⟨b1, 0, none⟩) 4 4, .int .i64 1, .int .i64 2, .slice (some ⟨b2, 0, none⟩) 2 2, .int .i64 1, .int .i64 2, .slice (some ⟨b2, 0, none⟩) 2 2, .int .i64 2, .int .i64 1, .slice (some ⟨b3, 0, none⟩) 2 2, .int .i64 0, .int .i64 0, .int .i64 0, .int .i64 24, .int .i64 0, .int .i64 0, .int .i64 0] 67)).alloc (.cells #[.int .i8 127, .int .i8 (-127)] 84)) fun e w' => ∃ y, e = .returned (.agg (wtA y)) ∧ Cpy (((w6.alloc (.cells #[.int .i64 9, .int .i64 (-9)] 97)).alloc (.cells #[.slice (some ⟨b4, 0, none⟩) 2 2, .slice (some ⟨b4 + 1, 0, none⟩) 2 2, .int .i64 2, .int .i64 2, .slice (some ⟨b1, 0, none⟩) 4 4, .int .i64 2, .int .i64 2, .slice (some ⟨b1, 0, none⟩) 4 4, .int .i64 2, .int .i64 2, .slice (some ⟨b1, 0, none⟩) 4 4, .int .i64 2, .int .i64 2, .slice (some ⟨b1, 0, none⟩) 4 4, .int .i64 1, .int .i64 2, .slice (some ⟨b2, 0, none⟩) 2 2, .int .i64 1, .int .i64 2, .slice (some ⟨b2, 0, none⟩) 2 2, .int .i64 2, .int .i64 1, .slice (some ⟨b3, 0, none⟩) 2 2, .int .i64 0, .int .i64 0, .int .i64 0, .int .i64 24, .int .i64 0, .int .i64 0, .int .i64 0] 67)).alloc (.cells #[.int .i8 127, .int .i8 (-127)] 84)) w' (lst b1 b2 b3 b4 w6.heap.size) y) := copyW_any HX.out lst_b
  have FX := hidd (fresh_trans F6 f3)
  have HRX := hidd (row_fresh HR f3)
  clear HR HA1 HA2 HB1 HB2 HC1 HC2 HD1 HD2 HL HE1 HT HY HF ft fl fi f3 F6 hb4
  go_wp2_with (first
    | refine wpList_load_mid rfl 67 _ rfl (b4 + 1 + 1) 0 rfl _ _ RGL.out Try.underlying67 rfl sizeL ?_
    | fail)
  refine HCP.out.mono ?_
  rintro e w8 ⟨y, rfl, hc⟩
  have HC := hidd hc
  have hwr := row_fresh HRX.out hc.low
  obtain ⟨old, hold, hosz, _⟩ := hwr
  have HOLD := hidd hold
  have HOSZ : Hid (old.size = (wtA y).size) := hosz
  have hsz := FX.out.size
  have HLW := hidd (fresh_trans FX.out hc.low)
  have HLT : Hid (w.heap.size < ((((w6.alloc (.cells #[.int .i64 9, .int .i64 (-9)] 97)).alloc (.cells #[.slice (some ⟨b4, 0, none⟩) 2 2, .slice (some ⟨b4 + 1, 0, none⟩) 2 2, .int .i64 2, .int .i64 2, .slice (some ⟨b1, 0, none⟩) 4 4, .int .i64 2, .int .i64 2, .slice (some ⟨b1, 0, none⟩) 4 4, .int .i64 2, .int .i64 2, .slice (some ⟨b1, 0, none⟩) 4 4, .int .i64 2, .int .i64 2, .slice (some ⟨b1, 0, none⟩) 4 4, .int .i64 1, .int .i64 2, .slice (some ⟨b2, 0, none⟩) 2 2, .int .i64 1, .int .i64 2, .slice (some ⟨b2, 0, none⟩) 2 2, .int .i64 2, .int .i64 1, .slice (some ⟨b3, 0, none⟩) 2 2, .int .i64 0, .int .i64 0, .int .i64 0, .int .i64 24, .int .i64 0, .int .i64 0, .int .i64 0] 67)).alloc (.cells #[.int .i8 127, .int .i8 (-127)] 84))).heap.size) := HRX.out.lt
  clear hc hold hosz RGL HCP ca0 ca1 ca2 cf0 cf1 cf2 ce0 ce1 ce2 ce3 ce4 ce5 ce6 ce7
  go_wp2_with (refine wpList_store_row rfl 34 _ _ rfl w.heap.size (wtA y) rfl rfl 34 old HOLD.out sizeW HOSZ.out (wtA_one _) ?_)
  refine bodyPost_ret (v := .agg (wtA y)) ?_ ?_ ?_
  · exact results_cell_row Try.results28 _ _ w.heap.size 34 _ (0, 0) _ rfl (setRow_heap _ _ _ _ _ _ HOLD.out) Try.underlying34 rfl sizeW
  · rfl
  · refine ⟨y, rfl, ?_, (HC.out.v.row (by have := HLT.out; omega) _).wtr HX.out, below_setRow HLW.out (Nat.le_refl _) _⟩
    exact lst_sm HC.out.sm

end Go.Proofs.Ytilghknalbhacaa
