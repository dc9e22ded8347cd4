import Derived.Test.YtonhnlahpfkalaaMv
namespace Go.Proofs.Ytonhnlahpfkalaa
open Go.RowKit
/-! shaped: a right matrix out of any numbers. -/
theorem App.row {w w' : World} {v v' : Value} {base : Nat} {e : TypeId} {sz n : Nat} {cs : Nat → Value} (h : App w w' v v') (ho : Own w base e sz v n cs) {b m : Nat} {t : TypeId} {F : Nat → Value} (hr : w.rowIs b t m F) (hb : b < base) : w'.rowIs b t m F :=
  hr.of_block (h.grown.block b hr.lt (fun e => by have := (ho.lt b e.symm).1; omega))
def three (a b c : Value) : Nat → Value := fun i => if i = 0 then a else if i = 1 then b else c
def fit (x : Int) : Int := if x = -128 then 7 else x
theorem row3 {w : World} {b : Nat} {t : TypeId} {x y z : Value} (h : w.rowIs b t 3 (three x y z)) : w.cell? ⟨b, 0, none⟩ = some x ∧ w.cell? ⟨b, 1, none⟩ = some y ∧ w.cell? ⟨b, 2, none⟩ = some z :=
  ⟨h.cell (i := 0) (by decide), h.cell (i := 1) (by decide), h.cell (i := 2) (by decide)⟩
theorem three_set {a b c d : Value} : ∀ i, i < 3 → (if i = 2 then d else three a b c i) = three a b d i := by
  intro i hi
  obtain rfl | rfl | rfl : i = 0 ∨ i = 1 ∨ i = 2 := by omega
  all_goals rfl
set_option maxHeartbeats 4000000 in
theorem shaped_any {w : World} {rows cols : Int} {ao bo : Option Addr} {n m ca cb : Nat} {f g : Nat → Int} (ha : RdA w ao 1 n ca (fun i => .int .i8 (f i))) (hb : RdA w bo 1 m cb (fun i => .int .i8 (g i)))
    (R C N : Nat) (hR : R = 1 + md rows 9) (hC : C = 1 + md cols 9) (hN : N = R * C) :
    Calls Try.prog 14 #[.int .i64 rows, .int .i64 cols, .slice ao n ca, .slice bo m cb] w fun e w' =>
      ∃ v u, e = .returned (.tuple #[.agg #[.int .i64 (R : Int), .int .i64 (C : Int), v], u]) ∧
        Rd w' v 1 N (fun i => .int .i8 (fit (atf n f i))) ∧ Rd w' u 1 C (fun i => .int .i8 (atf m g i)) ∧ Below w.heap.size w w' := by
  have hn : n ≤ 9223372036854775807 := by have := ha.le; have := ha.top; unfold maxLen at this; omega
  have hm : m ≤ 9223372036854775807 := by have := hb.le; have := hb.top; unfold maxLen at this; omega
  have d1 := md_lt rows (n := 9) (by decide)
  have d2 := md_lt cols (n := 9) (by decide)
  have hN2 : N ≤ 81 := by rw [hN]; exact Nat.mul_le_mul (show R ≤ 9 by omega) (show C ≤ 9 by omega)
  have hw : wrap64 ((R : Int) * (C : Int)) = (N : Int) := by rw [← Int.natCast_mul, ← hN, wid _ (by omega) (by omega)]
  have q1 := mod_any rows 9 (w.alloc (.cells #[.int .i64 0, .int .i64 0, .slice none 0 0] 43)) (by decide) (by decide)
  have q2 := mod_any cols 9 (w.alloc (.cells #[.int .i64 0, .int .i64 0, .slice none 0 0] 43)) (by decide) (by decide)
  have hR2 : (1 : Int) + (md rows 9 : Int) = (R : Int) := by omega
  have hC2 : (1 : Int) + (md cols 9 : Int) = (C : Int) := by omega
  have hR3 : R ≤ 9 := by omega
  have hC3 : C ≤ 9 := by omega
  have HR := hidd hR2
  have HC := hidd hC2
  clear hN hR hC hR2 hC2
  go_enter Try.func14, Try.ntmps14
  go_wp2_with fail
  refine q1.mono ?_
  rintro e w' ⟨rfl, rfl⟩
  go_wp2_with fail
  refine q2.mono ?_
  rintro e w' ⟨rfl, rfl⟩
  clear q1 q2
  go_wp2
  rw [HR.out, HC.out]
  clear HR HC d1 d2
  go_loopw [13] (fun i wr => ∃ (k : Nat) (v : Value), k ≤ N ∧ i = .int .i64 k ∧ Own wr (w.heap.size + 2) 32 1 v k (fun i => .int .i8 (fit (atf n f i))) ∧ wr.rowIs (w.heap.size + 1) 43 3 (three (.int .i64 R) (.int .i64 C) v)
      ∧ wr.rowIs w.heap.size 43 3 (three (.int .i64 0) (.int .i64 0) (.slice none 0 0)) ∧ Below w.heap.size w wr) (fun i _ => N - (intOf i).toNat)
  case atStart =>
    have r1 := World.rowIs_alloc (w.alloc (.cells #[.int .i64 0, .int .i64 0, .slice none 0 0] 43)) #[.int .i64 (R : Int), .int .i64 (C : Int), .slice none 0 0] 43 (three (.int .i64 R) (.int .i64 C) (.slice none 0 0)) (fun i hi => ?_)
    have r0 := (World.rowIs_alloc w #[.int .i64 0, .int .i64 0, .slice none 0 0] 43 (three (.int .i64 0) (.int .i64 0) (.slice none 0 0)) (fun i hi => ?_)).alloc (.cells #[.int .i64 (R : Int), .int .i64 (C : Int), .slice none 0 0] 43)
    · exact ⟨0, _, by omega, rfl, own_nil _ _ _ _ _, by simpa using r1, by simpa using r0, fresh_trans (fresh_alloc _ _) (fresh_alloc _ _)⟩
    all_goals
      have hi : i < 3 := hi
      obtain rfl | rfl | rfl : i = 0 ∨ i = 1 ∨ i = 2 := by omega
      all_goals rfl
  case round =>
    obtain ⟨k, v, hk, rfl, hown, hr1, hr0, hf⟩ := hrel
    have hsz := hr1.lt
    by_cases hlt : k < N
    · have q := at_any (ha.fresh hf) k
      obtain ⟨c0, c1, c2⟩ := row3 hr1
      have fa := hr1.frozen
      have hk81 : k < 81 := Nat.lt_of_lt_of_le hlt hN2
      have hb1 : w.heap.size ≤ wr.heap.size := hf.size
      by_cases hx : atf n f k = -128
      · have E := hidd (show fit (atf n f k) = 7 by unfold fit; rw [if_pos hx])
        have hx' : (atf n f k == -128) = true := by simp [hx]
        clear hx
        go_wp2_with fail
        refine q.mono ?_
        rintro e w' ⟨rfl, rfl⟩
        clear q
        go_wp2_with (at_builtin; refine wpList_app1 _ rfl _ _ 23 rfl (w.heap.size + 2) 32 (.int .i8 0) 1 Try.underlying23 infoI8 rfl _ k _ rfl (hown.kept (fresh_alloc _ _)) _ 1 rfl (new_int _ _ E.out) rfl (by omega) (by omega) (by simp; omega) ?_)
        intro v' w1 hown' happ
        have hf1 := happ.below (hf.alloc hb1 _) (hown.kept (fresh_alloc _ _)) (by omega) (by simp; omega)
        have hr1' := happ.row (hown.kept (fresh_alloc _ _)) (hr1.alloc _) (by omega)
        have hr0' := happ.row (hown.kept (fresh_alloc _ _)) (hr0.alloc _) (by omega)
        clear happ hown c0 c1 c2 fa hr1 hr0
        obtain ⟨c0, c1, c2⟩ := row3 hr1'
        have fa := hr1'.frozen
        obtain ⟨ao', cap', rfl, _⟩ := hown'.rd
        go_wp2
        go_roundw
        case rel => exact ⟨k + 1, _, by omega, by go_num, ownsRow_setCell_below hown' (by simp) _, (hr1'.set 2 _).congr three_set, hr0'.setOther (by simp) _, hf1.setCell (by simp) _⟩
        case measure => simp [intOf]; omega
      · have E := hidd (show fit (atf n f k) = atf n f k by unfold fit; rw [if_neg hx])
        have hx' : (atf n f k == -128) = false := by simp [hx]
        clear hx
        go_wp2_with fail
        refine q.mono ?_
        rintro e w' ⟨rfl, rfl⟩
        clear q
        go_wp2_with (at_builtin; refine wpList_app1 _ rfl _ _ 23 rfl (w.heap.size + 2) 32 (.int .i8 0) 1 Try.underlying23 infoI8 rfl _ k _ rfl (hown.kept (fresh_alloc _ _)) _ 1 rfl (new_int _ _ E.out) rfl (by omega) (by omega) (by simp; omega) ?_)
        intro v' w1 hown' happ
        have hf1 := happ.below (hf.alloc hb1 _) (hown.kept (fresh_alloc _ _)) (by omega) (by simp; omega)
        have hr1' := happ.row (hown.kept (fresh_alloc _ _)) (hr1.alloc _) (by omega)
        have hr0' := happ.row (hown.kept (fresh_alloc _ _)) (hr0.alloc _) (by omega)
        clear happ hown c0 c1 c2 fa hr1 hr0
        obtain ⟨c0, c1, c2⟩ := row3 hr1'
        have fa := hr1'.frozen
        obtain ⟨ao', cap', rfl, _⟩ := hown'.rd
        go_wp2
        go_roundw
        case rel => exact ⟨k + 1, _, by omega, by go_num, ownsRow_setCell_below hown' (by simp) _, (hr1'.set 2 _).congr three_set, hr0'.setOther (by simp) _, hf1.setCell (by simp) _⟩
        case measure => simp [intOf]; omega
    · obtain rfl : k = N := by omega
      obtain ⟨ao1, cap1, rfl, _⟩ := hown.rd
      have hown1 := hidd hown
      clear hown
      have hb1 := hf.size
      go_wp2
      clear hw
      go_loopw [15, 16] (fun v i w2 => ∃ q : Nat, q ≤ C ∧ i = .int .i64 q ∧ Own w2 wr.heap.size 32 1 v q (fun i => .int .i8 (atf m g i)) ∧ Below wr.heap.size wr w2) (fun _ i _ => C - (intOf i).toNat)
      case atStart => exact ⟨0, by omega, rfl, own_nil _ _ _ _ _, Below.refl _ _⟩
      case round =>
        obtain ⟨q, hq, rfl, hown, hf2⟩ := hrel
        have hb2 := hf2.size
        by_cases hlt2 : q < C
        · have qa := at_any ((hb.fresh hf).fresh hf2) q
          go_wp2_with fail
          refine qa.mono ?_
          rintro e w' ⟨rfl, rfl⟩
          clear qa
          go_wp2_with (at_builtin; refine wpList_app1 _ rfl _ _ 23 rfl _ 32 (.int .i8 0) 1 Try.underlying23 infoI8 rfl _ q _ rfl (hown.kept (fresh_alloc _ _)) _ 1 rfl (new_cell _ _ _) rfl (by omega) (by omega) (by simp; omega) ?_)
          intro v' w3 hown' happ
          have hf1 := happ.below (hf2.alloc hb2 _) (hown.kept (fresh_alloc _ _)) (by omega) (by simp; omega)
          clear happ hown
          go_wp2
          go_roundw
          case rel => exact ⟨q + 1, by omega, by go_num, hown', hf1⟩
          case measure => simp [intOf]; omega
        · obtain rfl : q = C := by omega
          have hr1' := hr1.of_block (hf2.block _ hr1.lt)
          have hr0' := hr0.of_block (hf2.block _ hr0.lt)
          obtain ⟨c0, c1, c2⟩ := row3 hr1'
          obtain ⟨z0, z1, z2⟩ := row3 hr0'
          have fa := hr0'.frozen
          obtain ⟨ao2, cap2, rfl, _⟩ := hown.rd
          have hown2 := hidd hown
          clear hown
          go_wp2
          have r' := (((hr0'.set 0 (.int .i64 R)).set 1 (.int .i64 q)).set 2 (.slice ao1 k cap1))
          have hff : Below w.heap.size w (((wr.setCell ⟨w.heap.size, 0, none⟩ (.int .i64 R)).setCell ⟨w.heap.size, 1, none⟩ (.int .i64 q)).setCell ⟨w.heap.size, 2, none⟩ (.slice ao1 k cap1)) :=
            (((fresh_trans hf hf2).setCell (Nat.le_refl _) _).setCell (Nat.le_refl _) _).setCell (Nat.le_refl _) _
          have n1 := ownsRow_setCell_below (ownsRow_setCell_below (ownsRow_setCell_below (hown1.out.kept hf2) (a := ⟨w.heap.size, 0, none⟩) (by simp) (.int .i64 R)) (a := ⟨w.heap.size, 1, none⟩) (by simp) (.int .i64 q)) (a := ⟨w.heap.size, 2, none⟩) (by simp) (.slice ao1 k cap1)
          have n2 := ownsRow_setCell_below (ownsRow_setCell_below (ownsRow_setCell_below hown2.out (a := ⟨w.heap.size, 0, none⟩) (by simpa using hr0.lt) (.int .i64 R)) (a := ⟨w.heap.size, 1, none⟩) (by simpa using hr0.lt) (.int .i64 q)) (a := ⟨w.heap.size, 2, none⟩) (by simpa using hr0.lt) (.slice ao1 k cap1)
          clear hr1' hr0' c0 c1 c2 z0 z1 z2 fa
          generalize (((wr.setCell ⟨w.heap.size, 0, none⟩ (.int .i64 R)).setCell ⟨w.heap.size, 1, none⟩ (.int .i64 q)).setCell ⟨w.heap.size, 2, none⟩ (.slice ao1 k cap1)) = w9 at *
          have y0 : w9.cell? ⟨w.heap.size, 0, none⟩ = some (.int .i64 R) := r'.cell (i := 0) (by decide)
          have y1 : w9.cell? ⟨w.heap.size, 1, none⟩ = some (.int .i64 q) := r'.cell (i := 1) (by decide)
          have y2 : w9.cell? ⟨w.heap.size, 2, none⟩ = some (.slice ao1 k cap1) := r'.cell (i := 2) (by decide)
          refine bodyPost_ret (v := .tuple #[.agg #[.int .i64 R, .int .i64 q, .slice ao1 k cap1], .slice ao2 q cap2]) (by simp [results, Try.results14, go_sem, y0, y1, y2]) rfl ?_
          exact ⟨_, _, rfl, Own.rd n1, Own.rd n2, hff⟩
end Go.Proofs.Ytonhnlahpfkalaa
