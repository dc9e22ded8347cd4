import Derived.Test.YtilghknalbhacaaJAH
import Derived.Test.YtilghknalbhacaaJAC
namespace Go.Proofs.Ytilghknalbhacaa
open Go.RowKit
/-! The turns of some weights. -/
set_option maxHeartbeats 2000000 in
theorem turns_ref {w : World} {ao : Option Addr} {n ca : Nat} {C S : Nat → Int} (ha : RdA w ao 2 n ca (tcs C S)) (k : Int) (b : Bool) (hb : b = true ↔ TnP n C S k) :
    Calls Try.prog 53 #[.slice ao n ca, .int .i64 k] w fun e w' => e = .returned (.bool b) ∧ Below w.heap.size w w' := by
  have hn : n ≤ 9223372036854775807 := by have := ha.le; have := ha.top; unfold maxLen at this; omega
  by_cases hW : (n : Int) = k
  · subst hW
    have hne : ((n : Int) != (n : Int)) = false := by simp
    have HB := hidd hb
    clear hb
    go_enter Try.func53, Try.ntmps53
    go_wp2
    clear hne
    go_loopw [5] (fun i wr => ∃ k : Nat, k ≤ n ∧ i = .int .i64 k ∧ Hid (∀ j, j < k → (-16384 ≤ C j ∧ C j ≤ 16384) ∧ (-16384 ≤ S j ∧ S j ≤ 16384)) ∧ Below w.heap.size w wr) (fun i _ => n - (intOf i).toNat)
    case atStart => exact ⟨0, by omega, rfl, fun j hj => absurd hj (by omega), Below.refl _ _⟩
    case round =>
      obtain ⟨k, hk, rfl, HK, hf⟩ := hrel
      by_cases hlt : k < n
      · obtain ⟨b1, o1, rfl, h1⟩ := (ha.fresh hf).two (by omega)
        obtain ⟨c1, c2⟩ := h1 k hlt
        clear h1
        have HE : (¬ ((-16384 ≤ C k ∧ C k ≤ 16384) ∧ (-16384 ≤ S k ∧ S k ≤ 16384))) → Hid (b = false) := fun q => by
          show b = false
          cases hbb : b with
          | false => rfl
          | true => exact absurd ((HB.out.1 hbb).2 k hlt) q
        have HK' : ((-16384 ≤ C k ∧ C k ≤ 16384) ∧ (-16384 ≤ S k ∧ S k ≤ 16384)) → Hid (∀ j, j < k + 1 → (-16384 ≤ C j ∧ C j ≤ 16384) ∧ (-16384 ≤ S j ∧ S j ≤ 16384)) := fun q j hj => by
          by_cases e : j = k
          · subst e; exact q
          · exact HK.out j (by omega)
        by_cases q0 : C k < -16384
        · have d0 : decide (C k < -16384) = true := by simp only [decide_eq_true_eq]; exact q0
          have HX := HE (by omega)
          clear HE HK' q0
          go_wp2
          go_ret
          exact ⟨ret_bool HX.out.symm, hf⟩
        have d0 : decide (C k < -16384) = false := by simp only [decide_eq_false_iff_not]; exact q0
        by_cases q1 : 16384 < C k
        · have d1 : decide (16384 < C k) = true := by simp only [decide_eq_true_eq]; exact q1
          have HX := HE (by omega)
          clear HE HK' q0 q1
          go_wp2
          go_ret
          exact ⟨ret_bool HX.out.symm, hf⟩
        have d1 : decide (16384 < C k) = false := by simp only [decide_eq_false_iff_not]; exact q1
        by_cases q2 : S k < -16384
        · have d2 : decide (S k < -16384) = true := by simp only [decide_eq_true_eq]; exact q2
          have HX := HE (by omega)
          clear HE HK' q0 q1 q2
          go_wp2
          go_ret
          exact ⟨ret_bool HX.out.symm, hf⟩
        have d2 : decide (S k < -16384) = false := by simp only [decide_eq_false_iff_not]; exact q2
        by_cases q3 : 16384 < S k
        · have d3 : decide (16384 < S k) = true := by simp only [decide_eq_true_eq]; exact q3
          have HX := HE (by omega)
          clear HE HK' q0 q1 q2 q3
          go_wp2
          go_ret
          exact ⟨ret_bool HX.out.symm, hf⟩
        have d3 : decide (16384 < S k) = false := by simp only [decide_eq_false_iff_not]; exact q3
        have HY := HK' (by omega)
        clear HE HK' q0 q1 q2 q3
        go_wp2
        go_roundw
        case rel => exact ⟨k + 1, by omega, by go_num, HY, hf⟩
        case measure => simp [intOf]; omega
      · have HE : Hid (b = true) := HB.out.2 ⟨rfl, fun i hi => HK.out i (by omega)⟩
        go_wp2
        go_ret
        exact ⟨ret_bool HE.out.symm, hf⟩
  · have hne : ((n : Int) != k) = true := by simp [hW]
    have HE : Hid (b = false) := by
      show b = false
      cases hbb : b with
      | false => rfl
      | true => exact absurd (hb.1 hbb).1 hW
    clear hW hb
    go_enter Try.func53, Try.ntmps53
    go_wp2
    go_ret
    exact ⟨ret_bool HE.out.symm, Below.refl _ _⟩
set_option maxHeartbeats 2000000 in
theorem turnsFit_any {w : World} (V W H K L D N M : Int) (hH : 1 ≤ H) (hH4 : H ≤ 4) (hW : 2 ≤ W) (hW2 : W ≤ 32) {ao : Option Addr} {n ca : Nat} {C S : Nat → Int} (ha : RdA w ao 2 n ca (tcs C S)) (b : Bool) (hb : b = true ↔ TnP n C S (W / H / 2)) :
    Calls Try.prog 88 #[.agg #[.int .i64 V, .int .i64 W, .int .i64 H, .int .i64 K, .int .i64 L, .int .i64 D, .int .i64 N, .int .i64 M], .slice ao n ca] w fun e w' => e = .returned (.bool b) ∧ Below w.heap.size w w' := by
  have hn : n ≤ 9223372036854775807 := by have := ha.le; have := ha.top; unfold maxLen at this; omega
  have hf0 := fresh_alloc w (.cells #[.int .i64 V, .int .i64 W, .int .i64 H, .int .i64 K, .int .i64 L, .int .i64 D, .int .i64 N, .int .i64 M] 23)
  have hc := headSize_any V W H K L D N M (w.alloc (.cells #[.int .i64 V, .int .i64 W, .int .i64 H, .int .i64 K, .int .i64 L, .int .i64 D, .int .i64 N, .int .i64 M] 23)) hH hH4 hW hW2
  have hq0 : 0 ≤ W / H := Int.ediv_nonneg (by omega) (by omega)
  have hq1 : W / H ≤ W := Int.ediv_le_self _ (by omega)
  have e1 : (W / H).tdiv 2 = W / H / 2 := Int.tdiv_eq_ediv_of_nonneg hq0
  generalize W / H = q at *
  by_cases hk : (n : Int) = q / 2
  · have hne : ((n : Int) != q / 2) = false := by simp [hk]
    rw [← hk] at hb
    have HB := hidd hb
    clear hb hk
    go_enter Try.func88, Try.ntmps88
    go_wp2_with fail
    refine hc.mono ?_
    rintro e w1 ⟨rfl, hf1⟩
    have hF := fresh_trans hf0 hf1
    clear hf0 hf1 hc
    go_wp2
    clear hne e1
    go_loopw [15] (fun i wr => ∃ k : Nat, k ≤ n ∧ i = .int .i64 k ∧ Hid (∀ j, j < k → (-16384 ≤ C j ∧ C j ≤ 16384) ∧ (-16384 ≤ S j ∧ S j ≤ 16384)) ∧ Below w.heap.size w wr) (fun i _ => n - (intOf i).toNat)
    case atStart => exact ⟨0, by omega, rfl, fun j hj => absurd hj (by omega), hF⟩
    case round =>
      obtain ⟨k, hk, rfl, HK, hf⟩ := hrel
      by_cases hlt : k < n
      · obtain ⟨b1, o1, rfl, h1⟩ := (ha.fresh hf).two (by omega)
        obtain ⟨c1, c2⟩ := h1 k hlt
        clear h1
        have HE : (¬ ((-16384 ≤ C k ∧ C k ≤ 16384) ∧ (-16384 ≤ S k ∧ S k ≤ 16384))) → Hid (b = false) := fun q => by
          show b = false
          cases hbb : b with
          | false => rfl
          | true => exact absurd ((HB.out.1 hbb).2 k hlt) q
        have HK' : ((-16384 ≤ C k ∧ C k ≤ 16384) ∧ (-16384 ≤ S k ∧ S k ≤ 16384)) → Hid (∀ j, j < k + 1 → (-16384 ≤ C j ∧ C j ≤ 16384) ∧ (-16384 ≤ S j ∧ S j ≤ 16384)) := fun q j hj => by
          by_cases e : j = k
          · subst e; exact q
          · exact HK.out j (by omega)
        by_cases ho : S k < C k
        · by_cases q0 : S k < -16384
          · have HX := HE (by omega)
            have r0 : S k < -16384 := q0
            clear HE HK' q0
            go_wp2
            go_ret
            exact ⟨ret_bool HX.out.symm, fresh_trans hf (fresh_alloc _ _)⟩
          by_cases q1 : 16384 < C k
          · have HX := HE (by omega)
            have r0 : ¬ S k < -16384 := q0
            have r1 : 16384 < C k := q1
            clear HE HK' q0 q1
            go_wp2
            go_ret
            exact ⟨ret_bool HX.out.symm, fresh_trans hf (fresh_alloc _ _)⟩
          have HY := HK' (by omega)
          have r0 : ¬ S k < -16384 := q0
          have r1 : ¬ 16384 < C k := q1
          clear HE HK' q0 q1
          go_wp2
          go_roundw
          case rel => exact ⟨k + 1, by omega, by go_num, HY, fresh_trans hf (fresh_alloc _ _)⟩
          case measure => simp [intOf]; omega
        · by_cases q0 : C k < -16384
          · have HX := HE (by omega)
            have r0 : C k < -16384 := q0
            clear HE HK' q0
            go_wp2
            go_ret
            exact ⟨ret_bool HX.out.symm, fresh_trans hf (fresh_alloc _ _)⟩
          by_cases q1 : 16384 < S k
          · have HX := HE (by omega)
            have r0 : ¬ C k < -16384 := q0
            have r1 : 16384 < S k := q1
            clear HE HK' q0 q1
            go_wp2
            all_goals go_ret
            all_goals exact ⟨ret_bool HX.out.symm, fresh_trans hf (fresh_alloc _ _)⟩
          have HY := HK' (by omega)
          have r0 : ¬ C k < -16384 := q0
          have r1 : ¬ 16384 < S k := q1
          clear HE HK' q0 q1
          go_wp2
          go_roundw
          case rel => exact ⟨k + 1, by omega, by go_num, HY, fresh_trans hf (fresh_alloc _ _)⟩
          case measure => simp [intOf]; omega
      · have HE : Hid (b = true) := HB.out.2 ⟨rfl, fun i hi => HK.out i (by omega)⟩
        go_wp2
        go_ret
        exact ⟨ret_bool HE.out.symm, hf⟩
  · have hne : ((n : Int) != q / 2) = true := by simp [hk]
    have HE : Hid (b = false) := by
      show b = false
      cases hbb : b with
      | false => rfl
      | true => exact absurd (hb.1 hbb).1 hk
    clear hk hb
    go_enter Try.func88, Try.ntmps88
    go_wp2_with fail
    refine hc.mono ?_
    rintro e w1 ⟨rfl, hf1⟩
    go_wp2
    go_ret
    exact ⟨ret_bool HE.out.symm, fresh_trans hf0 hf1⟩
end Go.Proofs.Ytilghknalbhacaa
namespace Go.Proofs.Ytilghknalbhacaa
open Go.RowKit
/-! The four functions of the table of shapes. -/
set_option maxHeartbeats 400000 in
theorem shVocab (V W H K L D N M : Int) (w : World) : Calls Try.prog 95 #[.agg #[.int .i64 V, .int .i64 W, .int .i64 H, .int .i64 K, .int .i64 L, .int .i64 D, .int .i64 N, .int .i64 M]] w fun e w' => e = .returned (.int .i64 V) ∧ Below w.heap.size w w' := by
  go_enter Try.func95, Try.ntmps95
  go_wp2
  go_ret
  exact ⟨rfl, fresh_alloc _ _⟩
set_option maxHeartbeats 400000 in
theorem shWidth (V W H K L D N M : Int) (w : World) : Calls Try.prog 96 #[.agg #[.int .i64 V, .int .i64 W, .int .i64 H, .int .i64 K, .int .i64 L, .int .i64 D, .int .i64 N, .int .i64 M]] w fun e w' => e = .returned (.int .i64 W) ∧ Below w.heap.size w w' := by
  go_enter Try.func96, Try.ntmps96
  go_wp2
  go_ret
  exact ⟨rfl, fresh_alloc _ _⟩
set_option maxHeartbeats 400000 in
theorem shHidden (V W H K L D N M : Int) (w : World) : Calls Try.prog 97 #[.agg #[.int .i64 V, .int .i64 W, .int .i64 H, .int .i64 K, .int .i64 L, .int .i64 D, .int .i64 N, .int .i64 M]] w fun e w' => e = .returned (.int .i64 D) ∧ Below w.heap.size w w' := by
  go_enter Try.func97, Try.ntmps97
  go_wp2
  go_ret
  exact ⟨rfl, fresh_alloc _ _⟩
set_option maxHeartbeats 1000000 in
theorem shKeys (V W H K L D N M kv : Int) (w : World) (hH : 1 ≤ H) (hH4 : H ≤ 4) (hW : 2 ≤ W) (hW2 : W ≤ 32) (hkv : K * (W / H) = kv) (kv0 : 0 ≤ kv) (kv1 : kv ≤ 128) :
    Calls Try.prog 98 #[.agg #[.int .i64 V, .int .i64 W, .int .i64 H, .int .i64 K, .int .i64 L, .int .i64 D, .int .i64 N, .int .i64 M]] w fun e w' => e = .returned (.int .i64 kv) ∧ Below w.heap.size w w' := by
  go_enter Try.func98, Try.ntmps98
  go_wp2
  have hf0 := fresh_alloc w (.cells #[.int .i64 V, .int .i64 W, .int .i64 H, .int .i64 K, .int .i64 L, .int .i64 D, .int .i64 N, .int .i64 M] 23)
  have d0 : (w.alloc (.cells #[.int .i64 V, .int .i64 W, .int .i64 H, .int .i64 K, .int .i64 L, .int .i64 D, .int .i64 N, .int .i64 M] 23)).cell? ⟨w.heap.size, 0, none⟩ = some (.int .i64 V) := by simp
  have d1 : (w.alloc (.cells #[.int .i64 V, .int .i64 W, .int .i64 H, .int .i64 K, .int .i64 L, .int .i64 D, .int .i64 N, .int .i64 M] 23)).cell? ⟨w.heap.size, 1, none⟩ = some (.int .i64 W) := by simp
  have d2 : (w.alloc (.cells #[.int .i64 V, .int .i64 W, .int .i64 H, .int .i64 K, .int .i64 L, .int .i64 D, .int .i64 N, .int .i64 M] 23)).cell? ⟨w.heap.size, 2, none⟩ = some (.int .i64 H) := by simp
  have d3 : (w.alloc (.cells #[.int .i64 V, .int .i64 W, .int .i64 H, .int .i64 K, .int .i64 L, .int .i64 D, .int .i64 N, .int .i64 M] 23)).cell? ⟨w.heap.size, 3, none⟩ = some (.int .i64 K) := by simp
  have d4 : (w.alloc (.cells #[.int .i64 V, .int .i64 W, .int .i64 H, .int .i64 K, .int .i64 L, .int .i64 D, .int .i64 N, .int .i64 M] 23)).cell? ⟨w.heap.size, 4, none⟩ = some (.int .i64 L) := by simp
  have d5 : (w.alloc (.cells #[.int .i64 V, .int .i64 W, .int .i64 H, .int .i64 K, .int .i64 L, .int .i64 D, .int .i64 N, .int .i64 M] 23)).cell? ⟨w.heap.size, 5, none⟩ = some (.int .i64 D) := by simp
  have d6 : (w.alloc (.cells #[.int .i64 V, .int .i64 W, .int .i64 H, .int .i64 K, .int .i64 L, .int .i64 D, .int .i64 N, .int .i64 M] 23)).cell? ⟨w.heap.size, 6, none⟩ = some (.int .i64 N) := by simp
  have d7 : (w.alloc (.cells #[.int .i64 V, .int .i64 W, .int .i64 H, .int .i64 K, .int .i64 L, .int .i64 D, .int .i64 N, .int .i64 M] 23)).cell? ⟨w.heap.size, 7, none⟩ = some (.int .i64 M) := by simp
  generalize w.alloc (.cells #[.int .i64 V, .int .i64 W, .int .i64 H, .int .i64 K, .int .i64 L, .int .i64 D, .int .i64 N, .int .i64 M] 23) = w1 at *
  replace d0 := later_cell d0; replace d1 := later_cell d1; replace d2 := later_cell d2; replace d3 := later_cell d3; replace d4 := later_cell d4; replace d5 := later_cell d5; replace d6 := later_cell d6; replace d7 := later_cell d7
  have ne := later_some w1
  refine wp_region_later (by kernel_rfl) (by kernel_rfl) ?_
  repeat (go_big_quiet_step (fail))
  go_big_quiet_step (exact later_of (headSize_any _ _ _ _ _ _ _ _ _ hH hH4 hW hW2))
  repeat (go_big_quiet_step (fail))
  refine wpQuiet_nil ?_
  rintro _ ⟨z, rfl⟩
  have hz := z.fresh
  go_wp2
  go_ret
  exact ⟨rfl, fresh_trans hf0 hz⟩
end Go.Proofs.Ytilghknalbhacaa
namespace Go.Proofs.Ytilghknalbhacaa
open Go.RowKit
/-! Weights as data: a list of narrow numbers, a matrix, a layer. -/
structure LsD where
  O : Option Addr
  n : Nat
  c : Nat
  f : Nat → Int
structure MtD where
  R : Int
  C : Int
  O : Option Addr
  n : Nat
  c : Nat
  f : Nat → Int
structure LyD where
  n1 : LsD
  n2 : LsD
  q : MtD
  k : MtD
  v : MtD
  o : MtD
  g : MtD
  u : MtD
  d : MtD
  sh : Nat → Int
structure LsR (w : World) (l : LsD) : Prop where
  rd : RdA w l.O 1 l.n l.c (fun i => .int .i8 (l.f i))
  bd : ∀ i, i < l.n → -128 ≤ l.f i ∧ l.f i ≤ 127
structure MtR (w : World) (m : MtD) : Prop where
  rd : RdA w m.O 1 m.n m.c (fun i => .int .i8 (m.f i))
  bd : ∀ i, i < m.n → -128 ≤ m.f i ∧ m.f i ≤ 127
structure LyR (w : World) (l : LyD) : Prop where
  n1 : LsR w l.n1
  n2 : LsR w l.n2
  q : MtR w l.q
  k : MtR w l.k
  v : MtR w l.v
  o : MtR w l.o
  g : MtR w l.g
  u : MtR w l.u
  d : MtR w l.d
theorem LsR.fresh {w w' : World} {l : LsD} (h : LsR w l) (f : Below w.heap.size w w') : LsR w' l := ⟨h.rd.fresh f, h.bd⟩
theorem MtR.fresh {w w' : World} {m : MtD} (h : MtR w m) (f : Below w.heap.size w w') : MtR w' m := ⟨h.rd.fresh f, h.bd⟩
theorem LyR.fresh {w w' : World} {l : LyD} (h : LyR w l) (f : Below w.heap.size w w') : LyR w' l := ⟨h.n1.fresh f, h.n2.fresh f, h.q.fresh f, h.k.fresh f, h.v.fresh f, h.o.fresh f, h.g.fresh f, h.u.fresh f, h.d.fresh f⟩
def LsD.gains (l : LsD) (W : Int) : Prop := GnP l.n l.f W
def MtD.isa (m : MtD) (r c : Int) : Prop := MtP m.R m.C m.n m.f r c
/-- a layer fits -/
structure LyP (l : LyD) (W kv D : Int) : Prop where
  n1 : l.n1.gains W
  n2 : l.n2.gains W
  q : l.q.isa W W
  o : l.o.isa W W
  k : l.k.isa kv W
  v : l.v.isa kv W
  g : l.g.isa D W
  u : l.u.isa D W
  d : l.d.isa W D
  sh : ∀ i, i < 7 → 0 ≤ l.sh i ∧ l.sh i ≤ 24
end Go.Proofs.Ytilghknalbhacaa
