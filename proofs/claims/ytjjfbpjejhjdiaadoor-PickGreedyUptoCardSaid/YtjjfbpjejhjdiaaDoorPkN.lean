import Derived.Test.YtjjfbpjejhjdiaaDoorPkM
namespace Go.Proofs.YtjjfbpjejhjdiaaDoor
open Go.RowKit
/-! Chances, well or not; PickSeen. -/
open Classical in
noncomputable def erOf (p : Prm) : Int := if p.Ok then 0 else 100
open Classical in
noncomputable def chA (p : Prm) (n m l : Nat) (f s : Nat → Int) (b : Nat → Bool) : List (Int × Int) := if p.Ok then chOf p n m l f s b else []
theorem chances_any (p : Prm) {w : World} {ao so bo : Option Addr} {n ca m cb l cl : Nat} {f s : Nat → Int} {b : Nat → Bool} (h : In3 w ao so bo n ca m cb l cl f s b) :
    Calls Tryd.prog 9 #[.agg #[.int .i64 p.temp, .int .i64 p.topk, .int .i64 p.topp, .int .i64 p.pen, .int .u64 (p.seed : Int)], .slice ao n ca, .slice so m cb, .slice bo l cl] w fun e w' => ∃ u c, e = .returned (.tuple #[.slice u (chA p n m l f s b).length c, .int .i64 (erOf p)]) ∧ PL w' w.heap.size u c (chA p n m l f s b) ∧ Below w.heap.size w w' := by
  unfold erOf chA
  by_cases ok : p.Ok
  · simp only [if_pos ok]
    exact chances_ok p ok h
  · simp only [if_neg ok]
    exact (chances_bad p ok w _ _ _).mono fun e w' ⟨h1, h2⟩ => ⟨none, 0, h1, pl_nil _ _, h2⟩
theorem canL_congr {g g' : Nat → Int} {n : Nat} (M : Nat → Bool) (h : ∀ i, i < n → g i = g' i) : canL g n M = canL g' n M := by
  unfold canL
  rw [ordL_congr h]
theorem chL_congr (p : Prm) {g g' : Nat → Int} {n : Nat} (M : Nat → Bool) (h : ∀ i, i < n → g i = g' i) : chL p g n M = chL p g' n M := by
  unfold chL
  rw [canL_congr M h]
theorem chA_congr (p : Prm) {n m m' l : Nat} {f f' s s' : Nat → Int} (b : Nat → Bool) (h : ∀ i, i < n → scF p.pen f (seenB s m) i = scF p.pen f' (seenB s' m') i) : chA p n m l f s b = chA p n m' l f' s' b := by
  unfold chA chOf
  rw [chL_congr p _ h]
theorem Own.rda' {w : World} {base : Nat} {e : TypeId} {sz n c : Nat} {u : Option Addr} {cs : Nat → Value} (h : Own w base e sz (.slice u n c) n cs) : RdA w u sz n c cs := by
  obtain ⟨ao, cap, e1, hr⟩ := h.rd
  injection e1 with e2 _ e3
  subst e2 e3
  exact hr
def oth (s : Nat → Int) (m n : Nat) (j : Nat) : Int := if j % 4 = 1 then -1 else if j % 4 = 3 then (n : Int) else s (m - 1 - j / 4)
theorem oth_at (s : Nat → Int) (m n k : Nat) : oth s m n (k * 4) = s (m - 1 - k) ∧ oth s m n (k * 4 + 1) = -1 ∧ oth s m n (k * 4 + 1 + 1) = s (m - 1 - k) ∧ oth s m n (k * 4 + 1 + 1 + 1) = (n : Int) := by
  have a0 : (k * 4) % 4 = 0 ∧ (k * 4) / 4 = k := by omega
  have a1 : (k * 4 + 1) % 4 = 1 := by omega
  have a2 : (k * 4 + 1 + 1) % 4 = 2 ∧ (k * 4 + 1 + 1) / 4 = k := by omega
  have a3 : (k * 4 + 1 + 1 + 1) % 4 = 3 := by omega
  unfold oth
  rw [a0.1, a0.2, a1, a2.1, a2.2, a3]
  simp
theorem seenB_oth {s : Nat → Int} {m n i : Nat} (hi : i < n) : seenB (oth s m n) (m * 4) i = seenB s m i := by
  rw [Bool.eq_iff_iff, seenB_iff, seenB_iff]
  constructor
  · rintro ⟨j, hj, e⟩
    unfold oth at e
    split at e
    · omega
    · split at e
      · omega
      · exact ⟨m - 1 - j / 4, by omega, e⟩
  · rintro ⟨j, hj, e⟩
    refine ⟨(m - 1 - j) * 4, by omega, ?_⟩
    rw [(oth_at s m n (m - 1 - j)).1, show m - 1 - (m - 1 - j) = j by omega]
    exact e
set_option maxRecDepth 20000 in
set_option maxHeartbeats 3200000 in
theorem seen_law (p : Prm) {w : World} {ao so bo : Option Addr} {n ca m cb l cl : Nat} {f s : Nat → Int} {b : Nat → Bool} (h : In3 w ao so bo n ca m cb l cl f s b) (hm : m ≤ 1048576) (hD : Dw.Holds w) :
    Calls Tryd.prog 6 #[.agg #[.int .i64 p.temp, .int .i64 p.topk, .int .i64 p.topp, .int .i64 p.pen, .int .u64 (p.seed : Int)], .slice ao n ca, .slice so m cb, .slice bo l cl] w fun e w' => e = .returned (.bool true) ∧ Below w.heap.size w w' := by
  have f1 := fresh_alloc w (.cells #[.int .i64 p.temp, .int .i64 p.topk, .int .i64 p.topp, .int .i64 p.pen, .int .u64 (p.seed : Int)] 24)
  have HWK := hidd (works_any (h.ta.fresh f1) (hD.fresh f1))
  have q0 : (w.alloc (.cells #[.int .i64 p.temp, .int .i64 p.topk, .int .i64 p.topp, .int .i64 p.pen, .int .u64 (p.seed : Int)] 24)).cell? ⟨w.heap.size, 0, none⟩ = some (.int .i64 p.temp) := by simp
  have q1 : (w.alloc (.cells #[.int .i64 p.temp, .int .i64 p.topk, .int .i64 p.topp, .int .i64 p.pen, .int .u64 (p.seed : Int)] 24)).cell? ⟨w.heap.size, 1, none⟩ = some (.int .i64 p.topk) := by simp
  have q2 : (w.alloc (.cells #[.int .i64 p.temp, .int .i64 p.topk, .int .i64 p.topp, .int .i64 p.pen, .int .u64 (p.seed : Int)] 24)).cell? ⟨w.heap.size, 2, none⟩ = some (.int .i64 p.topp) := by simp
  have q3 : (w.alloc (.cells #[.int .i64 p.temp, .int .i64 p.topk, .int .i64 p.topp, .int .i64 p.pen, .int .u64 (p.seed : Int)] 24)).cell? ⟨w.heap.size, 3, none⟩ = some (.int .i64 p.pen) := by simp
  have q4 : (w.alloc (.cells #[.int .i64 p.temp, .int .i64 p.topk, .int .i64 p.topp, .int .i64 p.pen, .int .u64 (p.seed : Int)] 24)).cell? ⟨w.heap.size, 4, none⟩ = some (.int .u64 (p.seed : Int)) := by simp
  have HI := hidd h
  have hn := h.hn
  have hle := h.se.le
  have htop := h.se.top
  have hle2 := h.lo.le
  have htop2 := h.lo.top
  unfold maxLen at htop htop2
  clear h hD
  go_enter Tryd.func6, Tryd.ntmps6
  go_wp2_with fail
  refine HWK.out.mono ?_
  rintro e w1 ⟨rfl, f2⟩
  have F1 := hidd (fresh_trans f1 f2)
  have R : Hid (w1.cell? ⟨w.heap.size, 0, none⟩ = some (.int .i64 p.temp) ∧ w1.cell? ⟨w.heap.size, 1, none⟩ = some (.int .i64 p.topk) ∧ w1.cell? ⟨w.heap.size, 2, none⟩ = some (.int .i64 p.topp) ∧ w1.cell? ⟨w.heap.size, 3, none⟩ = some (.int .i64 p.pen) ∧ w1.cell? ⟨w.heap.size, 4, none⟩ = some (.int .u64 (p.seed : Int))) := ⟨fresh_cell f2 q0, fresh_cell f2 q1, fresh_cell f2 q2, fresh_cell f2 q3, fresh_cell f2 q4⟩
  clear q0 q1 q2 q3 q4 f1 f2 HWK
  go_wp2
  go_loopw [10, 11] (fun v i wr => ∃ k : Nat, k ≤ m ∧ i = .int .i64 ((m : Int) - 1 - k) ∧ Own wr w1.heap.size 3 1 v (k * 4) (fun j => .int .i64 (oth s m n j)) ∧ Below w1.heap.size w1 wr) (fun _ i _ => (intOf i + 1).toNat)
  case atStart => exact ⟨0, Nat.zero_le _, by simp, own_nil _ _ _ _ _, Below.refl _ _⟩
  case round =>
    obtain ⟨k, hk, rfl, ho, hw⟩ := hrel
    have hsz := hw.size
    obtain ⟨v', c', rfl, hrd⟩ := ho.rd
    by_cases hlt : k < m
    · obtain ⟨b1, o1, rfl, h1⟩ := (HI.out.se.fresh (fresh_trans F1.out hw)).one (by omega)
      obtain ⟨b9, o9, e9, hd9⟩ := (HI.out.se.fresh F1.out).one (by omega)
      cases e9
      have hbl := lt_of_cell (hd9 0 (by omega))
      obtain ⟨i, hi⟩ : ∃ i : Nat, (i : Int) = (m : Int) - 1 - k := ⟨m - 1 - k, by omega⟩
      have hie : i = m - 1 - k := by omega
      have hil : i < m := by omega
      have d := h1 i hil
      rw [← hi]
      obtain ⟨a0, a1, a2, a3⟩ := oth_at s m n k
      rw [← hie] at a0 a2
      have HA0 := hidd a0.symm
      have HA1 := hidd a1.symm
      have HA2 := hidd a2.symm
      have HA3 := hidd a3.symm
      have HO := hidd ho
      clear h1 a0 a1 a2 a3 ho hrd
      have HIE := hidd hie
      have i0 : (0 : Int) ≤ (i : Int) := by omega
      have i1 : (i : Int) < (m : Int) := by omega
      have hb1 : b1 < w1.heap.size := hbl
      have d9 := hd9 i hil
      clear hie hi
      go_wp2_with (at_builtin; refine wpList_app1 _ rfl _ _ 26 rfl w1.heap.size 3 (.int .i64 0) 8 Tryd.underlying26 infoI rfl _ (k * 4) (fun j => .int .i64 (oth s m n j)) rfl (HO.out.kept (fresh_alloc _ _)) _ 1 rfl (by show _ = some (Value.int .i64 (oth s m n (k * 4))); rw [← HA0.out]; exact new_cell _ _ _) rfl (by omega) (by omega) (by simp; omega) ?_)
      intro v5 w5 ho5 ha5
      have hw5 := ha5.below (hw.alloc hsz _) (HO.out.kept (fresh_alloc _ _)) (Nat.le_refl _) (by simp; omega)
      have hs5 := hw5.size
      have HO5 := hidd ho5
      clear ho5 ha5
      go_wp2_with (at_builtin; refine wpList_app1 _ rfl _ _ 26 rfl w1.heap.size 3 (.int .i64 0) 8 Tryd.underlying26 infoI rfl _ (k * 4 + 1) (fun j => .int .i64 (oth s m n j)) rfl (HO5.out.kept (fresh_alloc _ _)) _ 1 rfl (by show _ = some (Value.int .i64 (oth s m n (k * 4 + 1))); rw [← HA1.out]; exact new_cell _ _ _) rfl (by omega) (by omega) (by simp; omega) ?_)
      intro v6 w6 ho6 ha6
      have hw6 := ha6.below (hw5.alloc hs5 _) (HO5.out.kept (fresh_alloc _ _)) (Nat.le_refl _) (by simp; omega)
      have hs6 := hw6.size
      have HO6 := hidd ho6
      clear ho6 ha6
      have e6 := fresh_cell hw6 d9
      go_wp2_with (at_builtin; refine wpList_app1 _ rfl _ _ 26 rfl w1.heap.size 3 (.int .i64 0) 8 Tryd.underlying26 infoI rfl _ (k * 4 + 1 + 1) (fun j => .int .i64 (oth s m n j)) rfl (HO6.out.kept (fresh_alloc _ _)) _ 1 rfl (by show _ = some (Value.int .i64 (oth s m n (k * 4 + 1 + 1))); rw [← HA2.out]; exact new_cell _ _ _) rfl (by omega) (by omega) (by simp; omega) ?_)
      intro v7 w7 ho7 ha7
      have hw7 := ha7.below (hw6.alloc hs6 _) (HO6.out.kept (fresh_alloc _ _)) (Nat.le_refl _) (by simp; omega)
      have hs7 := hw7.size
      have HO7 := hidd ho7
      clear ho7 ha7
      go_wp2_with (at_builtin; refine wpList_app1 _ rfl _ _ 26 rfl w1.heap.size 3 (.int .i64 0) 8 Tryd.underlying26 infoI rfl _ (k * 4 + 1 + 1 + 1) (fun j => .int .i64 (oth s m n j)) rfl (HO7.out.kept (fresh_alloc _ _)) _ 1 rfl (by show _ = some (Value.int .i64 (oth s m n (k * 4 + 1 + 1 + 1))); rw [← HA3.out]; exact new_cell _ _ _) rfl (by omega) (by omega) (by simp; omega) ?_)
      intro v8 w8 ho8 ha8
      have hw8 := ha8.below (hw7.alloc hs7 _) (HO7.out.kept (fresh_alloc _ _)) (Nat.le_refl _) (by simp; omega)
      have hs8 := hw8.size
      have HO8 := hidd ho8
      clear ho8 ha8
      go_wp2
      go_roundw
      case rel =>
        refine ⟨k + 1, by omega, by have := HIE.out; go_num, ?_, hw8⟩
        rw [show (k + 1) * 4 = k * 4 + 1 + 1 + 1 + 1 by omega]
        exact HO8.out
      case measure => simp [intOf]
    · obtain rfl : k = m := by omega
      have hEQ : chA p n (k * 4) l f (oth s k n) b = chA p n k l f s b := chA_congr p b (fun i hi => by unfold scF; rw [seenB_oth hi])
      have HEQ := hidd hEQ
      obtain ⟨r0, r1, r2, r3, r4⟩ := R.out
      replace r0 := fresh_cell hw r0
      replace r1 := fresh_cell hw r1
      replace r2 := fresh_cell hw r2
      replace r3 := fresh_cell hw r3
      replace r4 := fresh_cell hw r4
      have FW := hidd (fresh_trans F1.out hw)
      have HOW := hidd ho
      clear hEQ ho hw R hrd
      go_wp2_with fail
      refine (chances_any p (HI.out.fresh FW.out)).mono ?_
      rintro e w2 ⟨u1, c1, rfl, hp1, f3⟩
      replace r0 := fresh_cell f3 r0
      replace r1 := fresh_cell f3 r1
      replace r2 := fresh_cell f3 r2
      replace r3 := fresh_cell f3 r3
      replace r4 := fresh_cell f3 r4
      have FW2 := hidd (fresh_trans FW.out f3)
      have hI2 : In3 w2 ao v' bo n ca (k * 4) c' l cl f (oth s k n) b := ⟨(HI.out.fresh FW2.out).lo, (Own.rda' (HOW.out.kept f3)), (HI.out.fresh FW2.out).al, HI.out.fb, hn, by omega, (HI.out.fresh FW2.out).ta⟩
      have HI2 := hidd hI2
      have HP1 := hidd hp1
      clear hI2 hp1 f3
      go_wp2_with fail
      refine (chances_any p HI2.out).mono ?_
      rintro e w3 ⟨u2, c2, rfl, hp2, f4⟩
      rw [HEQ.out] at hp2 ⊢
      have HP1' := hidd (HP1.out.kept f4)
      have FW3 := hidd (fresh_trans FW2.out f4)
      have HP2 := hidd hp2
      clear hp2 f4 HP1
      go_wp2_with fail
      refine (eqc_any HP1'.out HP2.out).mono ?_
      rintro e w4 ⟨rfl, f5⟩
      go_wp2
      go_ret
      exact ⟨rfl, fresh_trans FW3.out f5⟩
end Go.Proofs.YtjjfbpjejhjdiaaDoor
