import Derived.Test.YteiocgciblogdabVStd
namespace Go.Proofs.Yteiocgciblogdab
open Go.RowKit
/-! The reference's joined. -/
structure JndR (w wr : World) (l : List Int) (p q t : Int) (v : Value) (i : Nat) (o : List Int) : Prop where
  own : OwnI wr w.heap.size v o
  len : o.length ≤ i
  ile : i ≤ l.length
  eq : o ++ joinL p q t (l.drop i) = joinL p q t l
  low : Below w.heap.size w wr
theorem JndR.next {w wr wr' w6 : World} {l : List Int} {p q t : Int} {v v' : Value} {i : Nat} {o : List Int} (h : JndR w wr l p q t v i o) (hf : Below wr.heap.size wr wr') (x : Int) (i' : Nat) (hi : i < i') (hle : i' ≤ l.length) (he : joinL p q t (l.drop i) = x :: joinL p q t (l.drop i'))
    (hown : Own w6 w.heap.size 3 1 v' (o.length + 1) (fun j => .int .i64 ((o ++ [x]).getD j 0))) (ha : App wr' w6 v v') : JndR w w6 l p q t v' i' (o ++ [x]) := by
  refine ⟨by unfold OwnI; simpa using hown, by simp; have := h.len; omega, hle, ?_, ?_⟩
  · rw [← h.eq, he]; simp
  · exact ha.below (fresh_trans h.low hf) (Own.kept h.own hf) (Nat.le_refl _) (Nat.le_trans h.low.size hf.size)
theorem JndR.own1 {w wr wr' : World} {l : List Int} {p q t : Int} {v : Value} {i : Nat} {o : List Int} (h : JndR w wr l p q t v i o) (hf : Below wr.heap.size wr wr') (x : Int) : Own wr' w.heap.size 3 1 v o.length (fun j => .int .i64 ((o ++ [x]).getD j 0)) :=
  (Own.kept h.own hf).congr (fun j hj => by rw [getD_app_lo (by omega)])
theorem app_last (o : List Int) (x : Int) : (o ++ [x]).getD o.length 0 = x := by simp [List.getD_eq_getElem?_getD]
set_option maxRecDepth 20000 in
set_option maxHeartbeats 4000000 in
theorem joined_ref {w : World} {ao : Option Addr} {cap : Nat} {l : List Int} (ha : RdA w ao 1 l.length cap (fun j => .int .i64 (l.getD j 0))) (hn : l.length ≤ 1073741824) (p q t : Int) :
    Calls Try.prog 36 #[.slice ao l.length cap, .agg #[.int .i64 p, .int .i64 q], .int .i64 t] w fun e w' => ∃ v, e = .returned v ∧ OwnI w' w.heap.size v (joinL p q t l) ∧ Below w.heap.size w w' := by
  obtain ⟨n, en⟩ : ∃ n, n = l.length := ⟨_, rfl⟩
  have EN := hidd en
  rw [← en] at ha hn
  rw [← en]
  clear en
  have hf0 := fresh_alloc w (.cells #[.int .i64 p, .int .i64 q] 48)
  have K := row2_new w 48 (.int .i64 p) (.int .i64 q)
  go_enter Try.func36, Try.ntmps36
  go_wp2
  generalize w.alloc (.cells #[.int .i64 p, .int .i64 q] 48) = w1 at *
  go_loopw [7, 8] (fun v iv wr => ∃ (i : Nat) (o : List Int), iv = .int .i64 i ∧ JndR w1 wr l p q t v i o) (fun _ iv _ => n - (intOf iv).toNat)
  case atStart => exact ⟨0, [], rfl, ownI_nil _ _, Nat.le_refl _, Nat.zero_le _, by simp, Below.refl _ _⟩
  case round =>
    obtain ⟨i, o, rfl, hJ⟩ := hrel
    have HJ := hidd hJ
    have hlen := hJ.len
    have hile : i ≤ n := by rw [EN.out]; exact hJ.ile
    have hfb := hJ.low
    have hf := fresh_trans hf0 hfb
    have hsz := hfb.size
    obtain ⟨y0, y1⟩ := row2 (K.of_block (hfb.block _ K.lt))
    clear hJ
    by_cases hlt : i < n
    · obtain ⟨b1, o1, rfl, h1⟩ := (ha.fresh hf).one (by omega)
      have c1 := h1 i hlt
      have i1 : (0 : Int) ≤ (i : Int) := Int.natCast_nonneg _
      have i2 : (i : Int) < (n : Int) := by omega
      by_cases hlt2 : i + 1 < n
      · have c2 := h1 (i + 1) hlt2
        have i3 : (i : Int) + 1 < (n : Int) := by omega
        have hd : decide ((i : Int) + 1 < (n : Int)) = true := decide_eq_true i3
        clear h1
        by_cases hit : l.getD i 0 = p ∧ l.getD (i + 1) 0 = q
        · have HE := hidd (joinL_hit (t := t) (show i + 1 < l.length by rw [← EN.out]; exact hlt2) hit)
          rw [hit.1] at c1
          rw [hit.2] at c2
          clear hit
          have HO := hidd (fun (k : Nat) (ob : Obj) => HJ.out.own1 (fresh_trans (fresh_drewN wr k) (fresh_alloc _ ob)) t)
          have EL := hidd (app_last o t)
          go_wp2
          go_quiet (fail)
          go_wp2_with (at_builtin; refine wpList_app1 _ rfl _ _ 28 rfl w1.heap.size 3 (.int .i64 0) 8 Try.underlying28 infoI rfl _ o.length (fun j => .int .i64 ((o ++ [t]).getD j 0)) rfl (HO.out _ _) _ 1 rfl (new_int _ _ EL.out) rfl (by omega) (by omega) (by simp; omega) ?_)
          intro v' w6 hown' happ
          have HJ2 := hidd (HJ.out.next (fresh_trans (fresh_drewN wr _) (fresh_alloc _ _)) t (i + 1 + 1) (by omega) (by rw [← EN.out]; omega) HE.out hown' happ)
          clear happ hown' c1 c2 y0 y1
          go_wp2
          go_roundw
          case rel => exact ⟨i + 1 + 1, _, by go_num, HJ2.out⟩
          case measure => simp [intOf]; omega
        · have HE := hidd (joinL_miss (t := t) (show i < l.length by rw [← EN.out]; exact hlt) (fun _ => hit))
          obtain ⟨A, eA⟩ : ∃ A, A = l.getD i 0 := ⟨_, rfl⟩
          obtain ⟨B, eB⟩ : ∃ B, B = l.getD (i + 1) 0 := ⟨_, rfl⟩
          rw [← eA] at c1 hit HE
          rw [← eB] at c2 hit
          clear eA eB
          have HO := hidd (fun (k : Nat) (ob : Obj) => HJ.out.own1 (fresh_trans (fresh_drewN wr k) (fresh_alloc _ ob)) A)
          have EL := hidd (app_last o A)
          by_cases e1 : A = p
          · have e2 : ¬ B = q := fun h => hit ⟨e1, h⟩
            have hd2 : (B == q) = false := by simp [e2]
            subst e1
            clear hit
            go_wp2
            go_quiet (fail)
            go_wp2_with (at_builtin; refine wpList_app1 _ rfl _ _ 28 rfl w1.heap.size 3 (.int .i64 0) 8 Try.underlying28 infoI rfl _ o.length (fun j => .int .i64 ((o ++ [A]).getD j 0)) rfl (HO.out _ _) _ 1 rfl (new_int _ _ EL.out) rfl (by omega) (by omega) (by simp; omega) ?_)
            intro v' w6 hown' happ
            have HJ2 := hidd (HJ.out.next (fresh_trans (fresh_drewN wr _) (fresh_alloc _ _)) A (i + 1) (by omega) (by rw [← EN.out]; omega) HE.out hown' happ)
            clear happ hown' c1 c2 y0 y1
            go_wp2
            go_roundw
            case rel => exact ⟨i + 1, _, by go_num, HJ2.out⟩
            case measure => simp [intOf]; omega
          · have hd1 : (A == p) = false := by simp [e1]
            have hd2 : decide (A = p) = false := by simp [e1]
            clear hit
            go_wp2
            go_quiet (fail)
            go_wp2_with (at_builtin; refine wpList_app1 _ rfl _ _ 28 rfl w1.heap.size 3 (.int .i64 0) 8 Try.underlying28 infoI rfl _ o.length (fun j => .int .i64 ((o ++ [A]).getD j 0)) rfl (HO.out _ _) _ 1 rfl (new_int _ _ EL.out) rfl (by omega) (by omega) (by simp; omega) ?_)
            intro v' w6 hown' happ
            have HJ2 := hidd (HJ.out.next (fresh_trans (fresh_drewN wr _) (fresh_alloc _ _)) A (i + 1) (by omega) (by rw [← EN.out]; omega) HE.out hown' happ)
            clear happ hown' c1 c2 y0 y1
            go_wp2
            go_roundw
            case rel => exact ⟨i + 1, _, by go_num, HJ2.out⟩
            case measure => simp [intOf]; omega
      · have HE := hidd (joinL_miss (p := p) (q := q) (t := t) (show i < l.length by rw [← EN.out]; exact hlt) (fun h => absurd h (by rw [← EN.out]; exact hlt2)))
        obtain ⟨A, eA⟩ : ∃ A, A = l.getD i 0 := ⟨_, rfl⟩
        rw [← eA] at c1 HE
        have hd : decide ((i : Int) + 1 < (n : Int)) = false := decide_eq_false (by omega)
        have HO := hidd (fun (k : Nat) (ob : Obj) => HJ.out.own1 (fresh_trans (fresh_drewN wr k) (fresh_alloc _ ob)) A)
        have EL := hidd (app_last o A)
        clear eA h1
        go_wp2
        go_quiet (fail)
        go_wp2_with (at_builtin; refine wpList_app1 _ rfl _ _ 28 rfl w1.heap.size 3 (.int .i64 0) 8 Try.underlying28 infoI rfl _ o.length (fun j => .int .i64 ((o ++ [A]).getD j 0)) rfl (HO.out _ _) _ 1 rfl (new_int _ _ EL.out) rfl (by omega) (by omega) (by simp; omega) ?_)
        intro v' w6 hown' happ
        have HJ2 := hidd (HJ.out.next (fresh_trans (fresh_drewN wr _) (fresh_alloc _ _)) A (i + 1) (by omega) (by rw [← EN.out]; omega) HE.out hown' happ)
        clear happ hown' c1 y0 y1
        go_wp2
        go_roundw
        case rel => exact ⟨i + 1, _, by go_num, HJ2.out⟩
        case measure => simp [intOf]; omega
    · have HE : Hid (o = joinL p q t l) := by
        have := HJ.out.eq
        rw [List.drop_eq_nil_of_le (by rw [← EN.out]; omega)] at this
        show _ = _
        rw [← this]; simp [joinL]
      go_wp2
      go_ret
      exact ⟨_, rfl, by rw [← HE.out]; exact Own.weaken HJ.out.own hf0.size, hf⟩
end Go.Proofs.Yteiocgciblogdab
