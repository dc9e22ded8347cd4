import Derived.Test.YtknfddakpfkcfabDoorJxA
import Derived.Deep.LoopGhost
namespace Go.Proofs.YtknfddakpfkcfabDoor
open Go.RowKit
/-! kid, least, behind. -/
set_option maxRecDepth 20000 in
theorem least_any (w : World) (a b : Int) {x : Int} (h : x = min a b) : Calls Tryd.prog 13 #[.int .i64 a, .int .i64 b] w fun e w' => e = .returned (.int .i64 x) ∧ w' = w := by
  have HX := hidd h
  clear h
  by_cases c : a < b
  · have d : decide (a < b) = true := decide_eq_true c
    obtain rfl : x = a := by have := HX.out; omega
    go_enter Tryd.func13, Tryd.ntmps13
    go_wp2
    go_ret
    exact ⟨rfl, rfl⟩
  · have d : decide (a < b) = false := decide_eq_false c
    obtain rfl : x = b := by have := HX.out; omega
    go_enter Tryd.func13, Tryd.ntmps13
    go_wp2
    go_ret
    exact ⟨rfl, rfl⟩
set_option maxRecDepth 20000 in
set_option maxHeartbeats 1600000 in
theorem kid_any {w : World} {ao : Option Addr} {n cap : Nat} {P T D : Nat → Int} (h : RdA w ao 3 n cap (nds P T D)) (ht : okT n P T D) (a : Nat) (t : Int) :
    Calls Tryd.prog 12 #[.slice ao n cap, .int .i64 (a : Int), .int .i64 t] w fun e w' => (∃ k : Nat, e = .returned (.int .i64 (k : Int)) ∧ ((k = 0 ∧ ∀ i, i < n → ¬ (P i = (a : Int) ∧ T i = t)) ∨ Kd n P T a t k)) ∧ Below w.heap.size w w' := by
  have hn : n ≤ 32 := ht.2.1
  have HT := hidd ht
  have HH := hidd h
  have HP0 := hidd ht.2.2.1
  have h1 := ht.1
  have HS0 : Hid (∀ j, j < 1 → ¬ (P j = (a : Int) ∧ T j = t)) := fun j hj q => by
    obtain rfl : j = 0 := by omega
    have e1 := HP0.out
    have e2 := q.1
    omega
  clear h ht
  go_enter Tryd.func12, Tryd.ntmps12
  go_wp2
  go_loopw [7] (fun v wr => ∃ k : Nat, 1 ≤ k ∧ k ≤ n ∧ v = .int .i64 (k : Int) ∧ Hid (∀ j, j < k → ¬ (P j = (a : Int) ∧ T j = t)) ∧ Hid (Below w.heap.size w wr)) (fun v _ => n - (intOf v).toNat)
  case atStart => exact ⟨1, by omega, by omega, rfl, HS0, Below.refl _ _⟩
  case round =>
    obtain ⟨k, hk1, hk2, rfl, HE, HF⟩ := hrel
    by_cases hlt : k < n
    · obtain ⟨b1, o1, hu, hc⟩ := (HH.out.fresh HF.out).node (by omega)
      subst hu
      obtain ⟨c1, c2, _⟩ := hc k hlt
      have g1 : (k : Int) < (n : Int) := by omega
      clear hc
      obtain ⟨p, HP⟩ : ∃ p, Hid (p = P k) := ⟨_, rfl⟩
      obtain ⟨x, HX⟩ : ∃ x, Hid (x = T k) := ⟨_, rfl⟩
      rw [← HP.out] at c1
      rw [← HX.out] at c2
      by_cases e1 : p = (a : Int)
      · subst e1
        by_cases e2 : x = t
        · subst e2
          have HKD : Hid (Kd n P T a x k) := ⟨hlt, HP.out.symm, HX.out.symm⟩
          go_wp2
          go_ret
          exact ⟨⟨k, rfl, .inr HKD.out⟩, HF.out⟩
        · have HNX : Hid (∀ j, j < k + 1 → ¬ (P j = (a : Int) ∧ T j = t)) := fun j hj q => by
            by_cases c : j = k
            · subst c; exact e2 (HX.out.trans q.2)
            · exact HE.out j (by omega) q
          have d2 : decide (x = t) = false := decide_eq_false e2
          go_wp2
          go_roundw
          case rel => exact ⟨k + 1, by omega, by omega, by go_num, HNX, HF⟩
          case measure => simp [intOf]; omega
      · have HNX : Hid (∀ j, j < k + 1 → ¬ (P j = (a : Int) ∧ T j = t)) := fun j hj q => by
          by_cases c : j = k
          · subst c; exact e1 (HP.out.trans q.1)
          · exact HE.out j (by omega) q
        have d1 : decide (p = (a : Int)) = false := decide_eq_false e1
        go_wp2
        go_roundw
        case rel => exact ⟨k + 1, by omega, by omega, by go_num, HNX, HF⟩
        case measure => simp [intOf]; omega
    · obtain rfl : k = n := by omega
      go_wp2
      go_ret
      exact ⟨⟨0, rfl, .inl ⟨rfl, HE.out⟩⟩, HF.out⟩
/-- the tokens of a node's way, the root's left out -/
def tkN (P T : Nat → Int) (i : Nat) : List Int := (wy P i).tail.map T
theorem tkN_len (P T : Nat → Int) (i : Nat) : (tkN P T i).length = (wy P i).length - 1 := by simp [tkN]
theorem tkN_at {P T : Nat → Int} {i k : Nat} (h : k + 1 < (wy P i).length) : (tkN P T i).getD k 0 = T ((wy P i).getD (k + 1) 0) := by
  have h1 : k < (tkN P T i).length := by rw [tkN_len]; omega
  have h2 : k < (wy P i).tail.length := by simp; omega
  rw [List.getD_eq_getElem?_getD, List.getD_eq_getElem?_getD, List.getElem?_eq_getElem h1, List.getElem?_eq_getElem h]
  simp [tkN]
theorem lF_take (K X : List Int) (k : Nat) : lF (K ++ X.take (k + 1)) (K.length + k) = .int .i64 (X.getD k 0) := by
  unfold lF
  congr 1
  rw [List.getD_eq_getElem?_getD, List.getD_eq_getElem?_getD, List.getElem?_append_right (by omega), show K.length + k - K.length = k by omega, List.getElem?_take_of_lt (by omega)]
theorem lF_same {K X : List Int} {k j : Nat} (hj : j < K.length + k) : lF (K ++ X.take k) j = lF (K ++ X.take (k + 1)) j := by
  unfold lF
  congr 1
  rw [List.getD_eq_getElem?_getD, List.getD_eq_getElem?_getD]
  congr 1
  by_cases c : j < K.length
  · rw [List.getElem?_append_left c, List.getElem?_append_left c]
  · rw [List.getElem?_append_right (by omega), List.getElem?_append_right (by omega), List.getElem?_take_of_lt (by omega), List.getElem?_take_of_lt (by omega)]
set_option maxRecDepth 20000 in
set_option maxHeartbeats 3200000 in
theorem behind_any {w : World} {ao bo : Option Addr} {n ca cb : Nat} {P T D : Nat → Int} {K : List Int} (hK : RdA w bo 1 K.length cb (lF K)) (hk : K.length * 8 ≤ 140737488351232) (h : RdA w ao 3 n ca (nds P T D)) (ht : okT n P T D) {i : Nat} (hi : i < n) :
    Calls Tryd.prog 8 #[.slice bo K.length cb, .slice ao n ca, .int .i64 (i : Int)] w fun e w' => ∃ u c, e = .returned (.slice u (K ++ tkN P T i).length c) ∧ Own w' w.heap.size 3 1 (.slice u (K ++ tkN P T i).length c) (K ++ tkN P T i).length (lF (K ++ tkN P T i)) ∧ Below w.heap.size w w' := by
  have hn : n ≤ 32 := ht.2.1
  have HCP := hidd (copyI_any (f := fun j => K.getD j 0) hK (by omega))
  have HWA : Hid (∀ w1, Below w.heap.size w w1 → Calls Tryd.prog 20 #[.slice ao n ca, .int .i64 i] w1 fun e w' => ∃ u c, e = .returned (.slice u (wy P i).length c) ∧ Own w' w1.heap.size 3 1 (.slice u (wy P i).length c) (wy P i).length (qF (wy P i)) ∧ Below w1.heap.size w1 w') := fun w1 h1 => way_any ht i hi (h.fresh h1)
  have hm := (wy_len ht i hi).1
  have HW4 := hidd (wy_chain ht i hi).2.2.2.1
  have hm1 := (wy_chain ht i hi).1
  have HH := hidd h
  obtain ⟨m, HM⟩ : ∃ m, Hid (m = (wy P i).length) := ⟨_, rfl⟩
  rw [← HM.out] at HWA hm hm1 HW4
  obtain ⟨q, HQ⟩ : ∃ q, Hid (q = K.length) := ⟨_, rfl⟩
  rw [← HQ.out] at HCP hk
  obtain ⟨X, HXX⟩ : ∃ X, Hid (X = tkN P T i) := ⟨_, rfl⟩
  have HXL : Hid (X.length = m - 1) := by show _ = _; rw [HXX.out, tkN_len, HM.out]
  have HXA : Hid (∀ k, k + 1 < m → X.getD k 0 = T ((wy P i).getD (k + 1) 0)) := fun k hk => by rw [HXX.out]; exact tkN_at (by rw [← HM.out]; exact hk)
  have HLEN : Hid ((K ++ tkN P T i).length = q + (m - 1)) := by show _ = _; rw [List.length_append, ← HXX.out, HXL.out, HQ.out]
  rw [HLEN.out, ← HXX.out, ← HQ.out]
  clear h hK HXX HLEN ht
  go_enter Tryd.func8, Tryd.ntmps8
  go_wp2_with (first
    | (go_at_call 11; with_reducible refine HCP.out.mono ?_; rintro e w2 ⟨u2, c2, rfl, ho2, hb2⟩; have HF2 := hidd hb2; have HO2 := hidd ho2; clear hb2 ho2)
    | (go_at_call 20; with_reducible refine (HWA.out _ HF2.out).mono ?_; rintro e w3 ⟨u3, c3, rfl, ho3, hb3⟩; have HF3 := hidd (HF2.out.trans (hb3.mono HF2.out.size)); have HO23 := hidd (HO2.out.kept hb3); have HO3 := hidd ho3; have hsz := hb3.size; clear hb3 ho3))
  obtain ⟨z2, HZ2⟩ : ∃ z, Hid (z = w2.heap.size) := ⟨_, rfl⟩
  have HOF : Hid (Off (.slice u2 q c2) (.slice u3 m c3)) := fun b h1 h2 => by
    have e1 := (HO2.out.lt b h1).2
    have e2 := (HO3.out.lt b h2).1
    omega
  rw [← HZ2.out] at HO3
  clear hsz HCP HWA HO2 HF2
  go_loopw [7, 9] (fun v vi wr => ∃ k : Nat, k + 1 ≤ m ∧ vi = .int .i64 ((k + 1 : Nat) : Int) ∧ Hid (Own wr w.heap.size 3 1 v (q + k) (lF (K ++ X.take k))) ∧ Hid (Own wr z2 3 1 (.slice u3 m c3) m (qF (wy P i))) ∧ Hid (Off v (.slice u3 m c3)) ∧ Hid (Below w.heap.size w wr)) (fun _ vi _ => m - (intOf vi).toNat)
  case atStart => exact ⟨0, by omega, rfl, by rw [List.take_zero, List.append_nil]; exact HO23, HO3, HOF, HF3⟩
  case round =>
    obtain ⟨k, hk1, rfl, HO, HW, HOF, HF⟩ := hrel
    have hsz := HF.out.size
    by_cases hlt : k + 1 < m
    · obtain ⟨b1, o1, hu, hc⟩ := (HH.out.fresh HF.out).node (by omega)
      subst hu
      obtain ⟨bw, ow, hu, hw⟩ := (own_rda HW.out).one (by omega)
      subst hu
      obtain ⟨j, HJ⟩ : ∃ j, Hid (j = (wy P i).getD (k + 1) 0) := ⟨_, rfl⟩
      have hj : j < n := by rw [HJ.out]; exact HW4.out (k + 1) hlt
      have cw : wr.cell? ⟨bw, ow + (k + 1), none⟩ = some (.int .i64 (j : Int)) := by rw [HJ.out]; exact hw (k + 1) hlt
      obtain ⟨_, ct, _⟩ := hc j hj
      have HXK : Hid (X.getD k 0 = T j) := by show _ = _; rw [HJ.out]; exact HXA.out k hlt
      have g1 : ((k + 1 : Nat) : Int) < (m : Int) := by omega
      have g2 : (j : Int) < (n : Int) := by omega
      have g3 : ((k + 1 : Nat) : Int).toNat = k + 1 := by omega
      have HO2 : Hid (Own wr w.heap.size 3 1 u7 (q + k) (lF (K ++ X.take (k + 1)))) := HO.out.congr (fun y hy => lF_same (by have := HQ.out; omega))
      have HX : Hid (∀ (w0 : World) (t : TypeId), (w0.alloc (.cells #[.int .i64 (T j)] t)).cell? ⟨w0.heap.size, 0, none⟩ = some (lF (K ++ X.take (k + 1)) (q + k))) := fun w0 t => by rw [HQ.out, lF_take, HXK.out]; exact new_cell _ _ _
      have HONE : Hid ((lF (K ++ X.take (k + 1)) (q + k)).oneCell' = true) := rfl
      obtain ⟨u7a, u7c, rfl, _⟩ := own_sl HO2.out
      generalize T j = x at ct HX
      clear hc hw HXK
      go_wp2_with (at_builtin; refine wpList_app1 _ rfl _ _ 23 rfl w.heap.size 3 (.int .i64 0) 8 Tryd.underlying23 infoI rfl _ (q + k) (lF (K ++ X.take (k + 1))) rfl (HO2.out.kept (fresh_alloc _ _)) _ 1 rfl (HX.out _ _) HONE.out (by omega) (by omega) (by simp; omega) ?_)
      intro v' w4 hown' happ
      have HF4 := hidd (happ.below (HF.out.alloc hsz _) (HO2.out.kept (fresh_alloc _ _)) (Nat.le_refl _) (by simp; omega))
      have HW4' := hidd (happ.own (HW.out.kept (fresh_alloc _ _)) HOF.out)
      have HOF4 := hidd (happ.off (HW.out.kept (fresh_alloc _ _)) HOF.out)
      clear happ
      go_wp2
      go_roundw
      case rel => exact ⟨k + 1, by omega, by go_num, hown', HW4', HOF4, HF4⟩
      case measure => simp [intOf]; omega
    · obtain ⟨u7a, u7c, rfl, _⟩ := own_sl HO.out
      have HE : Hid (Own wr w.heap.size 3 1 (.slice u7a (q + k) u7c) (q + k) (lF (K ++ X))) := by
        have := HO.out
        rwa [List.take_of_length_le (by have := HXL.out; omega)] at this
      have HEQ : Hid (q + (m - 1) = q + k) := by show _ = _; omega
      have g0 : ¬ ((k + 1 : Nat) : Int) < (m : Int) := by omega
      go_wp2
      go_ret
      exact ⟨u7a, u7c, by rw [HEQ.out]; rfl, by rw [HEQ.out]; exact HE.out, HF.out⟩
end Go.Proofs.YtknfddakpfkcfabDoor
