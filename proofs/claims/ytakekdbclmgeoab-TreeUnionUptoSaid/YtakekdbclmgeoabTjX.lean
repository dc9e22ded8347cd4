import Derived.Test.YtakekdbclmgeoabTjA
namespace Go.Proofs.Ytakekdbclmgeoab
open Go.RowKit
/-! CopyRaw and spareRaw at any length. -/
set_option maxRecDepth 20000 in
set_option maxHeartbeats 1600000 in
theorem copyR_big {w : World} {ao : Option Addr} {cap : Nat} {R : List (Int × Int)} (h : RdA w ao 2 R.length cap (rwF R)) (hn : R.length * 16 ≤ 140737488351232) :
    Calls Try.prog 13 #[.slice ao R.length cap] w fun e w' => ∃ u uc, e = .returned (.slice u R.length uc) ∧ Own w' w.heap.size 41 2 (.slice u R.length uc) R.length (rwF R) ∧ Below w.heap.size w w' := by
  obtain ⟨n, HN⟩ : ∃ n, Hid (n = R.length) := ⟨_, rfl⟩
  rw [← HN.out] at h hn ⊢
  have HH := hidd h
  clear h
  go_enter Try.func13, Try.ntmps13
  go_wp2
  go_loopw [3, 4] (fun v i wr => ∃ k : Nat, k ≤ n ∧ i = .int .i64 k ∧ Hid (Own wr w.heap.size 41 2 v k (rwF (R.take k))) ∧ Hid (Below w.heap.size w wr)) (fun _ i _ => n - (intOf i).toNat)
  case atStart => exact ⟨0, by omega, rfl, own_nil _ _ _ _ _, Below.refl _ _⟩
  case round =>
    obtain ⟨k, hk, rfl, HO, HF⟩ := hrel
    have hsz := HF.out.size
    by_cases hlt : k < n
    · obtain ⟨b1, o1, hu, h1⟩ := (HH.out.fresh HF.out).raw HN.out (by omega)
      subst hu
      obtain ⟨c1, c2⟩ := h1 k hlt
      have hR : k < R.length := by have := HN.out; omega
      have HX := hidd (rw_cells wr (R.take k) (R.getD k (0, 0)).1 (R.getD k (0, 0)).2 (n := k) (by rw [List.length_take]; omega))
      rw [← take_app R hR] at HX
      have HO2 : Hid (Own wr w.heap.size 41 2 u3 k (rwF (R.take (k + 1)))) := HO.out.congr (fun j hj => rwF_pre (by rw [take_app R hR]; exact List.prefix_append _ _) (by rw [List.length_take]; omega))
      have g1 : (k : Int) < (n : Int) := by omega
      clear h1 hR
      generalize (R.getD k (0, 0)).1 = y1 at c1 HX
      generalize (R.getD k (0, 0)).2 = y2 at c2 HX
      go_wp2_with (at_builtin; refine wpList_app _ rfl _ _ 22 rfl w.heap.size 41 (.agg #[.int .i64 0, .int .i64 0]) 2 16 Try.underlying22 infoR rfl (by decide) _ k (rwF (R.take (k + 1))) rfl (HO2.out.kept (fresh_alloc _ _)) _ 1 1 rfl HX.out (fun j _ => rwF_one _ _) (by decide) (by unfold maxLen; omega) (by omega) (by simp; omega) ?_)
      intro v' w1 hown' happ
      have HF1 := hidd (happ.below (HF.out.alloc hsz _) (HO2.out.kept (fresh_alloc _ _)) (Nat.le_refl _) (by simp; omega))
      have HO1 := hidd hown'
      clear happ hown'
      go_wp2
      go_roundw
      case rel => exact ⟨k + 1, by omega, by go_num, HO1, HF1⟩
      case measure => simp [intOf]; omega
    · obtain rfl : k = n := by omega
      have HO3 : Hid (Own wr w.heap.size 41 2 u3 k (rwF R)) := by have := HO.out; rw [List.take_of_length_le (by have := HN.out; omega)] at this; exact this
      obtain ⟨u, uc, rfl, _⟩ := HO3.out.rd
      go_wp2
      go_ret
      exact ⟨u, uc, rfl, HO3.out, HF.out⟩
set_option maxRecDepth 20000 in
set_option maxHeartbeats 1600000 in
theorem spareR_big {w : World} {ao : Option Addr} {cap : Nat} {R : List (Int × Int)} (h : RdA w ao 2 R.length cap (rwF R)) (hn : R.length * 16 ≤ 140737488351232) :
    Calls Try.prog 7 #[.slice ao R.length cap] w fun e w' => ∃ u uc, e = .returned (.slice u R.length uc) ∧ Mkr w w' u uc R := by
  have HCP := hidd (copyR_big h hn)
  obtain ⟨n, HN⟩ : ∃ n, Hid (n = R.length) := ⟨_, rfl⟩
  have HMK : Hid (∀ (w2 : World) (u2 : Option Addr) (c2 : Nat), Own w2 w.heap.size 41 2 (.slice u2 (n + 2) c2) (n + 2) (rwF (mkR R)) → Below w.heap.size w w2 → Mkr w w2 u2 c2 R) := fun w2 u2 c2 h1 h2 => ⟨by rw [HN.out] at h1; exact h1, h2⟩
  have HHX : Hid (∀ (w1 : World) (u : Option Addr) (uc : Nat), Own w1 w.heap.size 41 2 (.slice u n uc) n (rwF R) → Below w.heap.size w w1 → Hid (Own w1 w.heap.size 41 2 (.slice u n uc) n (rwF (mkR R))) ∧ Hid (∀ j, j < 2 * 2 → (w1.alloc (.cells #[.int .i64 (-71), .int .i64 (-72), .int .i64 (-73), .int .i64 (-74)] 41)).cell? ⟨w1.heap.size, j, none⟩ = some (rwF (mkR R) (n * 2 + j))) ∧ Hid (Below w.heap.size w w1) ∧ w.heap.size ≤ w1.heap.size) := by
    intro w1 u uc ho1 hb1
    refine ⟨ho1.congr (fun j hj => rwF_pre (List.prefix_append _ _) (by have := HN.out; omega)), fun j hj => ?_, hb1, hb1.size⟩
    have e0 : (mkR R).getD n (0, 0) = (-71, -72) := by unfold mkR; rw [HN.out, List.getD_eq_getElem?_getD, List.getElem?_append_right (Nat.le_refl _)]; simp
    have e1 : (mkR R).getD (n + 1) (0, 0) = (-73, -74) := by unfold mkR; rw [HN.out, List.getD_eq_getElem?_getD, List.getElem?_append_right (by omega)]; simp
    unfold World.cell?
    rw [World.alloc_heap_new]
    match j, hj with
    | 0, _ => rw [Nat.add_zero, rwF_1, e0]; rfl
    | 1, _ => rw [rwF_2, e0]; rfl
    | 2, _ => rw [show n * 2 + 2 = (n + 1) * 2 by omega, rwF_1, e1]; rfl
    | 3, _ => rw [show n * 2 + 3 = (n + 1) * 2 + 1 by omega, rwF_2, e1]; rfl
  rw [← HN.out] at HCP hn ⊢
  clear h
  go_enter Try.func7, Try.ntmps7
  go_wp2_with (first
    | (go_at_call 13; with_reducible refine HCP.out.mono ?_; rintro e w1 ⟨u, uc, rfl, ho1, hb1⟩; obtain ⟨HO1, HX, HB1, hsz⟩ := HHX.out w1 u uc ho1 hb1; clear ho1 hb1 HCP HHX)
    | (at_builtin; refine wpList_app _ rfl _ _ 22 rfl w.heap.size 41 (.agg #[.int .i64 0, .int .i64 0]) 2 16 Try.underlying22 infoR rfl (by decide) _ n (rwF (mkR R)) rfl (HO1.out.kept (fresh_alloc _ _)) _ 2 2 rfl HX.out (fun j _ => rwF_one _ _) (by decide) (by unfold maxLen; omega) (by omega) (by simp; omega) ?_))
  intro v' w2 hown' happ
  have hf2 := happ.below (HB1.out.alloc hsz _) (HO1.out.kept (fresh_alloc _ _)) (Nat.le_refl _) (by simp; omega)
  obtain ⟨u2, c2, rfl, hr2⟩ := hown'.rd
  have HM := hidd (HMK.out w2 u2 c2 hown' hf2)
  have hle := hr2.le
  have e1 : (n : Int) ≤ (c2 : Int) := by omega
  obtain ⟨b, o, rfl, _⟩ := hr2.at_ (by omega)
  clear happ hown' hr2 hf2 HX HO1 HB1 HMK
  go_wp2
  go_ret
  exact ⟨_, _, rfl, HM.out⟩
end Go.Proofs.Ytakekdbclmgeoab
