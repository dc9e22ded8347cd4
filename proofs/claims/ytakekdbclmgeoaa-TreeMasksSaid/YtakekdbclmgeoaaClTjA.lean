import Derived.Test.YtakekdbclmgeoaaClTrA
namespace Go.Proofs.Ytakekdbclmgeoaa.Cl
open Go.RowKit
/-! Raw nodes in memory; EqRaw, CopyRaw, spareRaw, rawStays. -/
theorem infoR : (Try.prog.info? 57).map (fun i => (i.zero, i.size, i.bytes)) = some (some (.agg #[.int .i64 0, .int .i64 0]), 2, 16) := by kernel_rfl
def rwF (R : List (Int × Int)) : Nat → Value := fun j => if j % 2 = 0 then .int .i64 (R.getD (j / 2) (0, 0)).1 else .int .i64 (R.getD (j / 2) (0, 0)).2
theorem rwF_app (R : List (Int × Int)) (x : Int × Int) (j : Nat) (h : j < R.length * 2) : rwF R j = rwF (R ++ [x]) j := by
  unfold rwF
  rw [List.getD_eq_getElem?_getD, List.getD_eq_getElem?_getD, List.getElem?_append_left (by omega)]
theorem rwF_fst (R : List (Int × Int)) (x : Int × Int) : rwF (R ++ [x]) (R.length * 2) = .int .i64 x.1 := by
  unfold rwF
  rw [if_pos (by omega), show R.length * 2 / 2 = R.length by omega]
  simp
theorem rwF_snd (R : List (Int × Int)) (x : Int × Int) : rwF (R ++ [x]) (R.length * 2 + 1) = .int .i64 x.2 := by
  unfold rwF
  rw [if_neg (by omega), show (R.length * 2 + 1) / 2 = R.length by omega]
  simp
theorem rwF_one (R : List (Int × Int)) (j : Nat) : (rwF R j).oneCell' = true := by
  unfold rwF
  split <;> rfl
theorem rwF_1 (R : List (Int × Int)) (k : Nat) : rwF R (k * 2) = .int .i64 (R.getD k (0, 0)).1 := by
  unfold rwF
  rw [if_pos (by omega), show k * 2 / 2 = k by omega]
theorem rwF_2 (R : List (Int × Int)) (k : Nat) : rwF R (k * 2 + 1) = .int .i64 (R.getD k (0, 0)).2 := by
  unfold rwF
  rw [if_neg (by omega), show (k * 2 + 1) / 2 = k by omega]
set_option maxRecDepth 20000 in
set_option maxHeartbeats 1600000 in
theorem eqRaw_same {w : World} {ao bo : Option Addr} {ca cb : Nat} {R : List (Int × Int)} (ha : RdA w ao 2 R.length ca (rwF R)) (hb : RdA w bo 2 R.length cb (rwF R)) :
    Calls Try.prog 11 #[.slice ao R.length ca, .slice bo R.length cb] w fun e w' => e = .returned (.bool true) ∧ Below w.heap.size w w' := by
  obtain ⟨n, hnl⟩ : ∃ n, n = R.length := ⟨_, rfl⟩
  rw [← hnl] at ha hb ⊢
  have hn : n ≤ 9223372036854775807 := by have := ha.le; have := ha.top; unfold maxLen at this; omega
  go_enter Try.func11, Try.ntmps11
  go_wp2
  go_loopw [5] (fun i wr => ∃ k : Nat, k ≤ n ∧ i = .int .i64 k ∧ Below w.heap.size w wr) (fun i _ => n - (intOf i).toNat)
  case atStart => exact ⟨0, by omega, rfl, Below.refl _ _⟩
  case round =>
    obtain ⟨k, hk, rfl, hf⟩ := hrel
    by_cases hlt : k < n
    · obtain ⟨b1, o1, rfl, h1⟩ := (ha.fresh hf).at_ (by omega)
      obtain ⟨b2, o2, rfl, h2⟩ := (hb.fresh hf).at_ (by omega)
      have c1 := h1 (k * 2) (by omega)
      have d1 := h1 (k * 2 + 1) (by omega)
      have c2 := h2 (k * 2) (by omega)
      have d2 := h2 (k * 2 + 1) (by omega)
      rw [rwF_1] at c1 c2
      rw [rwF_2, ← Nat.add_assoc] at d1 d2
      generalize (R.getD k (0, 0)).1 = y1 at c1 c2
      generalize (R.getD k (0, 0)).2 = y2 at d1 d2
      clear h1 h2
      go_wp2
      go_quiet (fail)
      go_wp2
      go_roundw
      case rel => exact ⟨k + 1, by omega, by go_num, below_drewN hf _⟩
      case measure => simp [intOf]; omega
    · obtain rfl : n = k := by omega
      go_wp2
      go_ret
      exact ⟨rfl, hf⟩
theorem rwF_pre {R S : List (Int × Int)} (h : R <+: S) {j : Nat} (hj : j < R.length * 2) : rwF R j = rwF S j := by
  obtain ⟨r, rfl⟩ := h
  unfold rwF
  rw [List.getD_eq_getElem?_getD, List.getD_eq_getElem?_getD, List.getElem?_append_left (by omega)]
theorem RdA.raw {w : World} {ao : Option Addr} {cap : Nat} {R : List (Int × Int)} {n : Nat} (hn' : n = R.length) (h : RdA w ao 2 n cap (rwF R)) (hn : 0 < n) : ∃ b o, ao = some ⟨b, o, none⟩ ∧ ∀ i, i < n → w.cell? ⟨b, o + i * 2, none⟩ = some (.int .i64 (R.getD i (0, 0)).1) ∧ w.cell? ⟨b, o + i * 2 + 1, none⟩ = some (.int .i64 (R.getD i (0, 0)).2) := by
  obtain ⟨b, o, e, hc⟩ := h.at_ hn
  refine ⟨b, o, e, fun i hi => ?_⟩
  have c0 := hc (i * 2) (by omega)
  have c1 := hc (i * 2 + 1) (by omega)
  rw [rwF_1] at c0
  rw [rwF_2, ← Nat.add_assoc] at c1
  exact ⟨c0, c1⟩
theorem rw_cells (w : World) (R : List (Int × Int)) (p t : Int) {n : Nat} (hn : n = R.length) : ∀ j, j < 1 * 2 → (w.alloc (.cells #[.int .i64 p, .int .i64 t] 57)).cell? ⟨w.heap.size, j, none⟩ = some (rwF (R ++ [(p, t)]) (n * 2 + j)) := fun j hj => by
  subst hn
  unfold World.cell?
  rw [World.alloc_heap_new]
  match j, hj with
  | 0, _ => rw [Nat.add_zero, rwF_fst]; rfl
  | 1, _ => rw [rwF_snd]; rfl
theorem take_app (R : List (Int × Int)) {k : Nat} (h : k < R.length) : R.take (k + 1) = R.take k ++ [((R.getD k (0, 0)).1, (R.getD k (0, 0)).2)] := by
  rw [List.take_succ_eq_append_getElem h, List.getD_eq_getElem?_getD, List.getElem?_eq_getElem h]
  rfl
set_option maxRecDepth 20000 in
set_option maxHeartbeats 1600000 in
theorem copyR_any {w : World} {ao : Option Addr} {cap : Nat} {R : List (Int × Int)} (h : RdA w ao 2 R.length cap (rwF R)) (hn : R.length ≤ 1048576) :
    Calls Try.prog 29 #[.slice ao R.length cap] w fun e w' => ∃ u uc, e = .returned (.slice u R.length uc) ∧ Own w' w.heap.size 57 2 (.slice u R.length uc) R.length (rwF R) ∧ Below w.heap.size w w' := by
  obtain ⟨n, HN⟩ : ∃ n, Hid (n = R.length) := ⟨_, rfl⟩
  rw [← HN.out] at h hn ⊢
  have HH := hidd h
  clear h
  go_enter Try.func29, Try.ntmps29
  go_wp2
  go_loopw [3, 4] (fun v i wr => ∃ k : Nat, k ≤ n ∧ i = .int .i64 k ∧ Hid (Own wr w.heap.size 57 2 v k (rwF (R.take k))) ∧ Hid (Below w.heap.size w wr)) (fun _ i _ => n - (intOf i).toNat)
  case atStart => exact ⟨0, by omega, rfl, own_nil _ _ _ _ _, Below.refl _ _⟩
  case round =>
    obtain ⟨k, hk, rfl, HO, HF⟩ := hrel
    have hsz := HF.out.size
    by_cases hlt : k < n
    · obtain ⟨b1, o1, hu, h1⟩ := (HH.out.fresh HF.out).raw HN.out (by omega)
      subst hu
      obtain ⟨c1, c2⟩ := h1 k hlt
      have hR : k < R.length := by have := HN.out; omega
      have HX := hidd (rw_cells wr (R.take k) (R.getD k (0, 0)).1 (R.getD k (0, 0)).2 (n := k) (by rw [List.length_take]; omega))
      rw [← take_app R hR] at HX
      have HO2 : Hid (Own wr w.heap.size 57 2 u3 k (rwF (R.take (k + 1)))) := HO.out.congr (fun j hj => rwF_pre (by rw [take_app R hR]; exact List.prefix_append _ _) (by rw [List.length_take]; omega))
      have g1 : (k : Int) < (n : Int) := by omega
      clear h1 hR
      generalize (R.getD k (0, 0)).1 = y1 at c1 HX
      generalize (R.getD k (0, 0)).2 = y2 at c2 HX
      go_wp2_with (at_builtin; refine wpList_app _ rfl _ _ 23 rfl w.heap.size 57 (.agg #[.int .i64 0, .int .i64 0]) 2 16 Try.underlying23 infoR rfl (by decide) _ k (rwF (R.take (k + 1))) rfl (HO2.out.kept (fresh_alloc _ _)) _ 1 1 rfl HX.out (fun j _ => rwF_one _ _) (by decide) (by unfold maxLen; omega) (by omega) (by simp; omega) ?_)
      intro v' w1 hown' happ
      have HF1 := hidd (happ.below (HF.out.alloc hsz _) (HO2.out.kept (fresh_alloc _ _)) (Nat.le_refl _) (by simp; omega))
      have HO1 := hidd hown'
      clear happ hown'
      go_wp2
      go_roundw
      case rel => exact ⟨k + 1, by omega, by go_num, HO1, HF1⟩
      case measure => simp [intOf]; omega
    · obtain rfl : k = n := by omega
      have HO3 : Hid (Own wr w.heap.size 57 2 u3 k (rwF R)) := by have := HO.out; rw [List.take_of_length_le (by have := HN.out; omega)] at this; exact this
      obtain ⟨u, uc, rfl, _⟩ := HO3.out.rd
      go_wp2
      go_ret
      exact ⟨u, uc, rfl, HO3.out, HF.out⟩
/-- the list with its marks -/
def mkR (R : List (Int × Int)) : List (Int × Int) := R ++ [(-71, -72), (-73, -74)]
theorem mkR_len (R : List (Int × Int)) : (mkR R).length = R.length + 2 := by unfold mkR; simp
structure Mkr (w w' : World) (u : Option Addr) (c : Nat) (R : List (Int × Int)) : Prop where
  own : Own w' w.heap.size 57 2 (.slice u (R.length + 2) c) (R.length + 2) (rwF (mkR R))
  low : Below w.heap.size w w'
theorem Mkr.all {w w' : World} {u : Option Addr} {c : Nat} {R : List (Int × Int)} (h : Mkr w w' u c R) : RdA w' u 2 (R.length + 2) c (rwF (mkR R)) := own_rda h.own
theorem mkR_rd {w : World} {u : Option Addr} {c : Nat} {R : List (Int × Int)} (h : RdA w u 2 (R.length + 2) c (rwF (mkR R))) : RdA w u 2 R.length c (rwF R) := (h.firsts (by omega)).congr (fun _ hj => (rwF_pre (List.prefix_append _ _) hj).symm)
end Go.Proofs.Ytakekdbclmgeoaa.Cl
