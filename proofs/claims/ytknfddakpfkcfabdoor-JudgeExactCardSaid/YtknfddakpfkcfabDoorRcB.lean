import Derived.Test.YtknfddakpfkcfabDoorRcA
namespace Go.Proofs.YtknfddakpfkcfabDoor
open Go.RowKit
/-! way, place. -/
theorem infoR : (Tryd.prog.info? 71).map (fun i => (i.zero, i.size, i.bytes)) = some (some (.agg #[.int .i64 0, .int .i64 0]), 2, 16) := by kernel_rfl
theorem infoSI : (Tryd.prog.info? 23).map (fun i => (i.zero, i.size, i.bytes)) = some (some (.slice none 0 0), 1, 24) := by kernel_rfl
def rP (R : List (Int × Int)) : Nat → Int := fun i => (R.getD i (0, 0)).1
def rT (R : List (Int × Int)) : Nat → Int := fun i => (R.getD i (0, 0)).2
/-- the numbers of a list -/
def lF (L : List Int) : Nat → Value := fun j => .int .i64 (L.getD j 0)
theorem lF_app (L M : List Int) {j : Nat} (hj : j < L.length) : lF (L ++ M) j = lF L j := by
  unfold lF
  rw [List.getD_eq_getElem?_getD, List.getD_eq_getElem?_getD, List.getElem?_append_left hj]
theorem lF_at (L : List Int) (x : Int) : lF (L ++ [x]) L.length = .int .i64 x := by
  unfold lF
  rw [List.getD_eq_getElem?_getD, List.getElem?_append_right (Nat.le_refl _)]
  simp
/-- what way answers -/
structure WaP (R : List (Int × Int)) (v : Int) (i : Nat) (w w' : World) (L : List Int) (ok : Bool) (x : Value) : Prop where
  own : Own w' w.heap.size 3 1 x L.length (lF L)
  low : Below w.heap.size w w'
  le : L.length ≤ i + 1
  good : ok = true → wl (rP R) (rT R) v i = some L
  bad : ok = false → wl (rP R) (rT R) v i = none
def WaA (R : List (Int × Int)) (v : Int) (i : Nat) (w : World) (e : Ending) (w' : World) : Prop := ∃ x ok L, e = .returned (.tuple #[x, .bool ok]) ∧ WaP R v i w w' L ok x
theorem WaA.mk {R : List (Int × Int)} {v : Int} {i : Nat} {w w' : World} {e : Ending} {x : Value} {ok : Bool} (L : List Int) (h : e = .returned (.tuple #[x, .bool ok])) (k : WaP R v i w w' L ok x) : WaA R v i w e w' := ⟨x, ok, L, h, k⟩
theorem WaA.out {R : List (Int × Int)} {v : Int} {i : Nat} {w w' : World} {e : Ending} (h : WaA R v i w e w') : ∃ x ok L, e = .returned (.tuple #[x, .bool ok]) ∧ WaP R v i w w' L ok x := h
set_option maxRecDepth 20000 in
set_option maxHeartbeats 1600000 in
theorem rway_any {R : List (Int × Int)} {v : Int} {n : Nat} (hn : n ≤ 96) : ∀ (i : Nat), i < n → ∀ {w : World} {ao : Option Addr} {cap : Nat}, RdA w ao 2 n cap (rwF R) →
    Calls Tryd.prog 27 #[.slice ao n cap, .int .i64 (i : Int), .int .i64 v] w (WaA R v i w) := by
  intro i
  induction i using Nat.strongRecOn with
  | ind i ih =>
    intro hi w ao cap h
    obtain ⟨b1, o1, rfl, hc⟩ := rd_moves h (by omega)
    obtain ⟨e0, e1⟩ := hc i hi
    obtain ⟨p, HP⟩ : ∃ p, Hid (p = rP R i) := ⟨_, rfl⟩
    obtain ⟨t, HTt⟩ : ∃ p, Hid (p = rT R i) := ⟨_, rfl⟩
    have c0 : w.cell? ⟨b1, o1 + i * 2, none⟩ = some (.int .i64 p) := by rw [HP.out]; exact e0
    have c1 : w.cell? ⟨b1, o1 + i * 2 + 1, none⟩ = some (.int .i64 t) := by rw [HTt.out]; exact e1
    clear e0 e1
    have i0 : (0 : Int) ≤ (i : Int) := by omega
    have i1 : (i : Int) < (n : Int) := by omega
    obtain ⟨w1, HW1⟩ : ∃ x, Hid (x = w.alloc (.cells #[.int .i64 p, .int .i64 t] 71)) := ⟨_, rfl⟩
    have HF1 : Hid (Below w.heap.size w w1) := by rw [HW1.out]; exact fresh_alloc _ _
    have q0 : w1.cell? ⟨w.heap.size, 0, none⟩ = some (.int .i64 p) := by rw [HW1.out]; simp
    have q1 : w1.cell? ⟨w.heap.size, 1, none⟩ = some (.int .i64 t) := by rw [HW1.out]; simp
    have HIH : Hid (∀ j : Nat, j < i → Calls Tryd.prog 27 #[.slice (some ⟨b1, o1, none⟩) n cap, .int .i64 (j : Int), .int .i64 v] w1 (WaA R v j w1)) := fun j hj => ih j hj (by omega) (h.fresh HF1.out)
    have HBAD : Hid (¬ gdW p t v i → wl (rP R) (rT R) v i = none) := by rw [HP.out, HTt.out]; exact wl_bad
    have HONE : Hid (gdW p t v i → p = -1 → wl (rP R) (rT R) v i = some [t]) := by rw [HP.out, HTt.out]; exact wl_one
    have HUP : Hid (gdW p t v i → ¬ p = -1 → wl (rP R) (rT R) v i = (wl (rP R) (rT R) v p.toNat).map (· ++ [t])) := by rw [HP.out, HTt.out]; exact wl_up
    have hsz := HF1.out.size
    clear hc ih h HP HTt
    go_enter Tryd.func27, Tryd.ntmps27
    go_upto_region 2 with fail
    rw [← HW1.out]
    clear c0 c1
    by_cases a1 : t < 1
    · have d1 : decide (t < 1) = true := decide_eq_true a1
      have HE := hidd (HBAD.out (fun g => by have := g.1; omega))
      go_wp2
      go_ret2
      exact WaA.mk [] (ok := false) rfl ⟨own_nil _ _ _ _ _, HF1.out, Nat.zero_le _, fun q => (by cases q), fun _ => HE.out⟩
    have d1 : decide (t < 1) = false := decide_eq_false a1
    by_cases a2 : v ≤ t
    · have d2 : decide (v ≤ t) = true := decide_eq_true a2
      have HE := hidd (HBAD.out (fun g => by have := g.2.1; omega))
      go_wp2
      go_ret2
      exact WaA.mk [] (ok := false) rfl ⟨own_nil _ _ _ _ _, HF1.out, Nat.zero_le _, fun q => (by cases q), fun _ => HE.out⟩
    have d2 : decide (v ≤ t) = false := decide_eq_false a2
    by_cases a3 : p < -1
    · have d3 : decide (p < -1) = true := decide_eq_true a3
      have HE := hidd (HBAD.out (fun g => by have := g.2.2.1; omega))
      go_wp2
      go_ret2
      exact WaA.mk [] (ok := false) rfl ⟨own_nil _ _ _ _ _, HF1.out, Nat.zero_le _, fun q => (by cases q), fun _ => HE.out⟩
    have d3 : decide (p < -1) = false := decide_eq_false a3
    by_cases a4 : (i : Int) ≤ p
    · have d4 : decide ((i : Int) ≤ p) = true := decide_eq_true a4
      have HE := hidd (HBAD.out (fun g => by have := g.2.2.2; omega))
      go_wp2
      go_ret2
      exact WaA.mk [] (ok := false) rfl ⟨own_nil _ _ _ _ _, HF1.out, Nat.zero_le _, fun q => (by cases q), fun _ => HE.out⟩
    have d4 : decide ((i : Int) ≤ p) = false := decide_eq_false a4
    have hg : gdW p t v i := ⟨by omega, by omega, by omega, by omega⟩
    by_cases a5 : p = -1
    · have HE := hidd (HONE.out hg a5)
      have HO1 := hidd (own_one (w := w1) (.int .i64 t) 3 (lF [t]) rfl)
      subst a5
      go_wp2
      go_ret2
      exact WaA.mk [t] (ok := true) rfl ⟨HO1.out.weaken hsz, HF1.out.alloc hsz _, by simp, fun _ => HE.out, fun q => (by cases q)⟩
    · obtain ⟨j, rfl⟩ : ∃ j : Nat, p = (j : Int) := ⟨p.toNat, by omega⟩
      have HE := hidd (HUP.out hg a5)
      have d5 : ((j : Int) == -1) = false := by rw [beq_eq_false_iff_ne]; omega
      have K := hidd (HIH.out j (by omega))
      have hji : j < i := by omega
      clear HBAD HONE HUP HIH a1 a2 a3 a4 a5 hg
      go_upto_region 7 with (go_at_call 27; with_reducible refine K.out.mono ?_; rintro e w2 k2; obtain ⟨x2, ok, L, rfl, q⟩ := k2.out; clear k2; have HQ := hidd q; have F2 := hidd (HF1.out.trans (q.low.mono HF1.out.size)); have s1 := fresh_cell q.low q1; clear K q)
      have hsz2 := F2.out.size
      have hLl := HQ.out.le
      have HOq : Hid (Own w2 w.heap.size 3 1 x2 L.length (lF (L ++ [t]))) := (HQ.out.own.weaken hsz).congr (fun k hk => (lF_app L [t] (by omega)).symm)
      have HX : Hid (∀ (w0 : World) (ty : TypeId), (w0.alloc (.cells #[.int .i64 t] ty)).cell? ⟨w0.heap.size, 0, none⟩ = some (lF (L ++ [t]) L.length)) := fun w0 ty => by rw [lF_at]; exact new_cell _ _ _
      have HON : Hid ((lF (L ++ [t]) L.length).oneCell' = true) := by rw [lF_at]; rfl
      go_wp2_with (at_builtin; refine wpList_app1 _ rfl _ _ 23 rfl w.heap.size 3 (.int .i64 0) 8 Tryd.underlying23 infoI rfl _ L.length (lF (L ++ [t])) rfl (HOq.out.kept (fresh_alloc _ _)) _ 1 rfl (HX.out _ _) HON.out (by omega) (by omega) (by simp; omega) ?_)
      intro v' w3 hown' happ
      have HF3 := hidd (happ.below (F2.out.alloc hsz2 _) (HOq.out.kept (fresh_alloc _ _)) (Nat.le_refl _) (by simp; omega))
      have HO3 : Hid (Own w3 w.heap.size 3 1 v' (L ++ [t]).length (lF (L ++ [t]))) := by rw [List.length_append]; exact hown'
      clear happ hown' HX HON
      go_wp2
      go_ret2
      refine WaA.mk (L ++ [t]) (ok := ok) rfl ⟨HO3.out, HF3.out, by simp; omega, fun q => ?_, fun q => ?_⟩
      · rw [HE.out, Int.toNat_natCast, HQ.out.good q]; rfl
      · rw [HE.out, Int.toNat_natCast, HQ.out.bad q]; rfl
end Go.Proofs.YtknfddakpfkcfabDoor
