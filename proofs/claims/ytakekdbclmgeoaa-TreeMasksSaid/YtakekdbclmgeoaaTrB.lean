import Derived.Test.YtakekdbclmgeoaaTrA
namespace Go.Proofs.Ytakekdbclmgeoaa
open Go.RowKit
/-! Index, Contains. -/
def Amg (n : Nat) (P T D : Nat → Int) (p t d : Int) : Prop := ∃ k, k < n ∧ P k = p ∧ T k = t ∧ D k = d
theorem box3 (w : World) (p t d : Int) (ty : TypeId) : (w.alloc (.cells #[.int .i64 p, .int .i64 t, .int .i64 d] ty)).cell? ⟨w.heap.size, 0, none⟩ = some (.int .i64 p) ∧ (w.alloc (.cells #[.int .i64 p, .int .i64 t, .int .i64 d] ty)).cell? ⟨w.heap.size, 1, none⟩ = some (.int .i64 t) ∧ (w.alloc (.cells #[.int .i64 p, .int .i64 t, .int .i64 d] ty)).cell? ⟨w.heap.size, 2, none⟩ = some (.int .i64 d) := by
  refine ⟨?_, ?_, ?_⟩ <;> (unfold World.cell?; rw [World.alloc_heap_new]; rfl)
set_option maxRecDepth 20000 in
set_option maxHeartbeats 1600000 in
theorem index_any {w : World} {ao : Option Addr} {n cap : Nat} {P T D : Nat → Int} (h : RdA w ao 3 n cap (nds P T D)) (p t d : Int) :
    Calls Try.prog 46 #[.slice ao n cap, .agg #[.int .i64 p, .int .i64 t, .int .i64 d]] w fun e w' => (∃ r : Int, e = .returned (.int .i64 r) ∧ (0 ≤ r ↔ Amg n P T D p t d)) ∧ Below w.heap.size w w' := by
  have hn : n ≤ 9223372036854775807 := by have := h.le; have := h.top; unfold maxLen at this; omega
  have HH := hidd h
  clear h
  obtain ⟨w0, HW0⟩ : ∃ w0, Hid (w0 = w.alloc (.cells #[.int .i64 p, .int .i64 t, .int .i64 d] 54)) := ⟨_, rfl⟩
  have hs0 : w.heap.size < w0.heap.size := by rw [HW0.out]; simp
  have HB0 : Hid (Below w.heap.size w w0) := by rw [HW0.out]; exact fresh_alloc _ _
  have HBX : Hid (∀ wr, Below w0.heap.size w0 wr → wr.cell? ⟨w.heap.size, 0, none⟩ = some (.int .i64 p) ∧ wr.cell? ⟨w.heap.size, 1, none⟩ = some (.int .i64 t) ∧ wr.cell? ⟨w.heap.size, 2, none⟩ = some (.int .i64 d)) := fun wr hf => by
    obtain ⟨c1, c2, c3⟩ := box3 w p t d 54
    rw [← HW0.out] at c1 c2 c3
    exact ⟨fresh_cell hf c1, fresh_cell hf c2, fresh_cell hf c3⟩
  go_enter Try.func46, Try.ntmps46
  go_wp2
  rw [← HW0.out]
  go_loopw [8] (fun i wr => ∃ k : Nat, k ≤ n ∧ i = .int .i64 k ∧ Hid (∀ j, j < k → ¬ (P j = p ∧ T j = t ∧ D j = d)) ∧ Hid (Below w0.heap.size w0 wr)) (fun i _ => n - (intOf i).toNat)
  case atStart => exact ⟨0, by omega, rfl, fun j hj => absurd hj (by omega), Below.refl _ _⟩
  case round =>
    obtain ⟨k, hk, rfl, HE, HF⟩ := hrel
    have HFW := hidd (HB0.out.trans (HF.out.mono HB0.out.size))
    by_cases hlt : k < n
    · obtain ⟨b1, o1, hu, h1⟩ := (HH.out.fresh HFW.out).node (by omega)
      subst hu
      obtain ⟨c1, c2, c3⟩ := h1 k hlt
      obtain ⟨d1, d2, d3⟩ := HBX.out wr HF.out
      clear h1
      have g0 : (k : Int) < (n : Int) := by omega
      by_cases e : P k = p ∧ T k = t ∧ D k = d
      · have HM : Hid (Amg n P T D p t d) := ⟨k, hlt, e⟩
        rw [e.1] at c1
        rw [e.2.1] at c2
        rw [e.2.2] at c3
        clear e
        go_wp2
        go_quiet (fail)
        go_wp2
        go_ret
        exact ⟨⟨_, rfl, ⟨fun _ => HM.out, fun _ => by omega⟩⟩, below_drewN HFW.out _⟩
      · have HE3 := hidd e
        have HNX : Hid (∀ j, j < k + 1 → ¬ (P j = p ∧ T j = t ∧ D j = d)) := fun j hj => by
          by_cases q : j = k
          · rw [q]; exact HE3.out
          · exact HE.out j (by omega)
        generalize P k = y1 at *
        generalize T k = y2 at *
        generalize D k = y3 at *
        by_cases e1 : p = y1
        · subst e1
          by_cases e2 : t = y2
          · subst e2
            have e3 : ¬ d = y3 := fun q => e ⟨rfl, rfl, q.symm⟩
            clear e HE3
            go_wp2
            go_quiet (fail)
            go_wp2
            go_roundw
            case rel => exact ⟨k + 1, by omega, by go_num, HNX, below_drewN HF.out _⟩
            case measure => simp [intOf]; omega
          · clear e HE3
            go_wp2
            go_quiet (fail)
            go_wp2
            go_roundw
            case rel => exact ⟨k + 1, by omega, by go_num, HNX, below_drewN HF.out _⟩
            case measure => simp [intOf]; omega
        · clear e HE3
          go_wp2
          go_quiet (fail)
          go_wp2
          go_roundw
          case rel => exact ⟨k + 1, by omega, by go_num, HNX, below_drewN HF.out _⟩
          case measure => simp [intOf]; omega
    · obtain rfl : n = k := by omega
      have HN : Hid (¬ Amg n P T D p t d) := fun ⟨j, hj, q⟩ => HE.out j hj q
      go_wp2
      go_ret
      exact ⟨⟨-1, rfl, ⟨fun h => absurd h (by omega), fun h => absurd h HN.out⟩⟩, HFW.out⟩
set_option maxRecDepth 20000 in
set_option maxHeartbeats 1600000 in
theorem contains_any {w : World} {ao : Option Addr} {n cap : Nat} {P T D : Nat → Int} (h : RdA w ao 3 n cap (nds P T D)) (p t d : Int) {r : Bool} (hr : r = true ↔ Amg n P T D p t d) :
    Calls Try.prog 41 #[.slice ao n cap, .agg #[.int .i64 p, .int .i64 t, .int .i64 d]] w fun e w' => e = .returned (.bool r) ∧ Below w.heap.size w w' := by
  have HI := hidd (index_any (h.fresh (fresh_alloc w (.cells #[.int .i64 p, .int .i64 t, .int .i64 d] 54))) p t d)
  clear h
  obtain ⟨c1, c2, c3⟩ := box3 w p t d 54
  have HR := hidd hr
  clear hr
  obtain ⟨w0, HW0⟩ : ∃ w0, Hid (w0 = w.alloc (.cells #[.int .i64 p, .int .i64 t, .int .i64 d] 54)) := ⟨_, rfl⟩
  have HB0 : Hid (Below w.heap.size w w0) := by rw [HW0.out]; exact fresh_alloc _ _
  rw [← HW0.out] at c1 c2 c3 HI
  go_enter Try.func41, Try.ntmps41
  cases r with
  | true =>
    go_wp2_with (go_at_call 46; rw [← HW0.out]; with_reducible refine HI.out.mono ?_; rintro e w2 ⟨⟨z, rfl, hz⟩, hb2⟩; have d1 : decide ((0 : Int) ≤ z) = true := decide_eq_true (hz.2 (HR.out.1 rfl)); have HB2 := hidd (HB0.out.trans (hb2.mono HB0.out.size)); clear hz hb2)
    go_ret
    exact ⟨rfl, HB2.out⟩
  | false =>
    go_wp2_with (go_at_call 46; rw [← HW0.out]; with_reducible refine HI.out.mono ?_; rintro e w2 ⟨⟨z, rfl, hz⟩, hb2⟩; have d1 : decide ((0 : Int) ≤ z) = false := decide_eq_false (fun h => absurd (HR.out.2 (hz.1 h)) (by simp)); have HB2 := hidd (HB0.out.trans (hb2.mono HB0.out.size)); clear hz hb2)
    go_ret
    exact ⟨rfl, HB2.out⟩
end Go.Proofs.Ytakekdbclmgeoaa
