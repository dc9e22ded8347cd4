import Derived.Test.YtppcgfdogacmkaaPE
namespace Go.Proofs.Ytppcgfdogacmkaa
open Go.RowKit
/-! A table's Slot, Blocks; its list's pop. -/
theorem own_empty (w : World) (t : TypeId) (cs : Nat → Value) : Own (w.alloc (.cells #[] t)) w.heap.size t 1 (.slice (some ⟨w.heap.size, 0, none⟩) 0 0) 0 cs := by
  refine ⟨by simp, .inr ⟨w.heap.size, 0, #[], rfl, Nat.le_refl _, ?_, Nat.le_refl _, by simp [maxLen], by simp, by simp⟩⟩
  exact Go.Deep.blk_alloc_new _ _
theorem eqNil_some (a : Addr) (n k : Nat) (w : World) : (binOp .eql 45 (.slice (some a) n k) (.slice none 0 0)).run Try.prog w = .ok (.bool false) w := by
  exact Lib.run_eql_slice_nil (P := Try.prog) w 45 3 (some a) n k 0 0 Try.underlying45
theorem eqNil_none (n k : Nat) (w : World) : (binOp .eql 45 (.slice none n k) (.slice none 0 0)).run Try.prog w = .ok (.bool true) w := by
  exact Lib.run_eql_slice_nil (P := Try.prog) w 45 3 none n k 0 0 Try.underlying45
theorem run_append_zero {P : Program} (w : World) (t ty e : TypeId) (ht : P.underlying t = some (.slice e)) {i : TypeInfo} (hi : P.info? e = some i) (ao u : Option Addr) (n cap k : Nat) (hle : n ≤ cap) :
    (Builtin.append_ #[t, t] ty #[.slice ao n cap, .slice u 0 k]).run P w = .ok (.slice ao n cap) w := by
  have hF : ∀ w, (Builtin.firstCells i.size 0 (.slice u 0 k)).run P w = .ok #[] w := fun w => by
    cases u with
    | none => exact run_firstCells_none w i.size 0 0 k
    | some a => exact run_firstCells_some w i.size 0 a 0 k [] (by simp) (by simp)
  cases ao with
  | none => cases u <;> simp [Builtin.append_, run_underlying ht, sizeOf, typeInfo, hi, Builtin.lenOf, hle, hF]
  | some a => cases u <;> simp [Builtin.append_, run_underlying ht, sizeOf, typeInfo, hi, Builtin.lenOf, hle, hF, storeCells]
theorem own_cases {w : World} {base : Nat} {e : TypeId} {sz : Nat} {v : Value} {n : Nat} {cs : Nat → Value} (h : Own w base e sz v n cs) : (v = .slice none 0 0 ∧ n = 0) ∨ ∃ g cap, v = .slice (some ⟨g, 0, none⟩) n cap := by
  rcases h.2 with ⟨h1, h2⟩ | ⟨g, cap, cur, h1, _⟩
  · exact .inl ⟨h1, h2⟩
  · exact .inr ⟨g, cap, h1⟩
set_option maxHeartbeats 2000000 in
theorem clone_any {w : World} {base m : Nat} {v : Value} {bl : Nat → Nat} (h : Own w base 3 1 v m (fun i => .int .i64 (bl i))) (hm : m ≤ 1073741824) :
    Calls Try.prog 46 #[v] w fun e w' => ∃ u, e = .returned u ∧ Own w' w.heap.size 3 1 u m (fun i => .int .i64 (bl i)) ∧ Below w.heap.size w w' := by
  by_cases h0 : 0 < m
  · obtain ⟨b, cap, F, rfl, h1, h2, h3, hr, hF⟩ := Own.row1 h h0
    have HO := hidd (own_empty w 3 (fun i => .int .i64 (bl i)))
    have HC : Hid (∀ j, j < m * 1 → (w.alloc (.cells #[] 3)).cell? ⟨b, j, none⟩ = some ((fun i => Value.int .i64 (bl i : Int)) (0 * 1 + j))) := fun j hj => by
      rw [fresh_cell (fresh_alloc _ _) (hr.cell (i := j) (by omega)), hF j (by omega)]; simp
    clear hr hF h
    have hq := eqNil_some ⟨b, 0, none⟩ m cap
    go_enter Try.func46, Try.ntmps46
    go_wp2_with (at_builtin; refine wpList_app _ rfl _ _ 45 rfl w.heap.size 3 (.int .i64 0) 1 8 Try.underlying45 infoI rfl (by decide) _ 0 (fun i => .int .i64 (bl i)) rfl HO.out b m cap rfl HC.out (fun _ _ => rfl) h0 (by unfold maxLen; omega) (by omega) (by simp) ?_)
    intro v' w6 hown' happ
    have hf6 := happ.below (fresh_alloc w _) HO.out (Nat.le_refl _) (by simp)
    have hown2 : Own w6 w.heap.size 3 1 v' m (fun i => .int .i64 (bl i)) := by simpa using hown'
    have HP := hidd hown2
    obtain ⟨a9, k9, rfl, _⟩ := hown2.rd
    clear happ hown' hown2
    go_wp2
    go_ret
    exact ⟨_, rfl, HP.out, hf6⟩
  · obtain rfl : m = 0 := by omega
    obtain ⟨i0, hi0, _, _, _⟩ := info_parts infoI
    rcases own_cases h with ⟨rfl, _⟩ | ⟨b, cap, rfl⟩
    · have hq := eqNil_none 0 0
      go_enter Try.func46, Try.ntmps46
      go_wp2
      go_ret
      exact ⟨_, rfl, own_nil _ _ _ _ _, Below.refl _ _⟩
    · have hq := eqNil_some ⟨b, 0, none⟩ 0 cap
      go_enter Try.func46, Try.ntmps46
      go_wp2_with (at_builtin; refine Lib.wpList_append_run _ rfl _ _ _ _ rfl _ _ rfl rfl _ _ (run_append_zero _ 45 _ 3 Try.underlying45 hi0 _ (some ⟨b, 0, none⟩) 0 0 cap (Nat.le_refl _)) ?_)
      all_goals (go_ret; exact ⟨_, rfl, own_empty _ _ _, fresh_alloc _ _⟩)
set_option maxHeartbeats 800000 in
theorem blocks_any {w : World} {base t g S m : Nat} {v : Value} {bl : Nat → Nat} (h : TblAt w base t g S v m bl) (hm : m ≤ 1073741824) :
    Calls Try.prog 18 #[.pointer (some ⟨t, 0, none⟩)] w fun e w' => ∃ ao cap, e = .returned (.slice ao m cap) ∧ Own w' w.heap.size 3 1 (.slice ao m cap) m (fun i => .int .i64 (bl i)) ∧ Below w.heap.size w w' := by
  obtain ⟨c0, c1, c2⟩ := row3 h.row
  have HC := hidd (clone_any h.own hm)
  obtain ⟨ao, cap, rfl⟩ := h.shape
  clear h
  go_enter Try.func18, Try.ntmps18
  go_wp2_with (go_at_call 46; refine HC.out.mono ?_; rintro e w9 ⟨u, rfl, ho, hf⟩; have HO9 := hidd ho; obtain ⟨a9, k9, rfl, _⟩ := ho.rd; clear ho)
  go_ret
  exact ⟨_, _, rfl, HO9.out, hf⟩
set_option maxRecDepth 20000 in
set_option maxHeartbeats 800000 in
theorem slot_any {w : World} {base t g S m n : Nat} {v : Value} {bl : Nat → Nat} (h : TblAt w base t g S v m bl) (hS : 1 ≤ S ∧ S ≤ 16) (hm : m ≤ 1073741824) (hn : n ≤ 9223372036854775807) (hp : n / S < m) (hb : bl (n / S) ≤ 1000000) :
    Calls Try.prog 20 #[.pointer (some ⟨t, 0, none⟩), .int .i64 n] w fun e w' => e = .returned (.tuple #[.int .i64 ((bl (n / S) * S + n % S : Nat) : Int), .int .i64 0]) ∧ Below w.heap.size w w' := by
  obtain ⟨c0, c1, c2⟩ := row3 h.row
  have H := hidd h
  obtain ⟨ao, cap, rfl⟩ := h.shape
  have HR := hidd (reaches_any c0 c1 hS hn)
  rw [decide_eq_true hp] at HR
  have e1 : (n : Int).tmod (S : Int) = ((n % S : Nat) : Int) := rfl
  have e2 : (n : Int) % (S : Int) = ((n % S : Nat) : Int) := rfl
  have hz : ¬ (S : Int) = 0 := by omega
  have hz' : ((S : Int) == 0) = false := by simp; omega
  have hr := Nat.mod_lt n (show 0 < S by omega)
  have HL : Hid (∀ w9, Below w.heap.size w w9 → ∀ x : Later w9, Calls Try.prog 48 #[.pointer (some ⟨t, 0, none⟩), .int .i64 n] x.val fun e w' => e = .returned (.int .i64 (bl (n / S) : Nat)) ∧ Below x.val.heap.size x.val w') := fun w9 hf x => lat_any ((H.out.fresh hf).fresh x.fresh) hS hm hp
  obtain ⟨y, hy⟩ : ∃ y, y = bl (n / S) * S := ⟨_, rfl⟩
  have e5 : (bl (n / S) : Int) * (S : Int) = (y : Int) := by rw [hy]; push_cast; rfl
  have hy2 : y ≤ 16000000 := by rw [hy]; have := Nat.mul_le_mul hb hS.2; omega
  rw [← hy]
  have C0 := hidd c0
  clear h hp hb hy
  generalize n % S = r at *
  generalize bl (n / S) = d at *
  clear c0 c1 c2 H
  go_enter Try.func20, Try.ntmps20
  go_wp2_with (go_at_call 47; refine HR.out.mono ?_; rintro e w9 ⟨rfl, hf⟩)
  have hne := later_some w9
  have k0 := later_cell (fresh_cell hf C0.out)
  have HL9 := hidd (HL.out w9 hf)
  clear HR C0 HL
  refine wp_region_later (by kernel_rfl) (by kernel_rfl) ?_
  repeat (go_big_quiet_step (fail))
  go_big_quiet_step (exact later_of (HL9.out _))
  repeat (go_big_quiet_step (fail))
  refine wpQuiet_nil ?_
  rintro _ ⟨z, rfl⟩
  have hz := z.fresh
  clear k0 HL9 hne
  go_wp2
  go_ret2
  refine ⟨?_, fresh_trans hf hz⟩
  simp
end Go.Proofs.Ytppcgfdogacmkaa
