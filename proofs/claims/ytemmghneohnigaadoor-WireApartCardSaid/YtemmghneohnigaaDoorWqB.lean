import Derived.Test.YtemmghneohnigaaDoorWqA
import Derived.Test.YtemmghneohnigaaDoorHeld
import Derived.Deep.RegionLaw
import Derived.Laws.BitsAllLaws
namespace Go.Proofs.YtemmghneohnigaaDoor
open Go.RowKit
/-! appendPiece and the reference's digit. -/
theorem step_appM {P : Program} (w : World) {ops : Array Oper} {o : Oper} {a : Act} {K : Act → World → Prop} {Q : Exit → Act → World → Prop} {E : Prop} (hgd : o.guard = none) (s x : Operand) (t : TypeId)
    (ho : o.op = .call { callee := .builtin .append, args := #[s, x], argTypes := #[t, t] })
    (base : Nat) (e : TypeId) (z : Value) (bytes : Nat) (ht : P.underlying t = some (.slice e)) (hinfo : (P.info? e).map (fun i => (i.zero, i.size, i.bytes)) = some (some z, 1, bytes)) (h6 : z.cells.size = 1)
    (v : Value) (n m : Nat) (cs : Nat → Value) (hs : a.eval s = v) (hown : Own w base e 1 v n cs)
    (g c : Nat) (hx : a.eval x = .slice (some ⟨g, 0, none⟩) m c) (hc : ∀ j, j < m → w.cell? ⟨g, j, none⟩ = some (cs (n + j))) (h1c : ∀ j, j < m → (cs (n + j)).oneCell' = true)
    (hm : 0 < m) (b1 : n + m ≤ maxLen) (b2 : (n + m) * bytes ≤ 140737488355328) (hb : base ≤ w.heap.size)
    (h : ∀ g' cap w', Own w' base e 1 (.slice (some ⟨g', 0, none⟩) (n + m) cap) (n + m) cs → App w w' v (.slice (some ⟨g', 0, none⟩) (n + m) cap) → K (a.put o.dst (.slice (some ⟨g', 0, none⟩) (n + m) cap)) w') :
    if Region.wanted o (yielded ops a.tmps) = true then Oper.wp P o a w K Q else E := by
  obtain ⟨i, hi, hz0, hz1, hz2⟩ := info_parts hinfo
  refine step_append_lies w hgd s x t ho base e i z 1 bytes ht hi hz0 hz1 hz2 h6 (by decide) v n _ hs hown ⟨g, 0, none⟩ m c ((List.range m).map fun j => cs (n + j)) hx (by simp) ?_ ?_ hm b1 b2 hb w.heap.size rfl ?_
  · intro j u hj
    rw [add_lit0]
    by_cases hlt : j < m
    · simp [hlt] at hj; rw [hc j hlt, hj]
    · simp [hlt] at hj
  · intro u hu
    obtain ⟨j, hj, rfl⟩ := List.mem_map.1 hu
    exact h1c j (List.mem_range.1 hj)
  · intro g' cap w' h2 h3 h4 h5
    refine h g' cap w' ?_ ⟨h3, fun k hk => ?_⟩
    · unfold Own
      have e1 := news_len n m 1 cs
      simp only [Nat.mul_one] at e1 ⊢ h2
      rw [← e1]
      exact h2
    · simp only [Value.ownBlock, Option.some.injEq] at hk
      subst hk
      rcases h4 with h4 | h4
      · exact .inl h4
      · exact .inr (by omega)
theorem hx_at {q : Int} (h0 : 0 ≤ q) (h1 : q < 16) (h : q.toNat < (⟨#[48, 49, 50, 51, 52, 53, 54, 55, 56, 57, 97, 98, 99, 100, 101, 102]⟩ : ByteArray).size) : ((((⟨#[48, 49, 50, 51, 52, 53, 54, 55, 56, 57, 97, 98, 99, 100, 101, 102]⟩ : ByteArray)[q.toNat]'h).toNat : Nat) : Int) = hxD q := by
  obtain ⟨k, rfl⟩ := Int.eq_ofNat_of_zero_le h0
  have hk : k < 16 := by omega
  clear h0 h1
  match k, hk with
  | 0, _ => rfl
  | 1, _ => rfl
  | 2, _ => rfl
  | 3, _ => rfl
  | 4, _ => rfl
  | 5, _ => rfl
  | 6, _ => rfl
  | 7, _ => rfl
  | 8, _ => rfl
  | 9, _ => rfl
  | 10, _ => rfl
  | 11, _ => rfl
  | 12, _ => rfl
  | 13, _ => rfl
  | 14, _ => rfl
  | 15, _ => rfl
  | k + 16, h => exact absurd h (by omega)
theorem and15 {c : Int} (h0 : 0 ≤ c) (h1 : c ≤ 255) : bits .and .u8 c 15 = c % 16 := by
  rw [u8_and c 15 h0 (by omega) (by omega) (by omega)]
  have := Nat.and_two_pow_sub_one_eq_mod c.toNat 4
  simp at this ⊢
  rw [this]
  omega
set_option maxRecDepth 20000 in
theorem digit_any {n : Int} (h0 : 0 ≤ n) (h1 : n < 16) (w : World) : Calls Tryd.prog 46 #[.int .u8 n] w fun e w' => e = .returned (.int .u8 (hxD n)) ∧ w' = w := by
  by_cases h : n < 10
  · go_enter Tryd.func46, Tryd.ntmps46
    go_wp2
    go_ret
    exact ⟨ret_int (by unfold hxD; rw [if_pos h]), rfl⟩
  · go_enter Tryd.func46, Tryd.ntmps46
    go_wp2
    go_ret
    exact ⟨ret_int (by unfold hxD; rw [if_neg (by omega)]; omega), rfl⟩
set_option maxRecDepth 20000 in
set_option maxHeartbeats 1000000 in
theorem apppiece_any {w : World} {base n : Nat} {v : Value} {cs : Nat → Value} {c : Int} (hown : Own w base 5 1 v n cs) (h0 : 0 ≤ c) (h1 : c ≤ 255) (hcs : ∀ j, j < (pie c).length → cs (n + j) = .int .u8 ((pie c).getD j 0)) (hb : base ≤ w.heap.size) (hn : n + 4 ≤ 140737488355328) :
    Calls Tryd.prog 23 #[v, .int .u8 c] w fun e w' => ∃ v', e = .returned v' ∧ Own w' base 5 1 v' (n + (pie c).length) cs ∧ Below base w w' := by
  have HO := hidd hown
  clear hown
  by_cases hq : c = 34 ∨ c = 92
  · rw [pie_quo hq] at hcs ⊢
    have e0 := hcs 0 (by simp)
    have e1 := hcs 1 (by simp)
    simp only [List.getD_cons_zero, List.getD_cons_succ, Nat.add_zero] at e0 e1
    have HX : Hid (∀ (w0 : World) (t : TypeId), (∀ j, j < 2 * 1 → (w0.alloc (.cells #[.int .u8 92, .int .u8 c] t)).cell? ⟨w0.heap.size, j, none⟩ = some (cs (n * 1 + j)))) := fun w0 t j hj => by
      rw [Nat.mul_one]
      match j, hj with
      | 0, _ => simp [e0]
      | 1, _ => simp [e1]
    have HON : Hid (∀ j, j < 2 * 1 → (cs (n * 1 + j)).oneCell' = true) := fun j hj => by
      rw [Nat.mul_one]
      match j, hj with
      | 0, _ => rw [Nat.add_zero, e0]; rfl
      | 1, _ => rw [e1]; rfl
    clear hcs e0 e1
    rcases hq with rfl | rfl
    all_goals
      go_enter Tryd.func23, Tryd.ntmps23
      go_wp2_with (at_builtin; refine wpList_app _ rfl _ _ 22 rfl base 5 (.int .u8 0) 1 1 Tryd.underlying22 infoB rfl (by decide) _ n cs rfl (HO.out.kept (fresh_alloc _ _)) _ 2 2 rfl (HX.out _ _) HON.out (by decide) (by unfold maxLen; omega) (by omega) (by simp; omega) ?_)
      intro v' w6 hown' happ
      have hf := happ.below ((Below.refl base w).alloc hb _) (HO.out.kept (fresh_alloc _ _)) (Nat.le_refl _) (by simp; omega)
      obtain ⟨ao, cap, rfl, _⟩ := hown'.rd
      clear happ
      go_wp2
      go_ret
      exact ⟨_, rfl, hown', hf⟩
  · have hq1 : ¬ c = 34 := fun e => hq (.inl e)
    have hq2 : ¬ c = 92 := fun e => hq (.inr e)
    have bq1 : (c == 34) = false := by simp [hq1]
    have bq2 : (c == 92) = false := by simp [hq2]
    by_cases ho : 32 ≤ c ∧ c ≤ 126
    · obtain ⟨o1, o2⟩ := ho
      rw [pie_own hq ⟨o1, o2⟩] at hcs ⊢
      have e0 := hcs 0 (by simp)
      simp only [List.getD_cons_zero, Nat.add_zero] at e0
      have HE := hidd e0
      clear hcs e0 hq
      have bo1 : decide (32 ≤ c) = true := by simp [o1]
      have bo2 : decide (c ≤ 126) = true := by simp [o2]
      go_enter Tryd.func23, Tryd.ntmps23
      go_wp2_with (at_builtin; refine wpList_app1 _ rfl _ _ 22 rfl base 5 (.int .u8 0) 1 Tryd.underlying22 infoB rfl _ n cs rfl (HO.out.kept (fresh_alloc _ _)) _ 1 rfl (by rw [HE.out]; exact new_cell _ _ _) (by rw [HE.out]; rfl) (by omega) (by omega) (by simp; omega) ?_)
      intro v' w6 hown' happ
      have hf := happ.below ((Below.refl base w).alloc hb _) (HO.out.kept (fresh_alloc _ _)) (Nat.le_refl _) (by simp; omega)
      obtain ⟨ao, cap, rfl, _⟩ := hown'.rd
      clear happ
      go_wp2
      go_ret
      exact ⟨_, rfl, hown', hf⟩
    · rw [pie_hex hq ho] at hcs ⊢
      have e0 := hcs 0 (by simp)
      have e1 := hcs 1 (by simp)
      have e2 := hcs 2 (by simp)
      have e3 := hcs 3 (by simp)
      simp only [List.getD_cons_zero, List.getD_cons_succ, Nat.add_zero] at e0 e1 e2 e3
      have ha := and15 h0 h1
      have q0 : 0 ≤ c / 16 := by omega
      have q1 : c / 16 < 16 := by omega
      have r0 : 0 ≤ c % 16 := by omega
      have r1 : c % 16 < 16 := by omega
      have HQ := hidd (hx_at q0 q1)
      have HR := hidd (hx_at r0 r1)
      have HX : Hid (∀ (w0 : World) (t : TypeId) (x y : Int), x = hxD (c / 16) → y = hxD (c % 16) → ∀ j, j < 4 → (w0.alloc (.cells #[.int .u8 92, .int .u8 120, .int .u8 x, .int .u8 y] t)).cell? ⟨w0.heap.size, j, none⟩ = some (cs (n + j))) := fun w0 t x y ex ey j hj => by
        subst ex ey
        match j, hj with
        | 0, _ => simp [e0]
        | 1, _ => simp [e1]
        | 2, _ => simp [e2]
        | 3, _ => simp [e3]
      have HON : Hid (∀ j, j < 4 → (cs (n + j)).oneCell' = true) := fun j hj => by
        match j, hj with
        | 0, _ => rw [Nat.add_zero, e0]; rfl
        | 1, _ => rw [e1]; rfl
        | 2, _ => rw [e2]; rfl
        | 3, _ => rw [e3]; rfl
      clear hcs hq e0 e1 e2 e3
      by_cases h32 : 32 ≤ c
      · have bo1 : decide (32 ≤ c) = true := by simp [h32]
        have bo2 : decide (c ≤ 126) = false := by
          have : ¬ c ≤ 126 := fun h => ho ⟨h32, h⟩
          simp [this]
        clear ho
        go_enter Tryd.func23, Tryd.ntmps23
        go_wp2
        go_region_law ((refine step_appM _ (by rfl) _ _ _ (by rfl) base 5 (.int .u8 0) 1 Tryd.underlying22 infoB rfl _ n 4 cs (by rfl) (HO.out.kept ((Below.refl _ _).drew.alloc (Nat.le_refl _) _)) w.heap.size 4 (by rfl) (HX.out _ _ _ _ (HQ.out _) (HR.out _)) HON.out (by decide) (by unfold maxLen; omega) (by omega) (by simp; omega) ?_; intro g' cap' w9 ho9 ha9))
        all_goals
          have hf := ha9.below ((Below.refl base w).drew.alloc hb _) (HO.out.kept ((Below.refl _ _).drew.alloc (Nat.le_refl _) _)) (Nat.le_refl _) (by simp; omega)
          clear ha9
          go_wp2
          go_ret
          exact ⟨_, rfl, ho9, hf⟩
      · have bo1 : decide (32 ≤ c) = false := by simp; omega
        clear ho
        go_enter Tryd.func23, Tryd.ntmps23
        go_wp2
        go_region_law ((refine step_appM _ (by rfl) _ _ _ (by rfl) base 5 (.int .u8 0) 1 Tryd.underlying22 infoB rfl _ n 4 cs (by rfl) (HO.out.kept ((Below.refl _ _).drew.alloc (Nat.le_refl _) _)) w.heap.size 4 (by rfl) (HX.out _ _ _ _ (HQ.out _) (HR.out _)) HON.out (by decide) (by unfold maxLen; omega) (by omega) (by simp; omega) ?_; intro g' cap' w9 ho9 ha9))
        all_goals
          have hf := ha9.below ((Below.refl base w).drew.alloc hb _) (HO.out.kept ((Below.refl _ _).drew.alloc (Nat.le_refl _) _)) (Nat.le_refl _) (by simp; omega)
          clear ha9
          go_wp2
          go_ret
          exact ⟨_, rfl, ho9, hf⟩
end Go.Proofs.YtemmghneohnigaaDoor
