import Derived.Test.YtbpldnlafilbbaaNgS
import Derived.Test.YtbpldnlafilbbaaHeld
import Derived.Test.YtbpldnlafilbbaaLat
namespace Go.Proofs.Ytbpldnlafilbbaa
open Go.RowKit
/-! The reference's index: New, Append. -/
def rxF (most : Nat) (tv : Value) : Nat → Value := fun j => if j = 0 then .int .i64 (most : Int) else tv
/-- the reference's index in memory -/
structure Ri (w : World) (Y : Nat) (S : Nat → Prop) (most n : Nat) (tx : Nat → Int) : Prop where
  ex : ∃ tv, w.rowIs Y 62 2 (rxF most tv) ∧ Own w 0 3 1 tv n (fun j => .int .i64 (tx j)) ∧ ∀ b, tv.ownBlock = some b → S b ∧ b ≠ Y
  sY : S Y
  low : ∀ b, S b → b < w.heap.size
theorem Ri.chg {w w' : World} {Y : Nat} {S : Nat → Prop} {most n : Nat} {tx : Nat → Int} (h : Ri w Y S most n tx) {T : Nat → Prop} (c : Chg w w' T) (hT : ∀ b, S b → ¬ T b) : Ri w' Y S most n tx := by
  obtain ⟨tv, h1, h2, h3⟩ := h.ex
  exact ⟨⟨tv, c.row h1 (hT _ h.sY), h2.chg c (fun b hb => hT b (h3 b hb).1), h3⟩, h.sY, fun b hb => Nat.lt_of_lt_of_le (h.low b hb) c.size⟩
theorem Ri.fresh {w w' : World} {Y : Nat} {S : Nat → Prop} {most n : Nat} {tx : Nat → Int} (h : Ri w Y S most n tx) (f : Below w.heap.size w w') : Ri w' Y S most n tx := h.chg (Chg.of_below (fun _ => False) f) (fun _ _ t => t)
theorem Ri.text {w : World} {Y : Nat} {S : Nat → Prop} {most n : Nat} {tx ty : Nat → Int} (h : Ri w Y S most n tx) (e : ∀ j, j < n → tx j = ty j) : Ri w Y S most n ty := by
  obtain ⟨tv, h1, h2, h3⟩ := h.ex
  exact ⟨⟨tv, h1, h2.congr (fun j hj => by rw [e j (by omega)]), h3⟩, h.sY, h.low⟩
structure RiP (w w' : World) (Y : Nat) (S : Nat → Prop) (most n' : Nat) (tx : Nat → Int) : Prop where
  ex : ∃ S', Ri w' Y S' most n' tx ∧ Chg w w' S ∧ (∀ b, S b → S' b) ∧ ∀ b, S' b → S b ∨ w.heap.size ≤ b
set_option maxRecDepth 20000 in
set_option maxHeartbeats 1600000 in
theorem rnew_bad (k : Int) (h : k < 1 ∨ 4 < k) (w : World) : Calls Try.prog 22 #[.int .i64 k] w fun e w' => e = .returned (.tuple #[.pointer none, .int .i64 1]) ∧ w' = w := by
  by_cases h1 : k < 1
  · have hd : decide (k < 1) = true := decide_eq_true h1
    go_enter Try.func22, Try.ntmps22
    go_wp2
    go_ret2
    exact ⟨rfl, rfl⟩
  · have hd : decide (k < 1) = false := decide_eq_false h1
    have hd2 : decide (4 < k) = true := decide_eq_true (by omega)
    go_enter Try.func22, Try.ntmps22
    go_wp2
    go_ret2
    exact ⟨rfl, rfl⟩
set_option maxRecDepth 20000 in
set_option maxHeartbeats 1600000 in
theorem rnew_ok (k : Nat) (hk : 1 ≤ k ∧ k ≤ 4) (w : World) (tx : Nat → Int) : Calls Try.prog 22 #[.int .i64 k] w fun e w' => e = .returned (.tuple #[.pointer (some ⟨w.heap.size, 0, none⟩), .int .i64 0]) ∧ Ri w' w.heap.size (fun b => b = w.heap.size) k 0 tx ∧ Below w.heap.size w w' := by
  have d1 : decide ((k : Int) < 1) = false := decide_eq_false (by omega)
  have d2 : decide (4 < (k : Int)) = false := decide_eq_false (by omega)
  have HR : Hid (Ri (w.alloc (.cells #[.int .i64 (k : Int), .slice none 0 0] 62)) w.heap.size (fun b => b = w.heap.size) k 0 tx) := by
    refine ⟨⟨.slice none 0 0, ⟨_, Go.Deep.blk_alloc_new _ _, rfl, fun j hj => ?_⟩, own_nil _ _ _ _ _, fun b hb => by simp [Value.ownBlock] at hb⟩, rfl, fun b hb => by rw [hb]; simp⟩
    match j, hj with
    | 0, _ => rfl
    | 1, _ => rfl
  go_enter Try.func22, Try.ntmps22
  go_wp2
  go_ret2
  exact ⟨rfl, HR.out, fresh_alloc _ _⟩
set_option maxRecDepth 20000 in
set_option maxHeartbeats 1600000 in
theorem rappend_nil (w : World) (ao : Option Addr) (m c : Nat) : Calls Try.prog 24 #[.pointer none, .slice ao m c] w fun e w' => e = .returned (.tuple #[]) ∧ w' = w := by
  go_enter Try.func24, Try.ntmps24
  go_wp2
  refine bodyPost_ret (results_none rfl _ _ _) rfl ?_
  exact ⟨rfl, rfl⟩
set_option maxRecDepth 20000 in
set_option maxHeartbeats 3200000 in
theorem rappend_any {w : World} {Y : Nat} {S : Nat → Prop} {most n : Nat} {tx : Nat → Int} (h : Ri w Y S most n tx) {ao : Option Addr} {m c : Nat} {t : Nat → Int} (ht : RdA w ao 1 m c (fun i => .int .i64 (t i))) (hS : ∀ b o, ao = some ⟨b, o, none⟩ → 0 < m → ¬ S b) (hn : (n + m) * 8 ≤ 140737488351232) :
    Calls Try.prog 24 #[.pointer (some ⟨Y, 0, none⟩), .slice ao m c] w fun e w' => e = .returned (.tuple #[]) ∧ RiP w w' Y S most (n + m) (apT tx n t) := by
  have H0 : Hid (RiP w w Y S most (n + 0) (apT tx n t)) := ⟨S, h.text (fun j hj => (apT_lt tx t hj).symm), Chg.refl w S, fun _ hb => hb, fun _ hb => .inl hb⟩
  have HT := hidd ht
  have HS := hidd hS
  obtain ⟨ty, hty⟩ : ∃ ty, ty = apT tx n t := ⟨_, rfl⟩
  have HTY := hidd hty
  rw [← hty] at H0 ⊢
  have hsY := h.sY
  have hYl := h.low Y hsY
  clear h ht hS hty
  go_enter Try.func24, Try.ntmps24
  go_wp2
  go_loopw [4] (fun vi wr => ∃ k : Nat, k ≤ m ∧ vi = .int .i64 k ∧ Hid (RiP w wr Y S most (n + k) ty)) (fun vi _ => m - (intOf vi).toNat)
  case atStart => exact ⟨0, by omega, rfl, H0⟩
  case round =>
    clear H0
    obtain ⟨k, hk, rfl, HP⟩ := hrel
    obtain ⟨S', hri, hch, hs1, hs2⟩ := HP.out.ex
    obtain ⟨tv, hrow, hown, htv⟩ := hri.ex
    by_cases hlt : k < m
    · have d1 : decide ((k : Int) < (m : Int)) = true := decide_eq_true (by omega)
      have d2 : (k : Int) < (m : Int) := by omega
      obtain ⟨b, o, hao, hcell⟩ := HT.out.one (by omega)
      subst hao
      have hbS : ¬ S b := HS.out b o rfl (by omega)
      have ck : wr.cell? ⟨b, o + k, none⟩ = some (.int .i64 (t k)) := hch.cell (hcell k hlt) hbS
      obtain ⟨u, uc, rfl, hrd⟩ := hown.rd
      have c1 : wr.cell? ⟨Y, 1, none⟩ = some (.slice u (n + k) uc) := hrow.cell (i := 1) (by omega)
      have c1' : (wr.alloc (.cells #[.int .i64 (t k)] 3)).cell? ⟨Y, 1, none⟩ = some (.slice u (n + k) uc) := fresh_cell (fresh_alloc _ _) c1
      have ck' : (wr.alloc (.cells #[.int .i64 (t k)] 3)).cell? ⟨b, o + k, none⟩ = some (.int .i64 (t k)) := fresh_cell (fresh_alloc _ _) ck
      have hcw := hch.size
      have HOW : Hid (Own (wr.alloc (.cells #[.int .i64 (t k)] 3)).drew 0 3 1 (.slice u (n + k) uc) (n + k) (fun j => .int .i64 (ty j))) := (hown.kept (fresh_alloc _ _)).kept (Below.refl _ _).drew
      have HTK : Hid (ty (n + k) = t k) := by rw [HTY.out]; exact apT_ge tx n t k
      have HX : Hid ((wr.alloc (.cells #[.int .i64 (t k)] 3)).cell? ⟨wr.heap.size, 0, none⟩ = some (.int .i64 (ty (n + k)))) := by rw [HTK.out]; exact new_cell _ _ _
      have HFN : Hid (∀ (w9 : World) (g' cap' : Nat), Own w9 0 3 1 (.slice (some ⟨g', 0, none⟩) (n + k + 1) cap') (n + k + 1) (fun j => .int .i64 (ty j)) → App (wr.alloc (.cells #[.int .i64 (t k)] 3)).drew w9 (.slice u (n + k) uc) (.slice (some ⟨g', 0, none⟩) (n + k + 1) cap') → w9.cell? ⟨Y, 1, none⟩ = some (.slice u (n + k) uc) ∧ w9.frozen? ⟨Y, 1, none⟩ = false ∧ Hid (RiP w (w9.setCell ⟨Y, 1, none⟩ (.slice (some ⟨g', 0, none⟩) (n + k + 1) cap')) Y S most (n + (k + 1)) ty)) := by
        intro w9 g' cap' ho9 ha9
        have hneY : (Value.slice u (n + k) uc).ownBlock ≠ some Y := fun e => (htv Y e).2 rfl
        have hbk : Below wr.heap.size wr (wr.alloc (.cells #[.int .i64 (t k)] 3)).drew := (fresh_alloc _ _).drew
        have hYr : Y < wr.heap.size := hrow.lt
        have hr9 : w9.rowIs Y 62 2 (rxF most (.slice u (n + k) uc)) := hrow.of_block ((ha9.grown.block Y (Nat.lt_of_lt_of_le hYr hbk.size) (fun e => hneY e.symm)).trans (hbk.block Y hYr))
        have hs9 := ha9.grown.size
        have hsb := hbk.size
        have hg := ho9.lt g' rfl
        have hgne : g' ≠ Y := by
          rcases ha9.blk g' rfl with e | e
          · exact fun e2 => hneY (by rw [e, e2])
          · omega
        have hC9 : Chg wr w9 S' := (Chg.of_below S' hbk).trans (Chg.of_app ha9) (fun b hb e => (htv b e).1)
        refine ⟨hr9.cell (i := 1) (by omega), hr9.frozen 1, ⟨fun b => S' b ∨ b = g', ?_, ?_, fun b hb => .inl (hs1 b hb), fun b hb => ?_⟩⟩
        · refine ⟨⟨.slice (some ⟨g', 0, none⟩) (n + k + 1) cap', ?_, ?_, fun b hb => ?_⟩, .inl hri.sY, fun b hb => ?_⟩
          · have := hr9.set 1 (.slice (some ⟨g', 0, none⟩) (n + k + 1) cap')
            refine this.congr (fun j hj => ?_)
            unfold rxF
            match j, hj with
            | 0, _ => rfl
            | 1, _ => rfl
          · exact Own.chg (Chg.of_set w9 Y 1 _) ho9 (fun b hb e => by simp only [Value.ownBlock, Option.some.injEq] at hb; omega)
          · simp only [Value.ownBlock, Option.some.injEq] at hb
            exact ⟨.inr hb.symm, by omega⟩
          · simp
            rcases hb with hb | hb
            · have := hri.low b hb; omega
            · omega
        · refine (hch.trans hC9 (fun b hb e => ?_)).trans (Chg.of_set w9 Y 1 _) (fun b hb e => by rw [e]; exact hsY)
          rcases hs2 b e with h | h
          · exact h
          · omega
        · rcases hb with hb | hb
          · exact hs2 b hb
          · rcases ha9.blk g' rfl with e | e
            · have := (htv g' e).1
              rw [hb]
              exact hs2 g' this
            · right
              omega
      clear hrow hown htv hri hch hs1 hs2 HP hcell hrd
      go_wp2
      go_region_law ((refine step_app1 _ (by rfl) _ _ _ (by rfl) 0 3 (.int .i64 0) 8 Try.underlying22 infoI rfl _ (n + k) (fun j => .int .i64 (ty j)) (by rfl) HOW.out wr.heap.size 1 (by rfl) HX.out rfl (by omega) (by omega) (Nat.zero_le _) ?_; intro g' cap' w9 ho9 ha9; obtain ⟨cY, fY, HFI⟩ := HFN.out w9 g' cap' ho9 ha9; clear ho9 ha9))
      all_goals (
        go_wp2
        go_roundw
        case rel => exact ⟨k + 1, by omega, by go_num, HFI⟩
        case measure => simp [intOf]; omega)
    · obtain rfl : k = m := by omega
      clear hrow hown htv hri hch hs1 hs2
      go_wp2
      go_end0
      exact ⟨rfl, HP.out⟩
end Go.Proofs.Ytbpldnlafilbbaa
