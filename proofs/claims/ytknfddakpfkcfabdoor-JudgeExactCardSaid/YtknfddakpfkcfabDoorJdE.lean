import Derived.Test.YtknfddakpfkcfabDoorJdC
import Derived.Test.YtknfddakpfkcfabDoorJdD
namespace Go.Proofs.YtknfddakpfkcfabDoor
open Go.RowKit
/-! Walk on both sides. -/
/-- what Walk answers -/
structure WkA (n : Nat) (P T D : Nat → Int) (l : Nat) (C : Nat → Int) (w w' : World) (v : Value) (m : Nat) (x er : Int) : Prop where
  low : Below w.heap.size w w'
  bad : ¬ okT n P T D → v = .slice none 0 0 ∧ m = 0 ∧ x = 0 ∧ er = 140
  arg : okT n P T D → l ≠ n → v = .slice none 0 0 ∧ m = 0 ∧ x = 0 ∧ er = 160
  ok : okT n P T D → l = n → WyE n P T C m ∧ x = C (wyF n P T C (m - 1)) ∧ er = 0
  own : Own w' w.heap.size 3 1 v m (wyC n P T C)
set_option maxRecDepth 20000 in
set_option maxHeartbeats 1600000 in
theorem walk_any {w : World} {ao bo : Option Addr} {n l ca cb : Nat} {P T D C : Nat → Int} (h : RdA w ao 3 n ca (nds P T D)) (hc : RdA w bo 1 l cb (fun i => .int .i64 (C i))) :
    Calls Tryd.prog 9 #[.slice ao n ca, .slice bo l cb] w fun e w' => ∃ v m x er, e = .returned (.tuple #[v, .int .i64 x, .int .i64 er]) ∧ WkA n P T D l C w w' v m x er := by
  have HH := hidd h
  have HC := hidd hc
  have HCK := hidd (check_any h)
  have hl : l ≤ 9223372036854775807 := by have := hc.le; have := hc.top; unfold maxLen at this; omega
  have hn : n ≤ 9223372036854775807 := by have := h.le; have := h.top; unfold maxLen at this; omega
  clear h hc
  by_cases ht : okT n P T D
  · rw [erT_ok ht] at HCK
    have HT := hidd ht
    by_cases hln : l = n
    · subst hln
      clear ht
      go_enter Tryd.func9, Tryd.ntmps9
      go_wp2_with (first
        | (go_at_call 21; with_reducible refine HCK.out.mono ?_; rintro e w1 ⟨rfl, hb1⟩; have HGD := hidd (goDown_any (HH.out.fresh hb1) (HC.out.fresh hb1) HT.out); have HB1 := hidd hb1; clear HCK hb1)
        | (go_at_call 22; with_reducible refine HGD.out.mono ?_; rintro e w2 ⟨m, u, c, he, rfl, ho, hb2⟩; have HE := hidd he; have HO := hidd ho; have HB2 := hidd (HB1.out.trans (hb2.mono HB1.out.size)); have hp := he.pos; have hml := he.p.len; have ha := he.lt (m - 1) (by omega); clear HGD he ho hb2))
      obtain ⟨gb, go, rfl, hcell⟩ := (own_rda HO.out).one (by omega)
      obtain ⟨b2, o2, rfl, hC⟩ := (HC.out.fresh HB2.out).one (by omega)
      obtain ⟨q, HQ⟩ : ∃ q, Hid (q = m - 1) := ⟨_, rfl⟩
      obtain ⟨a, HAe⟩ : ∃ a, Hid (a = wyF l P T C (m - 1)) := ⟨_, rfl⟩
      have e1 : (m : Int) - 1 = (q : Int) := by have := HQ.out; omega
      have q0 : (0 : Int) ≤ (q : Int) := by omega
      have q1 : (q : Int) < (m : Int) := by omega
      have cq : w2.cell? ⟨gb, go + q, none⟩ = some (.int .i64 (a : Int)) := by
        rw [HQ.out, hcell (m - 1) (by omega), HAe.out]
        rfl
      rw [← HAe.out] at ha
      have a0 : (0 : Int) ≤ (a : Int) := by omega
      have a1 : (a : Int) < (l : Int) := by omega
      have cc := hC a ha
      obtain ⟨y, HY⟩ : ∃ y, Hid (y = C a) := ⟨_, rfl⟩
      rw [← HY.out] at cc
      clear hcell hC
      go_quiet (fail)
      go_wp2
      go_ret3
      exact ⟨_, m, y, 0, rfl, (below_drewN HB2.out _), fun h => absurd HT.out h, fun _ h => absurd rfl h, fun _ _ => ⟨HE.out, by rw [HY.out, HAe.out], rfl⟩, (HO.out.weaken HB1.out.size).kept (fresh_drewN _ _)⟩
    · have hne : ¬ (l : Int) = (n : Int) := by omega
      have HNE := hidd hln
      clear hln ht
      go_enter Tryd.func9, Tryd.ntmps9
      go_wp2_with (go_at_call 21; with_reducible refine HCK.out.mono ?_; rintro e w1 ⟨rfl, hb1⟩; have HB1 := hidd hb1; clear HCK hb1)
      go_ret3
      exact ⟨_, 0, 0, 160, rfl, HB1.out, fun h => absurd HT.out h, fun _ _ => ⟨rfl, rfl, rfl, rfl⟩, fun _ h => absurd h HNE.out, own_nil _ _ _ _ _⟩
  · rw [erT_bad ht] at HCK
    have HT := hidd ht
    clear ht
    go_enter Tryd.func9, Tryd.ntmps9
    go_wp2_with (go_at_call 21; with_reducible refine HCK.out.mono ?_; rintro e w1 ⟨rfl, hb1⟩; have HB1 := hidd hb1; clear HCK hb1)
    go_ret3
    exact ⟨_, 0, 0, 140, rfl, HB1.out, fun _ => ⟨rfl, rfl, rfl, rfl⟩, fun h => absurd h HT.out, fun h => absurd h HT.out, own_nil _ _ _ _ _⟩
end Go.Proofs.YtknfddakpfkcfabDoor
