import Derived.Test.YtknfddakpfkcfaaJdC
import Derived.Test.YtknfddakpfkcfaaJdD
namespace Go.Proofs.Ytknfddakpfkcfaa
open Go.RowKit
/-! Walk on both sides. -/
/-- what Walk answers -/
structure WkA (n : Nat) (P T D : Nat → Int) (l : Nat) (C : Nat → Int) (w w' : World) (v : Value) (m : Nat) (x er : Int) : Prop where
  low : Below w.heap.size w w'
  bad : ¬ okT n P T D → v = .slice none 0 0 ∧ m = 0 ∧ x = 0 ∧ er = 140
  arg : okT n P T D → l ≠ n → v = .slice none 0 0 ∧ m = 0 ∧ x = 0 ∧ er = 160
  ok : okT n P T D → l = n → WyE n P T C m ∧ x = C (wyF n P T C (m - 1)) ∧ er = 0
  own : Own w' w.heap.size 3 1 v m (wyC n P T C)
set_option maxRecDepth 20000 in
set_option maxHeartbeats 1600000 in
theorem walk_any {w : World} {ao bo : Option Addr} {n l ca cb : Nat} {P T D C : Nat → Int} (h : RdA w ao 3 n ca (nds P T D)) (hc : RdA w bo 1 l cb (fun i => .int .i64 (C i))) :
    Calls Try.prog 16 #[.slice ao n ca, .slice bo l cb] w fun e w' => ∃ v m x er, e = .returned (.tuple #[v, .int .i64 x, .int .i64 er]) ∧ WkA n P T D l C w w' v m x er := by
  have HH := hidd h
  have HC := hidd hc
  have HCK := hidd (check_any h)
  have hl : l ≤ 9223372036854775807 := by have := hc.le; have := hc.top; unfold maxLen at this; omega
  have hn : n ≤ 9223372036854775807 := by have := h.le; have := h.top; unfold maxLen at this; omega
  clear h hc
  by_cases ht : okT n P T D
  · rw [erT_ok ht] at HCK
    have HT := hidd ht
    by_cases hln : l = n
    · subst hln
      clear ht
      go_enter Try.func16, Try.ntmps16
      go_wp2_with (first
        | (go_at_call 35; with_reducible refine HCK.out.mono ?_; rintro e w1 ⟨rfl, hb1⟩; have HGD := hidd (goDown_any (HH.out.fresh hb1) (HC.out.fresh hb1) HT.out); have HB1 := hidd hb1; clear HCK hb1)
        | (go_at_call 36; with_reducible refine HGD.out.mono ?_; rintro e w2 ⟨m, u, c, he, rfl, ho, hb2⟩; have HE := hidd he; have HO := hidd ho; have HB2 := hidd (HB1.out.trans (hb2.mono HB1.out.size)); have hp := he.pos; have hml := he.p.len; have ha := he.lt (m - 1) (by omega); clear HGD he ho hb2))
      obtain ⟨gb, go, rfl, hcell⟩ := (own_rda HO.out).one (by omega)
      obtain ⟨b2, o2, rfl, hC⟩ := (HC.out.fresh HB2.out).one (by omega)
      obtain ⟨q, HQ⟩ : ∃ q, Hid (q = m - 1) := ⟨_, rfl⟩
      obtain ⟨a, HAe⟩ : ∃ a, Hid (a = wyF l P T C (m - 1)) := ⟨_, rfl⟩
      have e1 : (m : Int) - 1 = (q : Int) := by have := HQ.out; omega
      have q0 : (0 : Int) ≤ (q : Int) := by omega
      have q1 : (q : Int) < (m : Int) := by omega
      have cq : w2.cell? ⟨gb, go + q, none⟩ = some (.int .i64 (a : Int)) := by
        rw [HQ.out, hcell (m - 1) (by omega), HAe.out]
        rfl
      rw [← HAe.out] at ha
      have a0 : (0 : Int) ≤ (a : Int) := by omega
      have a1 : (a : Int) < (l : Int) := by omega
      have cc := hC a ha
      obtain ⟨y, HY⟩ : ∃ y, Hid (y = C a) := ⟨_, rfl⟩
      rw [← HY.out] at cc
      clear hcell hC
      go_quiet (fail)
      go_wp2
      go_ret3
      exact ⟨_, m, y, 0, rfl, (below_drewN HB2.out _), fun h => absurd HT.out h, fun _ h => absurd rfl h, fun _ _ => ⟨HE.out, by rw [HY.out, HAe.out], rfl⟩, (HO.out.weaken HB1.out.size).kept (fresh_drewN _ _)⟩
    · have hne : ¬ (l : Int) = (n : Int) := by omega
      have HNE := hidd hln
      clear hln ht
      go_enter Try.func16, Try.ntmps16
      go_wp2_with (go_at_call 35; with_reducible refine HCK.out.mono ?_; rintro e w1 ⟨rfl, hb1⟩; have HB1 := hidd hb1; clear HCK hb1)
      go_ret3
      exact ⟨_, 0, 0, 160, rfl, HB1.out, fun h => absurd HT.out h, fun _ _ => ⟨rfl, rfl, rfl, rfl⟩, fun _ h => absurd h HNE.out, own_nil _ _ _ _ _⟩
  · rw [erT_bad ht] at HCK
    have HT := hidd ht
    clear ht
    go_enter Try.func16, Try.ntmps16
    go_wp2_with (go_at_call 35; with_reducible refine HCK.out.mono ?_; rintro e w1 ⟨rfl, hb1⟩; have HB1 := hidd hb1; clear HCK hb1)
    go_ret3
    exact ⟨_, 0, 0, 140, rfl, HB1.out, fun _ => ⟨rfl, rfl, rfl, rfl⟩, fun h => absurd h HT.out, fun h => absurd h HT.out, own_nil _ _ _ _ _⟩
set_option maxRecDepth 20000 in
set_option maxHeartbeats 1600000 in
theorem rwalk_any {w : World} {ao bo : Option Addr} {n l ca cb : Nat} {P T D C : Nat → Int} (h : RdA w ao 3 n ca (nds P T D)) (hc : RdA w bo 1 l cb (fun i => .int .i64 (C i))) :
    Calls Try.prog 22 #[.slice ao n ca, .slice bo l cb] w fun e w' => ∃ v m x er, e = .returned (.tuple #[v, .int .i64 x, .int .i64 er]) ∧ WkA n P T D l C w w' v m x er := by
  have HH := hidd h
  have HC := hidd hc
  have HCK := hidd (rcheck_any h)
  have hl : l ≤ 9223372036854775807 := by have := hc.le; have := hc.top; unfold maxLen at this; omega
  have hn : n ≤ 9223372036854775807 := by have := h.le; have := h.top; unfold maxLen at this; omega
  clear h hc
  by_cases ht : okT n P T D
  · rw [erT_ok ht] at HCK
    have HT := hidd ht
    by_cases hln : l = n
    · subst hln
      have hn1 := ht.1
      have hn2 := ht.2.1
      clear ht
      go_enter Try.func22, Try.ntmps22
      go_wp2_with (go_at_call 37; with_reducible refine HCK.out.mono ?_; rintro e w1 ⟨rfl, hb1⟩; have HB1 := hidd hb1; clear HCK hb1)
      have hsz := HB1.out.size
      have HO := hidd (own_one (w := w1) (.int .i64 0) 3 (wyC l P T C) rfl)
      have HF0 : Hid (Below w.heap.size w (w1.alloc (.cells #[.int .i64 0] 3))) := HB1.out.alloc hsz _
      go_loopw [8, 9] (fun s8 s9 wr => ∃ m a : Nat, WyP l P T C m ∧ Hid (a = wyF l P T C (m - 1)) ∧ s9 = .int .i64 (a : Int) ∧ Hid (Own wr w.heap.size 3 1 s8 m (wyC l P T C)) ∧ Hid (Below w.heap.size w wr)) (fun _ s9 _ => l - (intOf s9).toNat)
      case atStart => exact ⟨1, 0, WyP.start hn1, rfl, rfl, HO.out.weaken hsz, HF0⟩
      case round =>
        clear HO HF0 hsz HB1
        obtain ⟨m, a, hw, HAe, rfl, HO, HF⟩ := hrel
        have hpos := hw.pos
        have hlen := hw.len
        have ha : a < l := by rw [HAe.out]; exact hw.lt (m - 1) (by omega)
        have HW := hidd hw
        obtain ⟨b2, o2, rfl, hC⟩ := (HC.out.fresh HF.out).one (by omega)
        have cc := hC a ha
        clear hC hw
        have a0 : (0 : Int) ≤ (a : Int) := by omega
        have a1 : (a : Int) < (l : Int) := by omega
        obtain ⟨y, HY⟩ : ∃ y, Hid (y = C a) := ⟨_, rfl⟩
        rw [← HY.out] at cc
        have HCH := hidd (child_any (a := a) (t := y) (HH.out.fresh HF.out) (by omega))
        obtain ⟨u, uc, rfl, _⟩ := HO.out.rd
        by_cases hex : ∃ i, Kd l P T a y i
        · obtain ⟨i, hk⟩ := hex
          have HC2 : Hid (Calls Try.prog 38 #[.slice ao l ca, .int .i64 (a : Int), .int .i64 y] wr fun e w' => e = .returned (.int .i64 (i : Int)) ∧ Below wr.heap.size wr w') := HCH.out.mono (fun e w2 q => by
            rcases q.1 with ⟨i', h', e'⟩ | ⟨h', _⟩
            · rw [h'.uniq HT.out hk] at e'
              exact ⟨e', q.2⟩
            · exact absurd hk.2 (h' i hk.1))
          clear HCH
          have HX9 := HW.out.next HT.out HAe.out (i := i) ⟨hk.1, hk.2.1, by rw [← HY.out]; exact hk.2.2⟩
          obtain ⟨k1, k2⟩ := HX9
          have hgt := hk.gt HT.out
          have hil := hk.1
          have HW2 := hidd k1
          have HX : Hid (∀ (w0 : World) (t : TypeId), (w0.alloc (.cells #[.int .i64 (i : Int)] t)).cell? ⟨w0.heap.size, 0, none⟩ = some (wyC l P T C m)) := fun w0 t => by
            unfold wyC
            rw [k2]
            exact new_cell _ _ _
          have HI : Hid (i = wyF l P T C (m + 1 - 1)) := k2.symm
          have i0 : ¬ ((i : Int) < 0) := by omega
          clear k1 k2 hk
          go_wp2_with (first
            | (go_at_call 38; with_reducible refine HC2.out.mono ?_; rintro e w2 ⟨rfl, hb2⟩; have HF2 := hidd (HF.out.trans (hb2.mono HF.out.size)); have HO2 := hidd (HO.out.kept hb2); have hsz := HF2.out.size; clear HC2 HO HF hb2 cc)
            | (at_builtin; refine wpList_app1 _ rfl _ _ 22 rfl w.heap.size 3 (.int .i64 0) 8 Try.underlying22 infoI rfl _ m (wyC l P T C) rfl (HO2.out.kept (fresh_alloc _ _)) _ 1 rfl (HX.out _ _) rfl (by omega) (by omega) (by simp; omega) ?_))
          intro v' w3 hown' happ
          have hf3 := happ.below (HF2.out.alloc hsz _) (HO2.out.kept (fresh_alloc _ _)) (Nat.le_refl _) (by simp; omega)
          clear happ
          go_wp2
          go_roundw
          case rel => exact ⟨m + 1, i, HW2.out, HI, rfl, hown', hf3⟩
          case measure => simp [intOf]; omega
        · have hk : ∀ i, i < l → ¬ (P i = (a : Int) ∧ T i = y) := fun i hi q => hex ⟨i, hi, q⟩
          have HC2 : Hid (Calls Try.prog 38 #[.slice ao l ca, .int .i64 (a : Int), .int .i64 y] wr fun e w' => e = .returned (.int .i64 (-1)) ∧ Below wr.heap.size wr w') := HCH.out.mono (fun e w2 q => by
            rcases q.1 with ⟨i', h', e'⟩ | ⟨h', e'⟩
            · exact absurd h'.2 (hk i' h'.1)
            · exact ⟨e', q.2⟩)
          have HE : Hid (WyE l P T C m) := HW.out.ends HAe.out (by rw [← HY.out]; exact hk)
          clear hk hex HCH
          go_wp2_with (go_at_call 38; with_reducible refine HC2.out.mono ?_; rintro e w2 ⟨rfl, hb2⟩; have HF2 := hidd (HF.out.trans (hb2.mono HF.out.size)); have HO2 := hidd (HO.out.kept hb2); have cc2 := fresh_cell hb2 cc; clear HC2 HO HF hb2 cc)
          go_quiet (fail)
          go_wp2
          go_ret3
          exact ⟨_, m, y, 0, rfl, (below_drewN HF2.out _), fun h => absurd HT.out h, fun _ h => absurd rfl h, fun _ _ => ⟨HE.out, by rw [HY.out, HAe.out], rfl⟩, HO2.out.kept (fresh_drewN _ _)⟩
    · have hne : ¬ (l : Int) = (n : Int) := by omega
      have HNE := hidd hln
      clear hln ht
      go_enter Try.func22, Try.ntmps22
      go_wp2_with (go_at_call 37; with_reducible refine HCK.out.mono ?_; rintro e w1 ⟨rfl, hb1⟩; have HB1 := hidd hb1; clear HCK hb1)
      go_ret3
      exact ⟨_, 0, 0, 160, rfl, HB1.out, fun h => absurd HT.out h, fun _ _ => ⟨rfl, rfl, rfl, rfl⟩, fun _ h => absurd h HNE.out, own_nil _ _ _ _ _⟩
  · rw [erT_bad ht] at HCK
    have HT := hidd ht
    clear ht
    go_enter Try.func22, Try.ntmps22
    go_wp2_with (go_at_call 37; with_reducible refine HCK.out.mono ?_; rintro e w1 ⟨rfl, hb1⟩; have HB1 := hidd hb1; clear HCK hb1)
    go_ret3
    exact ⟨_, 0, 0, 140, rfl, HB1.out, fun _ => ⟨rfl, rfl, rfl, rfl⟩, fun h => absurd h HT.out, fun h => absurd h HT.out, own_nil _ _ _ _ _⟩
end Go.Proofs.Ytknfddakpfkcfaa
