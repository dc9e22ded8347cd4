import Derived.Test.YtknfddakpfkcfabDoorJdG
namespace Go.Proofs.YtknfddakpfkcfabDoor
open Go.RowKit
/-! Take on both sides. -/
structure TkE (f : Nat → Int) (l : Nat) (most : Int) (r : Nat) (ov : Bool) : Prop where
  pos : 1 ≤ r
  le : r ≤ l
  no : ∀ i, i + 1 < r → f i ≠ 0 ∧ (i : Int) + 1 ≠ most
  yes : ov = true → f (r - 1) = 0 ∨ (r : Int) = most
  ends : ov = false → r = l ∧ f (r - 1) ≠ 0 ∧ (r : Int) ≠ most
theorem TkE.not_lt {f : Nat → Int} {l : Nat} {most : Int} {r r' : Nat} {ov ov' : Bool} (h : TkE f l most r ov) (k : TkE f l most r' ov') : ¬ r < r' := by
  intro q
  have hp := h.pos
  have hn := k.no (r - 1) (by omega)
  have kl := k.le
  cases ov with
  | true =>
    rcases h.yes rfl with e | e
    · exact hn.1 e
    · exact hn.2 (by omega)
  | false =>
    have := (h.ends rfl).1
    omega
theorem TkE.uniq {f : Nat → Int} {l : Nat} {most : Int} {r r' : Nat} {ov ov' : Bool} (h : TkE f l most r ov) (k : TkE f l most r' ov') : r = r' ∧ ov = ov' := by
  have h1 := h.not_lt k
  have h2 := k.not_lt h
  obtain rfl : r = r' := by omega
  refine ⟨rfl, ?_⟩
  cases ov <;> cases ov' <;> first | rfl | skip
  · have e1 := h.ends rfl
    rcases k.yes rfl with e | e
    · exact absurd e e1.2.1
    · exact absurd e e1.2.2
  · have e1 := k.ends rfl
    rcases h.yes rfl with e | e
    · exact absurd e e1.2.1
    · exact absurd e e1.2.2
structure TkA (n : Nat) (P T D : Nat → Int) (l : Nat) (W : Nat → Int) (next most : Int) (w w' : World) (v : Value) (r : Nat) (ov : Bool) (er : Int) : Prop where
  low : Below w.heap.size w w'
  bad : ¬ okT n P T D → v = .slice none 0 0 ∧ r = 0 ∧ ov = false ∧ er = 140
  way : okT n P T D → ¬ isW n P l W → v = .slice none 0 0 ∧ r = 0 ∧ ov = false ∧ er = 160
  arg : okT n P T D → isW n P l W → most < 1 → v = .slice none 0 0 ∧ r = 0 ∧ ov = false ∧ er = 1
  ok : okT n P T D → isW n P l W → 1 ≤ most → TkE (bt T W next l) l most r ov ∧ er = 0
  own : Own w' w.heap.size 3 1 v r (btC T W next l)
def TkP (n : Nat) (P T D : Nat → Int) (l : Nat) (W : Nat → Int) (next most : Int) (w : World) (e : Ending) (w' : World) : Prop := ∃ v r ov er, e = .returned (.tuple #[v, .bool ov, .int .i64 er]) ∧ TkA n P T D l W next most w w' v r ov er
theorem TkP.mk {n : Nat} {P T D : Nat → Int} {l : Nat} {W : Nat → Int} {next most : Int} {w w' : World} {e : Ending} {v : Value} {ov : Bool} {er : Int} (r : Nat) (h : e = .returned (.tuple #[v, .bool ov, .int .i64 er])) (k : TkA n P T D l W next most w w' v r ov er) : TkP n P T D l W next most w e w' := ⟨v, r, ov, er, h, k⟩
set_option maxRecDepth 20000 in
set_option maxHeartbeats 1600000 in
theorem take_any {w : World} {ao bo : Option Addr} {n l ca cb : Nat} {P T D W : Nat → Int} {next most : Int} (h : RdA w ao 3 n ca (nds P T D)) (hc : RdA w bo 1 l cb (fun i => .int .i64 (W i))) :
    Calls Tryd.prog 10 #[.slice ao n ca, .slice bo l cb, .int .i64 next, .int .i64 most] w (TkP n P T D l W next most w) := by
  have HH := hidd h
  have HC := hidd hc
  have HCK := hidd (check_any h)
  have hl : l ≤ 9223372036854775807 := by have := hc.le; have := hc.top; unfold maxLen at this; omega
  have hn : n ≤ 9223372036854775807 := by have := h.le; have := h.top; unfold maxLen at this; omega
  clear h hc
  by_cases ht : okT n P T D
  · rw [erT_ok ht] at HCK
    have HT := hidd ht
    have hn1 := ht.1
    have hn2 := ht.2.1
    have HIW : Hid (∀ b : Bool, (b = true ↔ isW n P l W) → ∀ w1, Below w.heap.size w w1 → Calls Tryd.prog 23 #[.slice ao n ca, .slice bo l cb] w1 fun e w' => e = .returned (.bool b) ∧ Below w1.heap.size w1 w') := fun b hb w1 f1 => (isWay_any (HH.out.fresh f1) (HC.out.fresh f1) hn1 hn2).mono (fun e w2 q => by
      obtain ⟨⟨r, e1, e2⟩, q2⟩ := q
      have : r = b := Bool.eq_iff_iff.2 (e2.trans hb.symm)
      rw [this] at e1
      exact ⟨e1, q2⟩)
    clear ht
    by_cases hw : isW n P l W
    · have HI1 := hidd (HIW.out true ⟨fun _ => hw, fun _ => rfl⟩)
      have HIS := hidd hw
      have hl1 := hw.1
      have hl2 := hw.len HT.out
      have HWs : Hid (∀ i, i + 1 < l → 0 ≤ W (i + 1) ∧ W (i + 1) < (n : Int)) := fun i hi => ⟨(hw.2.2 i hi).1, (hw.2.2 i hi).2.1⟩
      clear hw HIW
      by_cases hm : most < 1
      · have d1 : decide (most < 1) = true := decide_eq_true hm
        have HM := hidd hm
        go_enter Tryd.func10, Tryd.ntmps10
        go_wp2_with (first
          | (go_at_call 21; with_reducible refine HCK.out.mono ?_; rintro e w1 ⟨rfl, hb1⟩; have HB1 := hidd hb1; have HI2 := hidd (HI1.out _ hb1); clear HCK hb1 HI1)
          | (go_at_call 23; with_reducible refine HI2.out.mono ?_; rintro e w2 ⟨rfl, hb2⟩; have HB2 := hidd (HB1.out.trans (hb2.mono HB1.out.size)); clear HI2 hb2))
        go_ret3
        exact TkP.mk (0) (ov := false) (er := 1) rfl ⟨HB2.out, fun h => absurd HT.out h, fun _ h => absurd HIS.out h, fun _ _ _ => ⟨rfl, rfl, rfl, rfl⟩, fun _ _ h => absurd h (by have := HM.out; omega), own_nil _ _ _ _ _⟩
      · have d1 : decide (most < 1) = false := decide_eq_false hm
        have HM := hidd hm
        go_enter Tryd.func10, Tryd.ntmps10
        go_wp2_with (first
          | (go_at_call 21; with_reducible refine HCK.out.mono ?_; rintro e w1 ⟨rfl, hb1⟩; have HB1 := hidd hb1; have HI2 := hidd (HI1.out _ hb1); clear HCK hb1 HI1)
          | (go_at_call 23; with_reducible refine HI2.out.mono ?_; rintro e w2 ⟨rfl, hb2⟩; have HB2 := hidd (HB1.out.trans (hb2.mono HB1.out.size)); have HBR := hidd (brought_any (next := next) (HH.out.fresh HB2.out) (HC.out.fresh HB2.out) hn1 hn2 hl1 (by omega) HWs.out); clear HI2 hb2)
          | (go_at_call 24; with_reducible refine HBR.out.mono ?_; rintro e w3 ⟨u, uc, rfl, ho3, hb3⟩; have HB3 := hidd (HB2.out.trans (hb3.mono HB2.out.size)); have HO3 := hidd ho3; clear HBR hb3 ho3))
        obtain ⟨gb, go, rfl, hcell⟩ := (own_rda HO3.out).one (by omega)
        have HCL := hidd hcell
        clear hcell
        go_loopw [8, 29] (fun v i wr => ∃ k : Nat, k ≤ l ∧ i = .int .i64 k ∧ Hid (∀ i, i < k → bt T W next l i ≠ 0 ∧ (i : Int) + 1 ≠ most) ∧ Hid (Own wr w3.heap.size 3 1 v k (btC T W next l)) ∧ Hid (Below w3.heap.size w3 wr)) (fun _ i _ => l - (intOf i).toNat)
        case atStart => exact ⟨0, by omega, rfl, fun i hi => absurd hi (by omega), own_nil _ _ _ _ _, Below.refl _ _⟩
        case round =>
          obtain ⟨k, hk, rfl, HN, HO, HF⟩ := hrel
          have hsz := HF.out.size
          by_cases hlt : k < l
          · have x1 := fresh_cell HF.out (HCL.out k hlt)
            have k0 : (0 : Int) ≤ (k : Int) := by omega
            have k1 : (k : Int) < (l : Int) := by omega
            unfold btC at x1
            obtain ⟨y, HY⟩ : ∃ y, Hid (y = bt T W next l k) := ⟨_, rfl⟩
            rw [← HY.out] at x1
            have HX : Hid (∀ (w0 : World) (t : TypeId), (w0.alloc (.cells #[.int .i64 y] t)).cell? ⟨w0.heap.size, 0, none⟩ = some (btC T W next l k)) := fun w0 t => by
              unfold btC
              rw [← HY.out]
              exact new_cell _ _ _
            have HTE : Hid (y = 0 ∨ (k : Int) + 1 = most → TkE (bt T W next l) l most (k + 1) true) := fun q => ⟨by omega, by omega, fun i hi => HN.out i (by omega), fun _ => (by
              rw [Nat.add_sub_cancel, ← HY.out]
              rcases q with q | q
              · exact .inl q
              · exact .inr (by omega)), fun q => (by cases q)⟩
            go_wp2_with (at_builtin; refine wpList_app1 _ rfl _ _ 23 rfl w3.heap.size 3 (.int .i64 0) 8 Tryd.underlying23 infoI rfl _ k (btC T W next l) rfl (HO.out.kept (fresh_alloc _ _)) _ 1 rfl (HX.out _ _) rfl (by omega) (by omega) (by simp; omega) ?_)
            intro v' w4 hown' happ
            have HF4 := hidd (happ.below (HF.out.alloc hsz _) (HO.out.kept (fresh_alloc _ _)) (Nat.le_refl _) (by simp; omega))
            have HO4 := hidd hown'
            obtain ⟨u4, uc4, rfl, _⟩ := hown'.rd
            clear happ hown' HX HF HO x1
            by_cases e1 : y = 0
            · have HE := hidd (HTE.out (.inl e1))
              subst e1
              go_wp2
              go_ret3
              exact TkP.mk (k + 1) (ov := true) (er := 0) rfl ⟨HB3.out.trans (HF4.out.mono HB3.out.size), fun h => absurd HT.out h, fun _ h => absurd HIS.out h, fun _ _ h => absurd h (by have := HM.out; omega), fun _ _ _ => ⟨HE.out, rfl⟩, HO4.out.weaken HB3.out.size⟩
            · have d2 : (y == 0) = false := by simp; exact e1
              have HE1 := hidd e1
              clear e1
              by_cases e2 : (k : Int) + 1 = most
              · have HE := hidd (HTE.out (.inr e2))
                have d3 : ((k : Int) + 1 == most) = true := by simp; exact e2
                clear e2
                go_wp2
                go_ret3
                exact TkP.mk (k + 1) (ov := true) (er := 0) rfl ⟨HB3.out.trans (HF4.out.mono HB3.out.size), fun h => absurd HT.out h, fun _ h => absurd HIS.out h, fun _ _ h => absurd h (by have := HM.out; omega), fun _ _ _ => ⟨HE.out, rfl⟩, HO4.out.weaken HB3.out.size⟩
              · have d3 : ((k : Int) + 1 == most) = false := by simp; exact e2
                have HE2 := hidd e2
                clear e2
                go_wp2
                go_roundw
                case rel => exact ⟨k + 1, by omega, by go_num, fun i hi => (by
                  by_cases q : i = k
                  · rw [q, ← HY.out]; exact ⟨HE1.out, HE2.out⟩
                  · exact HN.out i (by omega)), HO4, HF4⟩
                case measure => simp [intOf]; omega
          · obtain rfl : k = l := by omega
            obtain ⟨u4, uc4, rfl, _⟩ := HO.out.rd
            have HE : Hid (TkE (bt T W next k) k most k false) := ⟨by omega, Nat.le_refl _, fun i hi => HN.out i (by omega), fun q => (by cases q), fun _ => ⟨rfl, (HN.out (k - 1) (by omega)).1, by have := (HN.out (k - 1) (by omega)).2; omega⟩⟩
            go_wp2
            go_ret3
            exact TkP.mk (k) (ov := false) (er := 0) rfl ⟨HB3.out.trans (HF.out.mono HB3.out.size), fun h => absurd HT.out h, fun _ h => absurd HIS.out h, fun _ _ h => absurd h (by have := HM.out; omega), fun _ _ _ => ⟨HE.out, rfl⟩, HO.out.weaken HB3.out.size⟩
    · have HI1 := hidd (HIW.out false ⟨fun q => (by cases q), fun q => absurd q hw⟩)
      have HIS := hidd hw
      clear hw HIW
      go_enter Tryd.func10, Tryd.ntmps10
      go_wp2_with (first
        | (go_at_call 21; with_reducible refine HCK.out.mono ?_; rintro e w1 ⟨rfl, hb1⟩; have HB1 := hidd hb1; have HI2 := hidd (HI1.out _ hb1); clear HCK hb1 HI1)
        | (go_at_call 23; with_reducible refine HI2.out.mono ?_; rintro e w2 ⟨rfl, hb2⟩; have HB2 := hidd (HB1.out.trans (hb2.mono HB1.out.size)); clear HI2 hb2))
      go_ret3
      exact TkP.mk (0) (ov := false) (er := 160) rfl ⟨HB2.out, fun h => absurd HT.out h, fun _ _ => ⟨rfl, rfl, rfl, rfl⟩, fun _ h => absurd h HIS.out, fun _ h => absurd h HIS.out, own_nil _ _ _ _ _⟩
  · rw [erT_bad ht] at HCK
    have HT := hidd ht
    clear ht
    go_enter Tryd.func10, Tryd.ntmps10
    go_wp2_with (go_at_call 21; with_reducible refine HCK.out.mono ?_; rintro e w1 ⟨rfl, hb1⟩; have HB1 := hidd hb1; clear HCK hb1)
    go_ret3
    exact TkP.mk (0) (ov := false) (er := 140) rfl ⟨HB1.out, fun _ => ⟨rfl, rfl, rfl, rfl⟩, fun h => absurd h HT.out, fun h => absurd h HT.out, fun h => absurd h HT.out, own_nil _ _ _ _ _⟩
end Go.Proofs.YtknfddakpfkcfabDoor
