import Derived.Test.YtmcefgpejocjfaaDoorTrnsRef
namespace Go.Proofs.YtmcefgpejocjfaaDoor
open Go.RowKit
attribute [local go_sem ↓] Go.wp_at_zero Go.wp_at_succ
/-! The reference's Turns. -/
/-- what loop 2 keeps: a list of lists of turns -/
structure TR (wr : World) (base n : Nat) (C S : Nat → Int) (v : Value) (p : Nat) (row : Nat → Value) : Prop where
  top : Own wr base 31 1 v p row
  rows : ∀ q, q < p → Own wr base 79 2 (row q) n (tcs (tC C S q) (tS C S q))
  off : ∀ q, q < p → Off v (row q)
theorem TR.kept {wr w' : World} {base n : Nat} {C S : Nat → Int} {v : Value} {p : Nat} {row : Nat → Value} (h : TR wr base n C S v p row) (f : Below wr.heap.size wr w') : TR w' base n C S v p row :=
  ⟨h.top.kept f, fun q hq => (h.rows q hq).kept f, h.off⟩
theorem newt (w : World) (g : Nat) (hg : g = w.heap.size) {x y : Int} (t : TypeId) {C S : Nat → Int} {k : Nat} (h0 : C k = x) (h1 : S k = y) : ∀ j, j < 1 * 2 → (w.alloc (.cells #[.int .i64 x, .int .i64 y] t)).cell? ⟨g, j, none⟩ = some (tcs C S (k * 2 + j)) := fun j hj => by
  subst hg
  obtain rfl | rfl : j = 0 ∨ j = 1 := by omega
  · simp [tcs0, h0]
  · simp [tcs1, h1]
theorem tcs1c (C S : Nat → Int) (j : Nat) : (tcs C S j).oneCell' = true := by unfold tcs; split <;> rfl
set_option maxRecDepth 20000 in
set_option maxHeartbeats 4000000 in
theorem turns_rok {w : World} {ao : Option Addr} {n ca N : Nat} {C S : Nat → Int} (ha : RdA w ao 2 n ca (tcs C S)) (hC : ∀ i, i < n → OkT C S i) (hN : N ≤ 64) (hn : n ≤ 1073741824) :
    Calls Tryd.prog 53 #[.slice ao n ca, .int .i64 (N : Int)] w fun e w' => ∃ v row, e = .returned (.tuple #[v, .int .i64 0]) ∧ TR w' w.heap.size n C S v N row ∧ Below w.heap.size w w' := by
  have HO := hidd hC
  clear hC
  go_enter Tryd.func53, Tryd.ntmps53
  go_wp2
  go_loopw [6] (fun i wr => ∃ k : Nat, k ≤ n ∧ i = .int .i64 k ∧ Below w.heap.size w wr) (fun i _ => n - (intOf i).toNat)
  case atStart => exact ⟨0, by omega, rfl, Below.refl _ _⟩
  case round =>
    obtain ⟨k, hk, rfl, hf⟩ := hrel
    by_cases hlt : k < n
    · obtain ⟨b1, o1, rfl, h1⟩ := (ha.fresh hf).two (by omega)
      obtain ⟨c1, c2⟩ := h1 k hlt
      obtain ⟨d1, d2⟩ := HO.out k hlt
      clear h1
      go_wp2_with fail
      refine (small_ok _ _ d1.1 d1.2).mono ?_
      rintro e w1 ⟨rfl, hw1⟩
      rw [hw1]
      clear hw1
      go_wp2_with fail
      refine (small_ok _ _ d2.1 d2.2).mono ?_
      rintro e w2 ⟨rfl, hw2⟩
      rw [hw2]
      clear hw2
      go_wp2
      go_roundw
      case rel => exact ⟨k + 1, hlt, by go_num, hf⟩
      case measure => simp [intOf]; omega
    · go_wp2
      clear hlt hk
      go_loopw [9, 10] (fun v i wb => ∃ (p : Nat) (row : Nat → Value), p ≤ N ∧ i = .int .i64 p ∧ Hid (TR wb w.heap.size n C S v p row) ∧ Below w.heap.size w wb) (fun _ i _ => N - (intOf i).toNat)
      case atStart => exact ⟨0, fun _ => .bool false, by omega, rfl, ⟨own_nil _ _ _ _ _, fun q hq => absurd hq (by omega), fun q hq => absurd hq (by omega)⟩, hf⟩
      case round =>
        clear hf
        obtain ⟨p, row, hp, rfl, HT, hf⟩ := hrel
        have hsz := hf.size
        by_cases hltp : p < N
        · go_wp2
          rename World => wb
          go_loopw [11, 12] (fun t j wc => ∃ q : Nat, q ≤ n ∧ j = .int .i64 q ∧ Own wc wb.heap.size 79 2 t q (tcs (tC C S p) (tS C S p)) ∧ Below wb.heap.size wb wc) (fun _ j _ => n - (intOf j).toNat)
          case atStart => exact ⟨0, by omega, rfl, own_nil _ _ _ _ _, Below.refl _ _⟩
          case round =>
            obtain ⟨q, hq, rfl, hown, hfc⟩ := hrel
            have hszc := hfc.size
            by_cases hltq : q < n
            · by_cases p0 : p = 0
              · have dp : ¬ 0 < p := by omega
                have E1 := hidd (show tC C S p q = 16384 by rw [p0]; rfl)
                have E2 := hidd (show tS C S p q = 0 by rw [p0]; rfl)
                clear p0
                go_wp2_with (at_builtin; refine wpList_app _ rfl _ _ 31 rfl wb.heap.size 79 (.agg #[.int .i64 0, .int .i64 0]) 2 16 Tryd.underlying31 infoT rfl (by decide) _ q (tcs (tC C S p) (tS C S p)) rfl (hown.kept (fresh_trans (fresh_alloc _ _) (fresh_alloc _ _))) _ 1 1 rfl (newt _ _ (by simp) _ (C := tC C S p) (S := tS C S p) (k := q) E1.out E2.out) (fun _ _ => tcs1c _ _ _) (by decide) (by unfold maxLen; omega) (by omega) (by simp; omega) ?_)
                intro v' w6 hown' happ
                have hf6 := happ.below ((hfc.alloc hszc _).alloc (by simp; omega) _) (hown.kept (fresh_trans (fresh_alloc _ _) (fresh_alloc _ _))) (Nat.le_refl _) (by simp; omega)
                clear happ hown hfc
                go_wp2
                go_roundw
                case rel => exact ⟨q + 1, by omega, by go_num, hown', hf6⟩
                case measure => simp [intOf]; omega
              · have dp : 0 < p := by omega
                obtain ⟨p', hp'⟩ : ∃ p', p = p' + 1 := ⟨p - 1, by omega⟩
                have E1 := hidd (show tC C S p q = Fix.cl (rc (C q) (S q) (tC C S p' q) (tS C S p' q)) 16384 by rw [hp']; rfl)
                have E2 := hidd (show tS C S p q = Fix.cl (rs (C q) (S q) (tC C S p' q) (tS C S p' q)) 16384 by rw [hp']; rfl)
                obtain ⟨b1, o1, rfl, h1⟩ := (ha.fresh (hf.trans (hfc.mono hsz))).two (by omega)
                obtain ⟨c1, c2⟩ := h1 q hltq
                obtain ⟨lo, lc, le, lr⟩ := (HT.out.top.kept hfc).rd
                obtain ⟨lb, loff, rfl, hl⟩ := lr.one (by omega)
                obtain ⟨ro, rcap, re, rr⟩ := ((HT.out.rows p' (by omega)).kept hfc).rd
                obtain ⟨rb, roff, rfl, hr⟩ := rr.two (by omega)
                obtain ⟨c3, c4⟩ := hr q hltq
                have c5 := hl p' (by omega)
                rw [re] at c5
                subst le
                have i1 : (0 : Int) ≤ (q : Int) := Int.natCast_nonneg _
                have i2 : (q : Int) < (n : Int) := by omega
                have i3 : (0 : Int) ≤ (p' : Int) := Int.natCast_nonneg _
                have i4 : (p' : Int) < (p : Int) := by omega
                have j1 : IntKind.i64.wrap ((p : Int) - 1) = (p' : Int) := by rw [IntKind.wrap_i64]; omega
                have n1 : ¬ lb = wr.heap.size := by have := lt_of_cell c5; omega
                have n2 : ¬ rb = wr.heap.size := by have := lt_of_cell c3; omega
                have n3 : ¬ b1 = wr.heap.size := by have := lt_of_cell c1; omega
                clear h1 hr hl lr rr hp' re p0
                go_wp2
                have g1 := fresh_alloc wr (.cells #[.int .i64 16384, .int .i64 0] 79)
                have r4 := (World.rowIs_alloc wr #[.int .i64 16384, .int .i64 0] 79 (fun i => if i = 0 then .int .i64 16384 else .int .i64 0) (fun i hi => by
                  have hi : i < 2 := hi
                  obtain rfl | rfl : i = 0 ∨ i = 1 := by omega
                  all_goals rfl))
                have f4 := r4.frozen
                have e0 := r4.cell (i := 0) (by decide)
                have e1 := r4.cell (i := 1) (by decide)
                have f5 := f4 0
                have f6 := f4 1
                replace c1 := fresh_cell g1 c1
                replace c2 := fresh_cell g1 c2
                replace c3 := fresh_cell g1 c3
                replace c4 := fresh_cell g1 c4
                replace c5 := fresh_cell g1 c5
                have hfD := hfc.alloc hszc (.cells #[.int .i64 16384, .int .i64 0] 79)
                have hownD := hown.kept g1
                clear f4
                have hgl := r4.lt
                generalize wr.alloc (.cells #[.int .i64 16384, .int .i64 0] 79) = wd at *
                clear hownD
                go_region_held3 (fun w' => w'.cell? ⟨lb, loff + p', none⟩ = some (.slice (some ⟨rb, roff, none⟩) n rcap) ∧ w'.cell? ⟨rb, roff + q * 2, none⟩ = some (.int .i64 (tC C S p' q)) ∧
                    w'.cell? ⟨rb, roff + q * 2 + 1, none⟩ = some (.int .i64 (tS C S p' q)) ∧ w'.cell? ⟨b1, o1 + q * 2, none⟩ = some (.int .i64 (C q)) ∧ w'.cell? ⟨b1, o1 + q * 2 + 1, none⟩ = some (.int .i64 (S q)))
                  (first
                    | go_keep
                    | (go_split_ands
                       refine ⟨?_, ?_, ?_, ?_, ?_⟩
                       all_goals (first | (refine fresh_cell hfq ?_; assumption) | (refine set2_other ?_ ?_ <;> assumption))))
                  ((go_at_call 79; refine (step_ref _ _ _ _ _).mono ?_; rintro e w9 ⟨rfl, hfq⟩; have q1 := fresh_cell hfq e0; have q2 := fresh_cell hfq e1; have q3 := fresh_frozen hfq e0 f5; have q4 := fresh_frozen hfq e1 f6))
                rename_i hHeld
                clear hHeld
                have r9 := r4.of_block (hfq.block wr.heap.size hgl)
                have hF : Below wr.heap.size wr w9 := g1.drew.trans (hfq.mono (Nat.le_of_lt hgl))
                clear q1 q2 q3 q4 c1 c2 c3 c4 c5 e0 e1 f5 f6 hfq hfD g1 r4
                have r10 := (r9.set 0 (.int .i64 (Fix.cl (rc (C q) (S q) (tC C S p' q) (tS C S p' q)) 16384))).set 1 (.int .i64 (Fix.cl (rs (C q) (S q) (tC C S p' q) (tS C S p' q)) 16384))
                have hF2 := (hF.setCell (p := ⟨wr.heap.size, 0, none⟩) (Nat.le_refl _) (.int .i64 (Fix.cl (rc (C q) (S q) (tC C S p' q) (tS C S p' q)) 16384))).setCell (p := ⟨wr.heap.size, 1, none⟩) (Nat.le_refl _) (.int .i64 (Fix.cl (rs (C q) (S q) (tC C S p' q) (tS C S p' q)) 16384))
                have hown2 := hown.kept hF2
                have hfc2 := hfc.trans (hF2.mono hszc)
                have hs2 := hfc2.size
                have y0 := r10.cell (i := 0) (by decide)
                have y1 := r10.cell (i := 1) (by decide)
                simp only [if_true, if_neg (show ¬ (0 : Nat) = 1 by decide)] at y0 y1
                rw [← E1.out, ← E2.out] at *
                clear r10 r9 hF hF2 hown hfc
                generalize World.setCell (World.setCell w9 _ _) _ _ = w10 at *
                go_wp2_with (at_builtin; refine wpList_app _ rfl _ _ 31 rfl wb.heap.size 79 (.agg #[.int .i64 0, .int .i64 0]) 2 16 Tryd.underlying31 infoT rfl (by decide) _ q (tcs (tC C S p) (tS C S p)) rfl (hown2.kept (fresh_alloc _ _)) _ 1 1 rfl (newt _ _ (by simp) _ (C := tC C S p) (S := tS C S p) (k := q) rfl rfl) (fun _ _ => tcs1c _ _ _) (by decide) (by unfold maxLen; omega) (by omega) (by simp; omega) ?_)
                intro v' w6 hown' happ
                have hf6 := happ.below (hfc2.alloc hs2 _) (hown2.kept (fresh_alloc _ _)) (Nat.le_refl _) (by simp; omega)
                clear happ hown2 hfc2
                go_wp2
                go_roundw
                case rel => exact ⟨q + 1, by omega, by go_num, hown', hf6⟩
                case measure => simp [intOf]; omega
            · obtain rfl : q = n := by omega
              have HT2 := hidd (HT.out.kept hfc)
              have hfw := hf.trans (hfc.mono hsz)
              have hsw := hfw.size
              have hoff : Hid (Off u9 u11) := fun k' h1 h2 => by
                have := (HT.out.top.lt k' h1).2
                have := (hown.lt k' h2).1
                omega
              obtain ⟨to, tc, hu, _⟩ := hown.rd
              obtain ⟨row', hr1, hr2⟩ : ∃ row' : Nat → Value, row' p = u11 ∧ ∀ x, x < p → row' x = row x := ⟨fun x => if x = p then u11 else row x, if_pos rfl, fun x hx => if_neg (by omega)⟩
              have R1 := hidd hr1
              have R2 := hidd hr2
              subst hu
              have hT3 : Own wr w.heap.size 31 1 u9 p row' := HT2.out.top.congr (fun x hx => by rw [hr2 x (by omega)])
              have hone : Hid ((row' p).oneCell' = true) := by
                show (row' p).oneCell' = true
                rw [hr1]; rfl
              have hnew : Hid (∀ (w0 : World) (t : TypeId), (w0.alloc (.cells #[.slice to q tc] t)).cell? ⟨w0.heap.size, 0, none⟩ = some (row' p)) := fun w0 t => by
                rw [new_cell, hr1]
              have HO2 := hidd hown
              clear hown hr1 hr2
              go_wp2_with (at_builtin; refine wpList_app1 _ rfl _ _ 37 rfl w.heap.size 31 (.slice none 0 0) 24 Tryd.underlying37 infoST rfl _ p row' rfl (hT3.kept (fresh_alloc _ _)) _ 1 rfl (hnew.out _ _) hone.out (by omega) (by omega) (by simp; omega) ?_)
              intro v' w6 hown' happ
              have hf6 := happ.below (hfw.alloc hsw _) (hT3.kept (fresh_alloc _ _)) (Nat.le_refl _) (by simp; omega)
              have HTN : Hid (TR w6 w.heap.size q C S v' (p + 1) row') := by
                refine ⟨hown', fun x hx => ?_, fun x hx => ?_⟩
                · by_cases e : x = p
                  · rw [e, R1.out]
                    exact happ.own ((HO2.out.weaken hsz).kept (fresh_alloc _ _)) hoff.out
                  · rw [R2.out x (by omega)]
                    exact happ.own ((HT2.out.rows x (by omega)).kept (fresh_alloc _ _)) (HT2.out.off x (by omega))
                · by_cases e : x = p
                  · rw [e, R1.out]
                    exact happ.off ((HO2.out.weaken hsz).kept (fresh_alloc _ _)) hoff.out
                  · rw [R2.out x (by omega)]
                    exact happ.off ((HT2.out.rows x (by omega)).kept (fresh_alloc _ _)) (HT2.out.off x (by omega))
              clear happ hown' hT3 HT2 HO2 hnew hone hoff hfw
              go_wp2
              go_roundw
              case rel => exact ⟨p + 1, _, by omega, by go_num, HTN, hf6⟩
              case measure => simp [intOf]; omega
        · obtain rfl : p = N := by omega
          go_wp2
          go_ret2
          exact ⟨_, row, rfl, HT.out, hf⟩
end Go.Proofs.YtmcefgpejocjfaaDoor
