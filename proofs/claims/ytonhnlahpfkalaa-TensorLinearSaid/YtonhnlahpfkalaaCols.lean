import Derived.Test.YtonhnlahpfkalaaMv
namespace Go.Proofs.Ytonhnlahpfkalaa
open Go.RowKit
/-! columns: each unit vector gives its column. -/
def unitv (c : Nat) : Nat → Int := fun i => if i = c then 1 else 0
theorem isum_unit (f : Nat → Int) (c : Nat) : ∀ n, isum (fun i => f i * unitv c i) n = if c < n then f c else 0
  | 0 => by simp [isum]
  | n + 1 => by
    show isum (fun i => f i * unitv c i) n + f n * unitv c n = _
    rw [isum_unit f c n]
    unfold unitv
    by_cases h : n = c
    · subst h; rw [if_neg (by omega), if_pos rfl, if_pos (by omega)]; omega
    · rw [if_neg h]
      by_cases h2 : c < n
      · rw [if_pos h2, if_pos (by omega)]; omega
      · rw [if_neg h2, if_neg (by omega)]; omega
theorem mv_unit {f : Nat → Int} {C c r : Nat} (hc : c < C) (h0 : -128 ≤ f (r * C + c)) (h1 : f (r * C + c) ≤ 127) : mv f (unitv c) C r = f (r * C + c) := by
  unfold mv dot
  rw [isum_unit (fun i => f (r * C + i)) c C, if_pos hc, wid _ (by omega) (by omega)]
theorem unit_cell {F : Nat → Value} {j c : Nat} (h : F j = .int .i8 0) : (if j = c then .int .i8 1 else F j) = Value.int .i8 (unitv c j) := by
  unfold unitv
  by_cases e : j = c
  · rw [if_pos e, if_pos e]
  · rw [if_neg e, if_neg e, h]
theorem unit_bd (c i : Nat) : -128 ≤ unitv c i ∧ unitv c i ≤ 127 := by unfold unitv; split <;> omega
set_option maxHeartbeats 4000000 in
theorem columns_ok {w : World} {R C n : Nat} {ao : Option Addr} {ca : Nat} {f : Nat → Int} (ha : RdA w ao 1 n ca (fun i => .int .i8 (f i)))
    (hs : shp (R : Int) (C : Int) n = true) (hf : ∀ i, i < n → -127 ≤ f i ∧ f i ≤ 127) (hR : 8 * R ≤ 281474976710656) (hC : C ≤ 140737488355328) :
    Calls Try.prog 19 #[.agg #[.int .i64 (R : Int), .int .i64 (C : Int), .slice ao n ca]] w fun e w' => e = .returned (.bool true) ∧ Below w.heap.size w w' := by
  have hn : n ≤ 9223372036854775807 := by have := ha.le; have := ha.top; unfold maxLen at this; omega
  have hnc := ha.le
  obtain ⟨hR1, hC1, hmul⟩ := shp_mul hs
  have HM := hidd hmul
  clear hmul
  go_enter Try.func19, Try.ntmps19
  go_wp2
  have H1 := fresh_alloc w (.cells #[.int .i64 (R : Int), .int .i64 (C : Int), .slice ao n ca] 43)
  have C0 : Hid ((w.alloc (.cells #[.int .i64 (R : Int), .int .i64 (C : Int), .slice ao n ca] 43)).cell? ⟨w.heap.size, 0, none⟩ = some (.int .i64 R)) := by show _ = _; simp
  have C1 : Hid ((w.alloc (.cells #[.int .i64 (R : Int), .int .i64 (C : Int), .slice ao n ca] 43)).cell? ⟨w.heap.size, 1, none⟩ = some (.int .i64 C)) := by show _ = _; simp
  have C2 : Hid ((w.alloc (.cells #[.int .i64 (R : Int), .int .i64 (C : Int), .slice ao n ca] 43)).cell? ⟨w.heap.size, 2, none⟩ = some (.slice ao n ca)) := by show _ = _; simp
  generalize w.alloc (.cells #[.int .i64 (R : Int), .int .i64 (C : Int), .slice ao n ca] 43) = w1 at *
  have hw1 := H1.size
  go_loopw [3] (fun i wr => ∃ c : Nat, c ≤ C ∧ i = .int .i64 c ∧ Below w1.heap.size w1 wr) (fun i _ => C - (intOf i).toNat)
  case atStart => exact ⟨0, by omega, rfl, Below.refl _ _⟩
  case round =>
    obtain ⟨c, hc, rfl, hfr⟩ := hrel
    have c0 := fresh_cell hfr C0.out
    have c1 := fresh_cell hfr C1.out
    have c2 := fresh_cell hfr C2.out
    by_cases hlt : c < C
    · go_wp2
      have k0 := hidd c0
      have k1 := hidd c1
      have k2 := hidd c2
      clear c0 c1 c2
      go_loopw [4, 5] (fun v i w2 => ∃ q : Nat, q ≤ C ∧ i = .int .i64 q ∧ Own w2 wr.heap.size 32 1 v q (fun _ => .int .i8 0) ∧ Below wr.heap.size wr w2) (fun _ i _ => C - (intOf i).toNat)
      case atStart => exact ⟨0, by omega, rfl, own_nil _ _ _ _ _, Below.refl _ _⟩
      case round =>
        obtain ⟨q, hq, rfl, hown, hf2⟩ := hrel
        have hb2 := hf2.size
        have c1 := fresh_cell hf2 k1.out
        by_cases hlt2 : q < C
        · go_wp2_with (at_builtin; refine wpList_app1 _ rfl _ _ 23 rfl _ 32 (.int .i8 0) 1 Try.underlying23 infoI8 rfl _ q _ rfl (hown.kept (fresh_alloc _ _)) _ 1 rfl (new_cell _ _ _) rfl (by omega) (by omega) (by simp; omega) ?_)
          intro v' w3 hown' happ
          have hf1 := happ.below (hf2.alloc hb2 _) (hown.kept (fresh_alloc _ _)) (Nat.le_refl _) (by simp; omega)
          clear happ hown
          go_wp2
          go_roundw
          case rel => exact ⟨q + 1, by omega, by go_num, hown', hf1⟩
          case measure => simp [intOf]; omega
        · obtain rfl : q = C := by omega
          obtain ⟨g, cap, F, rfl, hc1, hc2, hbg, hrow, hF⟩ := hown.row1 (by omega)
          have HF := hidd hF
          clear hF hown
          have fa := hrow.frozen
          have cc := hrow.cell (i := c) (by omega)
          have hrow' := hrow.set c (.int .i8 1)
          have c0 := fresh_cell (hf2.setCell (p := ⟨g, c, none⟩) hbg (.int .i8 1)) k0.out
          have c1' := fresh_cell (hf2.setCell (p := ⟨g, c, none⟩) hbg (.int .i8 1)) k1.out
          have c2 := fresh_cell (hf2.setCell (p := ⟨g, c, none⟩) hbg (.int .i8 1)) k2.out
          have hu := (rowIs_rd' (n := q) hrow' hc1 hc2).congr (cs' := fun i => .int .i8 (unitv c i)) (fun j hj => unit_cell (HF.out j (by omega)))
          have hff := fresh_trans hfr (hf2.setCell (p := ⟨g, c, none⟩) hbg (.int .i8 1))
          have ha' := ((ha.fresh H1).fresh hff)
          go_wp2_with fail
          refine (matvec_ok ha' hu hs hf (fun i _ => unit_bd c i) hR).mono ?_
          rintro e w3 ⟨bl, Fl, rfl, hbl, hrl, hFl, hf3⟩
          have c0 := fresh_cell hf3 c0
          have c1 := fresh_cell hf3 c1'
          have c2 := fresh_cell hf3 c2
          have hff := fresh_trans hff hf3
          have ha' := ha'.fresh hf3
          clear hu hrow hrow' fa cc hf2 hf3 c1' HF
          have HFl := hidd hFl
          clear hFl
          have hne : ((R : Int) != (R : Int)) = false := by simp
          go_wp2
          have k0 := hidd c0
          have k1 := hidd c1
          have k2 := hidd c2
          clear c0 c1 c2 hne
          go_loopw [8] (fun i w4 => ∃ r : Nat, r ≤ R ∧ i = .int .i64 r ∧ Below w3.heap.size w3 w4) (fun i _ => R - (intOf i).toNat)
          case atStart => exact ⟨0, by omega, rfl, Below.refl _ _⟩
          case round =>
            obtain ⟨r, hr, rfl, hf4⟩ := hrel
            have c0 := fresh_cell hf4 k0.out
            have c1 := fresh_cell hf4 k1.out
            have c2 := fresh_cell hf4 k2.out
            by_cases hlr : r < R
            · obtain ⟨lo, hlo, hlb, hw1, _⟩ := row_bds HM.out hlr hn
              have hn0 : 0 < n := Nat.lt_of_lt_of_le (Nat.lt_of_lt_of_le hC1 (Nat.le_add_left q lo)) hlb
              have hix : lo + c < n := Nat.lt_of_lt_of_le (Nat.add_lt_add_left hlt lo) hlb
              obtain ⟨b1, o1, rfl, h1⟩ := (ha'.fresh hf4).one hn0
              have ce := h1 (lo + c) hix
              have cl := fresh_cell hf4 (hrl.cell (i := r) hlr)
              have hbd := hf (lo + c) hix
              rw [HFl.out r hlr, mv_unit hlt (by rw [← hlo]; exact Int.le_trans (by decide) hbd.1) (by rw [← hlo]; exact hbd.2), ← hlo] at cl
              have HL := hidd hlo
              clear hlo h1
              generalize f (lo + c) = z at *
              have hw2 : wrap64 ((lo : Int) + (c : Int)) = ((lo + c : Nat) : Int) := wid _ (by clear hw1; omega) (by clear hw1; omega)
              generalize lo + c = lc at *
              go_wp2
              go_quiet (fail)
              go_wp2
              go_roundw
              case rel => exact ⟨r + 1, hlr, by go_num, below_drewN hf4 _⟩
              case measure => simp [intOf]; clear hw1 hw2; omega
            · go_wp2
              go_roundw
              case rel => exact ⟨c + 1, hlt, by go_num, fresh_trans hff hf4⟩
              case measure => simp [intOf]; omega
    · go_wp2
      go_ret
      exact ⟨rfl, fresh_trans H1 hfr⟩
end Go.Proofs.Ytonhnlahpfkalaa
