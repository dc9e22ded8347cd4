import Derived.Test.YtknfddakpfkcfaaJdM
namespace Go.Proofs.Ytknfddakpfkcfaa
open Go.RowKit Go.Shelf Go.Sort
/-! JudgeWalks, JudgeTakes. -/
theorem row_ints {w : World} {g n c : Nat} {f : Nat → Int} (h : w.rowIs g 3 c (fun i => .int .i64 (mkd f n i))) (hc : n ≤ c) (hm : c ≤ maxLen) : RdA w (some ⟨g, 0, none⟩) 1 n c (fun i => .int .i64 (f i)) :=
  ⟨hc, hm, fun _ => ⟨g, 0, rfl, fun j hj => by
    rw [Nat.zero_add]
    have := h.cell (i := j) (by omega)
    rw [this]
    unfold mkd
    rw [if_pos (by omega)]⟩⟩
theorem own_sl {w : World} {base : Nat} {e : TypeId} {sz : Nat} {v : Value} {n : Nat} {cs : Nat → Value} (h : Own w base e sz v n cs) : ∃ u c, v = .slice u n c ∧ RdA w u sz n c cs := h.rd
theorem rowIs_fresh {w w' : World} {b n : Nat} {t : TypeId} {f : Nat → Value} (h : w.rowIs b t n f) (hb : Below w.heap.size w w') : w'.rowIs b t n f := by
  have hl := h.lt
  obtain ⟨c, h1, h2⟩ := h
  exact ⟨c, (hb.block b hl).trans h1, h2⟩
theorem eqInts_same {w : World} {ao bo : Option Addr} {n ca cb : Nat} {f : Nat → Int} (ha : RdA w ao 1 n ca (fun i => .int .i64 (f i))) (hb : RdA w bo 1 n cb (fun i => .int .i64 (f i))) :
    Calls Try.prog 19 #[.slice ao n ca, .slice bo n cb] w fun e w' => e = .returned (.bool true) ∧ Below w.heap.size w w' := by
  refine (eqInts_any ha hb).mono ?_
  rintro e w8 ⟨⟨r, rfl, hr⟩, f8⟩
  have : r = true := hr.2 ⟨rfl, fun _ _ => rfl⟩
  subst this
  exact ⟨rfl, f8⟩
theorem WkA.same {n : Nat} {P T D : Nat → Int} {l : Nat} {C : Nat → Int} {w w' z z' : World} {v u : Value} {m k : Nat} {x y er fr : Int} (h : WkA n P T D l C w w' v m x er) (q : WkA n P T D l C z z' u k y fr) : k = m ∧ y = x ∧ fr = er := by
  by_cases ht : okT n P T D
  · by_cases hl : l = n
    · obtain ⟨h1, h2, h3⟩ := h.ok ht hl
      obtain ⟨q1, q2, q3⟩ := q.ok ht hl
      obtain rfl := q1.uniq h1
      exact ⟨rfl, by rw [h2, q2], by rw [h3, q3]⟩
    · obtain ⟨_, h1, h2, h3⟩ := h.arg ht hl
      obtain ⟨_, q1, q2, q3⟩ := q.arg ht hl
      exact ⟨by rw [h1, q1], by rw [h2, q2], by rw [h3, q3]⟩
  · obtain ⟨_, h1, h2, h3⟩ := h.bad ht
    obtain ⟨_, q1, q2, q3⟩ := q.bad ht
    exact ⟨by rw [h1, q1], by rw [h2, q2], by rw [h3, q3]⟩
theorem TkA.same {n : Nat} {P T D : Nat → Int} {l : Nat} {W : Nat → Int} {next most : Int} {w w' z z' : World} {v u : Value} {m k : Nat} {x y : Bool} {er fr : Int} (h : TkA n P T D l W next most w w' v m x er) (q : TkA n P T D l W next most z z' u k y fr) : k = m ∧ y = x ∧ fr = er := by
  by_cases ht : okT n P T D
  · by_cases hl : isW n P l W
    · by_cases hm : most < 1
      · obtain ⟨_, h1, h2, h3⟩ := h.arg ht hl hm
        obtain ⟨_, q1, q2, q3⟩ := q.arg ht hl hm
        exact ⟨by rw [h1, q1], by rw [h2, q2], by rw [h3, q3]⟩
      · obtain ⟨h1, h3⟩ := h.ok ht hl (by omega)
        obtain ⟨q1, q3⟩ := q.ok ht hl (by omega)
        obtain ⟨rfl, rfl⟩ := q1.uniq h1
        exact ⟨rfl, rfl, by rw [h3, q3]⟩
    · obtain ⟨_, h1, h2, h3⟩ := h.way ht hl
      obtain ⟨_, q1, q2, q3⟩ := q.way ht hl
      exact ⟨by rw [h1, q1], by rw [h2, q2], by rw [h3, q3]⟩
  · obtain ⟨_, h1, h2, h3⟩ := h.bad ht
    obtain ⟨_, q1, q2, q3⟩ := q.bad ht
    exact ⟨by rw [h1, q1], by rw [h2, q2], by rw [h3, q3]⟩
set_option maxRecDepth 20000 in
set_option maxHeartbeats 1600000 in
theorem walks_law {w : World} {ao bo : Option Addr} {n l ca cb : Nat} {P T D C : Nat → Int} (h : RdA w ao 3 n ca (nds P T D)) (hc : RdA w bo 1 l cb (fun i => .int .i64 (C i))) (hn : n * 24 ≤ 140737488351232) (hl : l ≤ 17592186043904) :
    Calls Try.prog 6 #[.slice ao n ca, .slice bo l cb] w fun e w' => e = .returned (.bool true) ∧ Below w.heap.size w w' := by
  have HH := hidd h
  have HC := hidd hc
  have HWO := hidd (works_any w)
  clear h hc
  go_enter Try.func6, Try.ntmps6
  go_wp2_with (first
    | (go_at_call 9; with_reducible refine HWO.out.mono ?_; rintro e w1 ⟨rfl, hb1⟩; have HB1 := hidd hb1; have HMN := hidd (mkNodes_any (HH.out.fresh hb1) hn); clear HWO hb1)
    | (go_at_call 21; with_reducible refine HMN.out.mono ?_; rintro e w2 ⟨rfl, hr2, hb2⟩; have HB2 := hidd (HB1.out.trans (hb2.mono HB1.out.size)); have HR2 := hidd hr2; have HMI := hidd (marked_any (HC.out.fresh HB2.out) hl); clear HMN hr2 hb2)
    | (go_at_call 11; with_reducible refine HMI.out.mono ?_; rintro e w3 ⟨rfl, hr3, hb3⟩; have HB3 := hidd (HB2.out.trans (hb3.mono HB2.out.size)); have HR3 := hidd hr3; have HRN := hidd (rowIs_fresh HR2.out hb3); have HWK := hidd (walk_any (row_nodes HRN.out (by omega) (by unfold maxLen; omega)) (row_ints HR3.out (by omega) (by unfold maxLen; omega))); clear HMI hr3 hb3)
    | (go_at_call 16; with_reducible refine HWK.out.mono ?_; rintro e w4 ⟨v4, m, x, er, rfl, q4⟩; have HQ4 := hidd q4; have HB4 := hidd (HB3.out.trans (q4.low.mono HB3.out.size)); have HRW := hidd (rwalk_any (HH.out.fresh HB4.out) (HC.out.fresh HB4.out)); obtain ⟨u4, c4, rfl, _⟩ := own_sl q4.own; clear HWK q4)
    | (go_at_call 22; with_reducible refine HRW.out.mono ?_; rintro e w5 ⟨v5, m5, x5, er5, rfl, q5⟩; obtain ⟨rfl, rfl, rfl⟩ := HQ4.out.same q5; have HB5 := hidd (HB4.out.trans (q5.low.mono HB4.out.size)); obtain ⟨u5, c5, rfl, hr5⟩ := own_sl q5.own; have HEQ := hidd (eqInts_same ((own_rda HQ4.out.own).fresh q5.low) hr5); have HL5 := hidd q5.low; clear HRW q5)
    | (go_at_call 19; with_reducible refine HEQ.out.mono ?_; rintro e w6 ⟨rfl, hb6⟩; have HB6 := hidd (HB5.out.trans (hb6.mono HB5.out.size)); have HL6 := hidd (HQ4.out.low.trans ((HL5.out.trans (hb6.mono HL5.out.size)).mono HQ4.out.low.size)); have HSN := hidd (stNodes_any (HH.out.fresh HB6.out) (rowIs_fresh HRN.out HL6.out) hn); clear HEQ hb6)
    | (go_at_call 23; with_reducible refine HSN.out.mono ?_; rintro e w7 ⟨rfl, hb7⟩; have HB7 := hidd (HB6.out.trans (hb7.mono HB6.out.size)); have HST := hidd (still_any (HC.out.fresh HB7.out) (rowIs_fresh HR3.out (HL6.out.trans (hb7.mono HL6.out.size))) hl); clear HSN hb7)
    | (go_at_call 14; with_reducible refine HST.out.mono ?_; rintro e w8 ⟨rfl, hb8⟩; have HB8 := hidd (HB7.out.trans (hb8.mono HB7.out.size)); clear HST hb8))
  go_ret
  exact ⟨rfl, HB8.out⟩
end Go.Proofs.Ytknfddakpfkcfaa
