import Derived.Test.YtknfddakpfkcfabDoorJdB
namespace Go.Proofs.YtknfddakpfkcfabDoor
open Go.RowKit
set_option maxRecDepth 20000 in
set_option maxHeartbeats 4000000 in
theorem goDown_any {w : World} {ao bo : Option Addr} {n ca cb : Nat} {P T D C : Nat → Int} (h : RdA w ao 3 n ca (nds P T D)) (hc : RdA w bo 1 n cb (fun i => .int .i64 (C i))) (ht : okT n P T D) :
    Calls Tryd.prog 22 #[.slice ao n ca, .slice bo n cb] w fun e w' => ∃ m u c, WyE n P T C m ∧ e = .returned (.slice u m c) ∧ Own w' w.heap.size 3 1 (.slice u m c) m (wyC n P T C) ∧ Below w.heap.size w w' := by
  have hn1 := ht.1
  have hn2 := ht.2.1
  obtain ⟨b1, o1, rfl, h1⟩ := h.node (by omega)
  obtain ⟨b2, o2, rfl, h2⟩ := hc.one (by omega)
  have HT := hidd ht
  have HA := hidd h1
  have HC := hidd h2
  have HO := hidd (own_one (w := w) (.int .i64 0) 3 (wyC n P T C) rfl)
  have HF0 := hidd (fresh_alloc w (.cells #[.int .i64 0] 3))
  clear h hc ht h1 h2
  go_enter Tryd.func22, Tryd.ntmps22
  go_wp2
  go_step3
  go_wp2
  go_step3
  go_wp2
  go_loopg [5] n (fun g s5 wx => ∃ m, m + g = n + 1 ∧ WyP n P T C m ∧ Hid (Own wx w.heap.size 3 1 s5 m (wyC n P T C)) ∧ Hid (Below w.heap.size w wx))
  case atStart => exact ⟨1, by omega, WyP.start hn1, HO, HF0⟩
  case round =>
    clear HO HF0
    obtain ⟨m, hmg, hw, HO, HF⟩ := hrel
    have hlen := hw.len
    have hpos := hw.pos
    cases gk with
    | zero => exact absurd hmg (by omega)
    | succ g =>
    obtain ⟨u, uc, rfl, hu⟩ := HO.out.rd
    obtain ⟨gb, go, rfl, hcell⟩ := (own_rda HO.out).one (by omega)
    obtain ⟨q, HQ⟩ : ∃ q, Hid (q = m - 1) := ⟨_, rfl⟩
    obtain ⟨a, HAe⟩ : ∃ a, Hid (a = wyF n P T C (m - 1)) := ⟨_, rfl⟩
    have e1 : (m : Int) - 1 = (q : Int) := by have := HQ.out; omega
    have q0 : (0 : Int) ≤ (q : Int) := by omega
    have q1 : (q : Int) < (m : Int) := by omega
    have cq : wr.cell? ⟨gb, go + q, none⟩ = some (.int .i64 (a : Int)) := by
      rw [HQ.out, hcell (m - 1) (by omega), HAe.out]
      rfl
    have han : a < n := by rw [HAe.out]; exact hw.lt (m - 1) (by omega)
    have HW := hidd hw
    clear hcell hu hw
    go_wp2
    clear cq q0 q1 e1
    go_loopg [5, 7] (n - (a + 1)) (fun g2 s5 s7 wy => ∃ p : Nat, a < p ∧ p + g2 = n ∧ s5 = .slice (some ⟨gb, go, none⟩) m uc ∧ s7 = .int .i64 (p : Int) ∧ Hid (∀ i, i < p → ¬ (P i = (a : Int) ∧ T i = C a)) ∧ Hid (Own wy w.heap.size 3 1 (.slice (some ⟨gb, go, none⟩) m uc) m (wyC n P T C)) ∧ Hid (Below w.heap.size w wy))
    case atStart => exact ⟨a + 1, by omega, by omega, rfl, by first | rfl | simp, fun i hi hk => (by
      have := Kd.gt HT.out ⟨(show i < n by omega), hk.1, hk.2⟩
      omega), HO, HF⟩
    case round =>
      clear HO HF
      obtain ⟨p, hap, hpg, rfl, rfl, HN, HO, HF⟩ := hrel
      cases gk with
      | zero =>
        obtain rfl : p = n := by omega
        have HE : Hid (WyE p P T C m) := HW.out.ends HAe.out HN.out
        go_wp2
        go_quiet (fail)
        go_wp2
        try rw [Exit.noGoto_ret]
        go_ret
        exact ⟨m, _, _, HE.out, rfl, HO.out.kept (fresh_drewN _ _), below_drewN HF.out _⟩
      | succ g2 =>
        have hpn : p < n := by omega
        have p0 : (0 : Int) ≤ (p : Int) := by omega
        have p1 : (p : Int) < (n : Int) := by omega
        have a0 : (0 : Int) ≤ (a : Int) := by omega
        have a1 : (a : Int) < (n : Int) := by omega
        have dn : ((p : Int) == (n : Int)) = false := by simp; omega
        obtain ⟨c1, c2, c3⟩ := HA.out p hpn
        obtain ⟨_, _, f3⟩ := HA.out a han
        have x1 := fresh_cell HF.out c1
        have x2 := fresh_cell HF.out c2
        have x3 := fresh_cell HF.out c3
        have x4 := fresh_cell HF.out f3
        have x5 := fresh_cell HF.out (HC.out a han)
        clear c1 c2 c3 f3
        obtain ⟨da0, da1⟩ := HT.out.deep a han
        obtain ⟨yp, HYP⟩ : ∃ y, Hid (y = P p) := ⟨_, rfl⟩
        obtain ⟨yt, HYT⟩ : ∃ y, Hid (y = T p) := ⟨_, rfl⟩
        obtain ⟨yd, HYD⟩ : ∃ y, Hid (y = D p) := ⟨_, rfl⟩
        obtain ⟨ya, HYA⟩ : ∃ y, Hid (y = D a) := ⟨_, rfl⟩
        obtain ⟨yc, HYC⟩ : ∃ y, Hid (y = C a) := ⟨_, rfl⟩
        rw [← HYP.out] at x1
        rw [← HYT.out] at x2
        rw [← HYD.out] at x3
        rw [← HYA.out] at x4 da0 da1
        rw [← HYC.out] at x5
        have y2 : ya ≤ 1000 := by omega
        clear da1
        by_cases hgt : ya + 1 < yd
        · have d3 : decide (ya + 1 < yd) = true := decide_eq_true hgt
          have HE : Hid (WyE n P T C m) := HW.out.ends HAe.out (fun i hi hk => (by
            by_cases e : i < p
            · exact HN.out i e hk
            · have e1 := okT.kid HT.out (t := C a) ⟨hi, hk.1, hk.2⟩
              have e2 := HT.out.mono (i := p) (j := i) (by omega) hi
              have := HYD.out
              have := HYA.out
              omega))
          clear x1 x2 x5
          go_wp2
          go_quiet (fail)
          go_wp2
          try rw [Exit.noGoto_ret]
          go_ret
          exact ⟨m, _, _, HE.out, rfl, HO.out.kept (fresh_drewN _ _), below_drewN HF.out _⟩
        · have d3 : decide (ya + 1 < yd) = false := decide_eq_false hgt
          by_cases e1 : yp = (a : Int)
          · rw [e1] at x1
            by_cases e2 : yt = yc
            · rw [e2] at x2
              have HK := HW.out.next HT.out HAe.out (i := p) ⟨hpn, by rw [← HYP.out, e1], by rw [← HYT.out, e2, HYC.out]⟩
              obtain ⟨k1, k2⟩ := HK
              have HW2 := hidd k1
              have HX : Hid (∀ (w0 : World) (t : TypeId), (w0.alloc (.cells #[.int .i64 (p : Int)] t)).cell? ⟨w0.heap.size, 0, none⟩ = some (wyC n P T C m)) := fun w0 t => by
                unfold wyC
                rw [k2]
                exact new_cell _ _ _
              have HSZ := hidd HF.out.size
              clear k1 k2 e1 e2
              go_wp2
              go_quiet (fail)
              go_wp2
              go_quiet (fail)
              have HSZ := HSZ.out
              go_wp2_with (at_builtin; refine wpList_app1 _ rfl _ _ 23 rfl w.heap.size 3 (.int .i64 0) 8 Tryd.underlying23 infoI rfl _ m (wyC n P T C) rfl ((HO.out.kept (fresh_drewN _ _)).kept (fresh_alloc _ _)) _ 1 rfl (HX.out _ _) rfl (by omega) (by omega) (by simp; omega) ?_)
              intro v' w1 hown' happ
              have hf1 := happ.below ((below_drewN HF.out _).alloc (by simp; omega) _) ((HO.out.kept (fresh_drewN _ _)).kept (fresh_alloc _ _)) (Nat.le_refl _) (by simp; omega)
              clear happ
              go_wp2
              go_roundg g
              case measure => omega
              case rel => exact ⟨m + 1, by omega, HW2.out, hown', hf1⟩
            · have d5 : (yt == yc) = false := by simp; exact e2
              have HE := hidd e2
              clear e2 e1
              go_wp2
              go_quiet (fail)
              go_wp2
              go_quiet (fail)
              go_wp2
              go_roundg g2
              case measure => omega
              case rel => exact ⟨p + 1, by omega, by omega, rfl, by go_num, fun i hi hk => (by
                by_cases e : i = p
                · rw [e] at hk; exact HE.out (by rw [HYT.out, HYC.out]; exact hk.2)
                · exact HN.out i (by omega) hk), HO.out.kept (fresh_drewN _ _), below_drewN HF.out _⟩
          · have d4 : (yp == (a : Int)) = false := by simp; exact e1
            have HE := hidd e1
            clear e1
            go_wp2
            go_quiet (fail)
            go_wp2
            go_quiet (fail)
            go_wp2
            go_roundg g2
            case measure => omega
            case rel => exact ⟨p + 1, by omega, by omega, rfl, by go_num, fun i hi hk => (by
              by_cases e : i = p
              · rw [e] at hk; exact HE.out (by rw [HYP.out]; exact hk.1)
              · exact HN.out i (by omega) hk), HO.out.kept (fresh_drewN _ _), below_drewN HF.out _⟩
end Go.Proofs.YtknfddakpfkcfabDoor
