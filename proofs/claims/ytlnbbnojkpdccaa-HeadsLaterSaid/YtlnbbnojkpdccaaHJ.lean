import Derived.Test.YtlnbbnojkpdccaaHK
namespace Go.Proofs.Ytlnbbnojkpdccaa
open Go.RowKit Go.Shelf
attribute [local go_sem] Oper.semAt_some
/-! HeadsLater. -/
def hasWrong (f : Nat → Int) (n : Nat) (pre : List (Int × Int)) : Prop := ∃ j, j < pre.length ∧ pre.getD j (0, 0) ≠ ((sg f n j : Int), f (sg f n j))
set_option maxRecDepth 100000 in
set_option maxHeartbeats 8000000 in
theorem later_law {w : World} {ao : Option Addr} {n cap : Nat} {f : Nat → Int} (h : RdA w ao 1 n cap (fun i => .int .i64 (f i))) (hn : n ≤ 17592186043904) {bo : Option Addr} {m cb : Nat} {g : Nat → Int} (hl : RdA w bo 1 m cb (fun i => .int .i64 (g i))) (first : Int) :
    Calls Try.prog 5 #[.slice ao n cap, .slice bo m cb, .int .i64 first] w fun e w' => e = .returned (.bool true) ∧ Below w.heap.size w w' := by
  refine (callsIn_wide (n := 5)).1 ?_
  refine callsIn_of_wp_marks Try.func5 rfl trivial ?_ rfl
  simp only [Try.ntmps5, List.size_toArray, List.length_cons, List.length_nil, Nat.reduceAdd, Nat.reduceSub, Array.replicate_succ, Array.replicate_zero, List.push_toArray, List.append_toArray, List.nil_append, List.cons_append]
  obtain ⟨w3, hw3⟩ : ∃ w3, w3 = ((w.alloc (.cells #[.slice ao n cap] 22)).alloc (.cells #[.int .i64 first] 3)).alloc (.cells #[.bool false] 4) := ⟨_, rfl⟩
  have hB0 : Below w.heap.size w w3 := by rw [hw3]; exact (((Below.refl _ w).alloc (Nat.le_refl _) _).alloc (by simp) _).alloc (by simp; omega) _
  have b0 : Boxed w3 w.heap.size 22 (.slice ao n cap) := by rw [hw3]; exact ((Boxed.new w _ _).alloc _).alloc _
  have b1 : Boxed w3 (w.heap.size + 1) 3 (.int .i64 first) := by
    rw [hw3]
    have := (Boxed.new (w.alloc (.cells #[.slice ao n cap] 22)) 3 (.int .i64 first)).alloc (.cells #[.bool false] 4)
    simpa only [World.size_alloc] using this
  have b2 : Boxed w3 (w.heap.size + 2) 4 (.bool false) := by
    rw [hw3]
    have := Boxed.new ((w.alloc (.cells #[.slice ao n cap] 22)).alloc (.cells #[.int .i64 first] 3)) 4 (.bool false)
    simpa only [World.size_alloc] using this
  have hs3 : w3.heap.size = w.heap.size + 3 := by rw [hw3]; simp
  have HFX : Hid (Calls Try.prog 9 #[] w3 fun e w' => e = .returned (.bool true) ∧ Below w3.heap.size w3 w') := fixed_any w3
  have HCW : Hid (∀ w1, Below w3.heap.size w3 w1 → Calls Try.prog 13 #[.slice ao n cap] w1 fun e w' => ∃ u uc, e = .returned (.slice u n uc) ∧ Own w' w1.heap.size 2 1 (.slice u n uc) n (fun i => .int .i64 (f i)) ∧ Below w1.heap.size w1 w') := fun w1 f1 => copyW_own (h.fresh (fresh_trans hB0 f1)) hn
  have HRK : Hid (∀ w1 u uc, RdA w1 u 1 n uc (fun i => .int .i64 (f i)) → Calls Try.prog 14 #[.slice u n uc] w1 (RkP w1 f n)) := fun w1 u uc hr => ranked_any hr hn
  have HRL : Hid (∀ w1, Below w3.heap.size w3 w1 → Calls Try.prog 12 #[.slice ao n cap, .int .i64 0] w1 (RnP w1 f n n)) := fun w1 f1 => rankedL_any (h.fresh (fresh_trans hB0 f1)) hn 0 n rfl
  have HH := hidd h
  have HLT := hidd hl
  have hEN := eqNilF
  have c0 := b0.cell
  have hle := h.le
  have htop := h.top
  have hmle := hl.le
  have hmtop := hl.top
  unfold maxLen at htop hmtop
  clear h hl
  gi_wp2_with (fail)
  rw [← hw3]
  refine ⟨trivial, ?_⟩
  gi_at_call 9
  refine (callsIn_wide.2 HFX.out).mono ?_
  rintro e wA ⟨rfl, fA⟩
  have cA := (Boxed.trans' b0 fA).cell
  gi_wp2_with (fail)
  refine ⟨trivial, ?_⟩
  gi_at_call 13
  refine (callsIn_wide.2 (HCW.out wA fA)).mono ?_
  rintro e wB ⟨ul, cl, rfl, OB, fB⟩
  have HOB := hidd OB
  clear OB
  gi_wp2_with (fail)
  refine ⟨trivial, ?_⟩
  gi_at_call 14
  refine (callsIn_wide.2 (HRK.out wB ul cl HOB.out.rda)).mono ?_
  rintro e wC ⟨Bn, gq, cq, rfl, hB1, hB2, hg1, hg2, hcl, hO, fC⟩
  have gC := fresh_trans (fresh_trans fA fB) fC
  have cC := (Boxed.trans' b0 gC).cell
  gi_wp2_with (fail)
  refine ⟨trivial, ?_⟩
  gi_at_call 12
  refine (callsIn_wide.2 (HRL.out wC gC)).mono ?_
  rintro e wD ⟨uw, cw, rfl, OD, fD⟩
  gi_wp2_with (fail)
  simp only [Nat.add_assoc, Nat.reduceAdd]
  clear hEN cA cC c0
  have gD := fresh_trans gC fD
  have fE := fresh_trans (fresh_alloc wD (.cells #[.slice uw n cw] 24)) (fresh_alloc _ (.cells #[.int .i64 0] 3))
  have BW := (Boxed.new wD 24 (.slice uw n cw)).alloc (.cells #[.int .i64 0] 3)
  have BN := Boxed.new (wD.alloc (.cells #[.slice uw n cw] 24)) 3 (.int .i64 0)
  simp only [World.size_alloc] at BN
  have hEs : ((wD.alloc (.cells #[.slice uw n cw] 24)).alloc (.cells #[.int .i64 0] 3)).heap.size = wD.heap.size + 2 := by simp
  obtain ⟨W0, hW0⟩ : ∃ W0, (wD.alloc (.cells #[.slice uw n cw] 24)).alloc (.cells #[.int .i64 0] 3) = W0 := ⟨_, rfl⟩
  rw [hW0] at fE BW BN hEs ⊢
  clear hW0
  have gE := fresh_trans gD fE
  have z1 := fA.size
  have z2 := fB.size
  have z3 := fC.size
  have z4 := fD.size
  have hLn : (ordL f n).length = n := ordL_len f n
  obtain ⟨bl, hb1, hb2, hbu, hbr⟩ : ∃ bl, w.heap.size + 2 < bl ∧ (bl < wB.heap.size ∨ W0.heap.size ≤ bl) ∧ (0 < n → ul = some ⟨bl, 0, none⟩) ∧ LRow n bl W0 := by
    by_cases h0 : n = 0
    · exact ⟨W0.heap.size, by omega, .inr (Nat.le_refl _), fun h1 => absurd h1 (by omega), fun h1 => absurd h1 (by omega)⟩
    · rcases HOB.out.2 with ⟨_, e⟩ | ⟨gl, cp, cur, e, hbg, hgg, hnc, hcm, hcs, htake⟩
      · exact absurd e h0
      · have hO9 := HOB.out
        injection e with e1 _ e3
        subst e1 e3
        obtain ⟨g9, e9, hc9⟩ := hO9.at0 (by omega)
        injection e9 with e9
        injection e9 with e9
        subst e9
        have hlt9 := (Array.getElem?_eq_some_iff.1 hgg).1
        refine ⟨gl, by omega, .inl hlt9, fun _ => rfl, fun _ => ⟨cl, fun j => cur[j]?.getD (.bool false), ?_, hnc, fun j hj => ⟨f j, ?_⟩⟩⟩
        · refine World.rowIs.of_block (w := wB) ⟨cur, hgg, by simpa using hcs, fun i hi => ?_⟩ ((fresh_trans (fresh_trans fC fD) fE).block gl hlt9)
          show cur[i]? = some (cur[i]?.getD _)
          rw [Array.getElem?_eq_getElem (by simp at hcs; omega)]
          rfl
        · have := hc9 j hj
          unfold World.cell? at this
          rw [hgg] at this
          simp at this
          simp [this]
  have hwant : Own W0 wC.heap.size 3 1 (.slice uw n cw) n (fun j => .int .i64 (sg f n j : Nat)) := OD.out.kept fE
  have C : LC w W0 ao n cap f bo m cb g ul cl Bn gq cq uw cw wD.heap.size (wD.heap.size + 1) bl wC.heap.size :=
    ⟨hn, HH.out, HLT.out, fresh_trans hB0 gE, Boxed.trans' b0 gE, Boxed.trans' b2 gE, BW, fresh_cell (fresh_trans fD fE) hcl, hO.below (fresh_trans fD fE) hg2, hwant, hbu, HOB.out.rda.le, by have := HOB.out.rda.top; unfold maxLen at this; omega, hbr, hb1, by omega, ⟨by omega, by omega⟩, ⟨by omega, by omega, by omega⟩, ⟨by omega, by omega, by omega⟩, fun z hz => by have := OD.out.lt z hz; exact ⟨by omega, by omega⟩, by omega, by omega⟩
  have B1 := Boxed.trans' b1 gE
  have HC := hidd C
  clear hbr hbu hwant C hO hcl fE gE gD gC OD
  refine wpIn_rangeFunc_ownH (α := Int × Int) rfl (by decide) (gf := 25) (lb := #[.pointer (some ⟨Bn, 0, none⟩)]) rfl trivial (enters_of Try.func25 (by kernel_rfl) rfl)
    (iter_stops Fence.wide 4 trivial rfl (by decide) Bn gq cq (ordL f n) (by omega) W0 (by omega) (by omega) (by rw [hLn]; exact HC.out.cellB) HC.out.ord) KpB.trans (fun V l o o' hl hV hc _ => ⟨by simp, World.putObj_heap_other (by omega), World.putObj_heap_other (by omega)⟩) (Below.refl _ _) (fun _ => rfl)
    (fun pre V => W0.grownBy V (some (wD.heap.size + 1)) ∧ Boxed V (wD.heap.size + 1) 3 (.int .i64 (pre.length : Int)) ∧ (first < 0 ∨ (pre.length : Int) ≤ first))
    (fun cd pre V => cd = .exit 0 ∧ (hasWrong f n pre ∨ ∃ q : Nat, pre.length = q + 1 ∧ (q : Int) = first ∧ W0.grownBy V (some (wD.heap.size + 1)) ∧ Boxed V (wD.heap.size + 1) 3 (.int .i64 (q : Int))))
    ?hI ?hIx ?h0
    (fun z a' _ => a' = { tmps := #[.slice ao n cap, .slice bo m cb, .int .i64 first, .pointer (some ⟨w.heap.size, 0, none⟩), undef, .pointer (some ⟨w.heap.size + 1, 0, none⟩), .pointer (some ⟨w.heap.size + 2, 0, none⟩), .bool true, .slice ul n cl, .func (.func 25) #[] #[.pointer (some ⟨Bn, 0, none⟩)], .pointer (some ⟨wD.heap.size, 0, none⟩), .bool true, .pointer (some ⟨wD.heap.size + 1, 0, none⟩), .int .i64 z.1, .int .i64 z.2, undef, undef, undef, undef, undef, undef, .bool true, .slice ao n cap, .slice ul n cl, .slice ul n cl, .func (.func 25) #[] #[.pointer (some ⟨Bn, 0, none⟩)], .tuple #[.slice uw n cw, .bool true], .slice ao n cap, .tuple #[.slice uw n cw, .bool true], .slice uw n cw, .bool true, .func (.func 25) #[] #[.pointer (some ⟨Bn, 0, none⟩)], .bool false, .func (.func 25) #[] #[.pointer (some ⟨Bn, 0, none⟩)], .int .i64 z.1, .int .i64 z.2, undef, undef, undef, undef, undef, undef, undef, undef, undef, undef, undef, undef, undef, undef, undef, undef, undef, undef, undef, undef, undef, undef, undef, undef, undef, undef, undef, undef, undef, undef, undef, undef, undef, undef, undef, undef, undef, undef, undef, undef, undef, undef, undef, undef, undef, undef, undef, undef, undef, undef, undef, undef, undef, undef, undef, undef, undef, undef, undef, undef, undef, undef, undef, undef, undef, undef, undef, undef, undef, undef, undef, undef, undef, undef, undef, undef, undef, undef, undef, undef, undef, undef, undef, undef, undef, undef, undef, undef, undef, undef, undef, undef, undef, undef, undef, undef, undef, undef, undef, undef, undef, undef, undef, undef, undef, undef, undef, undef, undef, undef, undef, undef, undef], defers := [] })
    ?hAx ?assign ?body ?done ?stop
  case hI =>
    rintro pre X Y row ⟨h1, h2, h3⟩ hg hr
    exact ⟨own_grown _ _ W0 (Nat.le_refl _) () X Y row h1 hg hr, boxed_own _ _ (fun (_ : Unit) => Value.int .i64 (pre.length : Int)) () X Y row h2 hg (fun r e => (hr r e).2), h3⟩
  case hIx =>
    rintro cd pre X Y row ⟨h1, h2 | ⟨q, h3, h4, h5, h6⟩⟩ hg hr
    · exact ⟨h1, .inl h2⟩
    · exact ⟨h1, .inr ⟨q, h3, h4, own_grown _ _ W0 (Nat.le_refl _) () X Y row h5 hg hr, boxed_own _ _ (fun (_ : Unit) => Value.int .i64 (q : Int)) () X Y row h6 hg (fun r e => (hr r e).2)⟩⟩
  case h0 => exact ⟨⟨rfl, rfl, rfl, Nat.le_refl _, fun _ _ _ => rfl⟩, BN, by simp; omega⟩
  case hAx =>
    rintro z a' _ X Y row e1 hg hr
    exact e1
  case assign =>
    rintro l pre ⟨x, y⟩ V K hi hK2
    have HI := hidd hi
    clear hi
    unfold encX
    gi_wp2
    exact hK2 _ _ (KeepsFrom.refl _ _) (KpB.refl _ _ _) HI.out rfl
  case body =>
    rintro l pre ⟨x, y⟩ a' V hl hlr ⟨h1, h2, h3⟩ rfl hlt
    rw [hLn] at hlt
    have hKB := Kb.of h1 bl
    have bx0 := (hKB.box HC.out.box0 (by omega) (by omega)).cell
    have bx1 := (hKB.box B1 (by omega) (by omega)).cell
    have bxW := (hKB.box HC.out.boxW (by omega) (by omega)).cell
    have bxN := h2.cell
    have fxN := h2.frozen
    have hwlt := HC.out.want.rda.le
    have hwtop := HC.out.want.rda.top
    unfold maxLen at hwtop
    have ho6 := HC.out.o6
    obtain ⟨gw, ew, hcw⟩ := HC.out.want.at0 (by omega)
    subst ew
    have o6 := ho6 gw rfl
    have cw0 := hKB.cell (hcw pre.length hlt) o6.1 o6.2
    obtain ⟨ba, oa, ea, hca⟩ := (HH.out.fresh (hKB.below HC.out.low (by omega) (by omega))).one (by omega)
    subst ea
    have hsl := sg_lt (f := f) hlt
    have ca := hca (sg f n pre.length) hsl
    have hgeq : decide (n ≤ pre.length) = false := decide_eq_false (by omega)
    have p0 : (0 : Int) ≤ (pre.length : Int) := by omega
    have p1 : (pre.length : Int) < (n : Int) := by omega
    obtain ⟨t, ht⟩ : ∃ t, t = sg f n pre.length := ⟨_, rfl⟩
    rw [← ht] at cw0 ca hsl
    have HTE := hidd ht
    clear hca hcw ht
    by_cases hf1 : (pre.length : Int) = first
    · have hd1 : ((pre.length : Int) == first) = true := by simpa using hf1
      have HF1 := hidd hf1
      gi_wp2
      exact ⟨KeepsFrom.refl _ _, rfl, .inr ⟨pre.length, by simp, HF1.out, h1, h2⟩⟩
    have hd1 : ((pre.length : Int) == first) = false := by simpa using hf1
    by_cases hx : x = (t : Int)
    · subst hx
      have t0 : (0 : Int) ≤ (t : Int) := by omega
      have t1 : (t : Int) < (n : Int) := by omega
      by_cases hy : y = f t
      · subst hy
        gi_wp2
        refine ⟨(KeepsOthers.setCell _ _ _).from _, ⟨by simp, Below.heap_setCell _ _ _ _ (by show ¬ (_ = wD.heap.size + 1); omega), Below.heap_setCell _ _ _ _ (by show ¬ (_ = wD.heap.size + 1); omega)⟩, ⟨h1.os, h1.tape, h1.output, by simpa using h1.size, fun k hk hne => (Below.heap_setCell _ _ _ _ (by show ¬ (_ = wD.heap.size + 1); intro e; exact hne (by rw [e]))).trans (h1.block k hk hne)⟩, ?_, ?_⟩
        · rw [show ((pre ++ [((t : Int), f t)]).length : Int) = (pre.length : Int) + 1 by simp]
          exact h2.set _
        · simp; omega
      · have hd3 : (y != f t) = true := by simpa using hy
        have HW : Hid (hasWrong f n (pre ++ [((t : Int), y)])) := ⟨pre.length, by simp, by rw [← HTE.out]; simp; exact hy⟩
        gi_wp2
        exact ⟨KeepsFrom.refl _ _, rfl, .inl HW.out⟩
    · have hd2 : (x != (t : Int)) = true := by simpa using hx
      have HW : Hid (hasWrong f n (pre ++ [(x, y)])) := ⟨pre.length, by simp, by rw [← HTE.out]; simp; intro e; exact absurd e hx⟩
      gi_wp2
      exact ⟨KeepsFrom.refl _ _, rfl, .inl HW.out⟩
  case done =>
    rintro D xs V hD rfl ⟨h1, h2, h3⟩ hV
    rw [hLn] at h2 h3
    have hKB := Kb.of h1 bl
    have bx0 := (hKB.box HC.out.box0 (by omega) (by omega)).cell
    have bx1 := (hKB.box B1 (by omega) (by omega)).cell
    have bxW := (hKB.box HC.out.boxW (by omega) (by omega)).cell
    have bxN := h2.cell
    by_cases hf : (n : Int) = first
    · have hd : ((n : Int) != first) = false := by simpa using hf
      clear hf
      gi_wp2_with (fail)
      refine later_loop HC.out _ ?hQ _ _ [D] (LFrame.of rfl rfl rfl rfl rfl rfl rfl rfl) ⟨by simp, fun E hE => by rw [List.mem_singleton.1 hE]; exact ⟨hD, hV⟩⟩ hKB (fun h0 => (HC.out.lrow.blk (h1.block bl (HC.out.lrow.lt h0) (fun e => by injection e; omega))) h0)
      case hQ =>
        clear hKB bx0 bx1 bxW bxN h1 h2 hV
        rintro a' W' Ds ⟨u, e1, e3, e6, e8, e9, e10, e15, rfl⟩ hM hK
        rw [e1, e3, e6, e8, e9, e10, e15]
        clear e1 e3 e6 e8 e9 e10 e15
        have b9 := hK.box HC.out.box2 (by omega) (by omega)
        have c9 := b9.cell
        have f9 := b9.frozen
        have HBX := hidd (b9.set (.bool true))
        have hbw := hK.below HC.out.low (by omega) (by omega)
        have HBL := hidd (hbw.setCell (p := ⟨w.heap.size + 2, 0, none⟩) (by show _ ≤ w.heap.size + 2; omega) (.bool true))
        have HM9 : Hid (Mks W0 (W'.setCell ⟨w.heap.size + 2, 0, none⟩ (.bool true)) Ds) := hM.keep (KeepsOthers.setCell _ _ _)
        gi_wp2
        refine leaves_marks (B := W0.heap.size) (fun V => Boxed V (w.heap.size + 2) 4 (.bool true) ∧ Below w.heap.size w V) (fun V D hD hV ⟨h1, h2⟩ => ⟨h1.kept (grownBy_putObj' V D (.deferred none)) (fun e => by injection e; omega), h2.trans (belowK_b (w := w) (Nat.le_refl _) V D _ _ (by omega) hV rfl rfl)⟩) (fun V ⟨h1, h2⟩ => ?_) Ds _ HM9.out.1 HM9.out.2 ⟨HBX.out, HBL.out⟩
        exact ⟨.bool true, results_bool Try.results5 _ _ (w.heap.size + 2) true rfl h1.cell, rfl, h2⟩
    · have hd : ((n : Int) != first) = true := by simpa using hf
      clear hf
      gi_wp2_with (fail)
      refine later_loop HC.out _ ?hQ _ _ [D] (LFrame.of rfl rfl rfl rfl rfl rfl rfl rfl) ⟨by simp, fun E hE => by rw [List.mem_singleton.1 hE]; exact ⟨hD, hV⟩⟩ hKB (fun h0 => (HC.out.lrow.blk (h1.block bl (HC.out.lrow.lt h0) (fun e => by injection e; omega))) h0)
      case hQ =>
        clear hKB bx0 bx1 bxW bxN h1 h2 hV
        rintro a' W' Ds ⟨u, e1, e3, e6, e8, e9, e10, e15, rfl⟩ hM hK
        rw [e1, e3, e6, e8, e9, e10, e15]
        clear e1 e3 e6 e8 e9 e10 e15
        have b9 := hK.box HC.out.box2 (by omega) (by omega)
        have c9 := b9.cell
        have f9 := b9.frozen
        have HBX := hidd (b9.set (.bool true))
        have hbw := hK.below HC.out.low (by omega) (by omega)
        have HBL := hidd (hbw.setCell (p := ⟨w.heap.size + 2, 0, none⟩) (by show _ ≤ w.heap.size + 2; omega) (.bool true))
        have HM9 : Hid (Mks W0 (W'.setCell ⟨w.heap.size + 2, 0, none⟩ (.bool true)) Ds) := hM.keep (KeepsOthers.setCell _ _ _)
        gi_wp2
        refine leaves_marks (B := W0.heap.size) (fun V => Boxed V (w.heap.size + 2) 4 (.bool true) ∧ Below w.heap.size w V) (fun V D hD hV ⟨h1, h2⟩ => ⟨h1.kept (grownBy_putObj' V D (.deferred none)) (fun e => by injection e; omega), h2.trans (belowK_b (w := w) (Nat.le_refl _) V D _ _ (by omega) hV rfl rfl)⟩) (fun V ⟨h1, h2⟩ => ?_) Ds _ HM9.out.1 HM9.out.2 ⟨HBX.out, HBL.out⟩
        exact ⟨.bool true, results_bool Try.results5 _ _ (w.heap.size + 2) true rfl h1.cell, rfl, h2⟩
  case stop =>
    rintro D cd pre V hD hp ⟨rfl, hw | ⟨q, hq, hqf, h1, h2⟩⟩ hV
    · obtain ⟨j, hj, hne⟩ := hw
      obtain ⟨r, hr⟩ := hp
      have hpl : pre.length ≤ n := by have := congrArg List.length hr; rw [hLn, List.length_append] at this; omega
      have e1 := (ordL_get (f := f) (n := n) (k := j) (by omega)).1
      rw [← hr, List.getElem?_append_left (by omega)] at e1
      exact absurd (by rw [List.getD_eq_getElem?_getD, e1]; rfl) hne
    · have hKB := Kb.of h1 bl
      have bx0 := (hKB.box HC.out.box0 (by omega) (by omega)).cell
      have bx1 := (hKB.box B1 (by omega) (by omega)).cell
      have bxW := (hKB.box HC.out.boxW (by omega) (by omega)).cell
      have bxN := h2.cell
      have hd : ((q : Int) != first) = false := by simpa using hqf
      clear hqf
      gi_wp2_with (fail)
      refine later_loop HC.out _ ?hQ _ _ [D] (LFrame.of rfl rfl rfl rfl rfl rfl rfl rfl) ⟨by simp, fun E hE => by rw [List.mem_singleton.1 hE]; exact ⟨hD, hV⟩⟩ hKB (fun h0 => (HC.out.lrow.blk (h1.block bl (HC.out.lrow.lt h0) (fun e => by injection e; omega))) h0)
      case hQ =>
        clear hKB bx0 bx1 bxW bxN h1 h2 hV
        rintro a' W' Ds ⟨u, e1, e3, e6, e8, e9, e10, e15, rfl⟩ hM hK
        rw [e1, e3, e6, e8, e9, e10, e15]
        clear e1 e3 e6 e8 e9 e10 e15
        have b9 := hK.box HC.out.box2 (by omega) (by omega)
        have c9 := b9.cell
        have f9 := b9.frozen
        have HBX := hidd (b9.set (.bool true))
        have hbw := hK.below HC.out.low (by omega) (by omega)
        have HBL := hidd (hbw.setCell (p := ⟨w.heap.size + 2, 0, none⟩) (by show _ ≤ w.heap.size + 2; omega) (.bool true))
        have HM9 : Hid (Mks W0 (W'.setCell ⟨w.heap.size + 2, 0, none⟩ (.bool true)) Ds) := hM.keep (KeepsOthers.setCell _ _ _)
        gi_wp2
        refine leaves_marks (B := W0.heap.size) (fun V => Boxed V (w.heap.size + 2) 4 (.bool true) ∧ Below w.heap.size w V) (fun V D hD hV ⟨h1, h2⟩ => ⟨h1.kept (grownBy_putObj' V D (.deferred none)) (fun e => by injection e; omega), h2.trans (belowK_b (w := w) (Nat.le_refl _) V D _ _ (by omega) hV rfl rfl)⟩) (fun V ⟨h1, h2⟩ => ?_) Ds _ HM9.out.1 HM9.out.2 ⟨HBX.out, HBL.out⟩
        exact ⟨.bool true, results_bool Try.results5 _ _ (w.heap.size + 2) true rfl h1.cell, rfl, h2⟩
end Go.Proofs.Ytlnbbnojkpdccaa
