import Derived.Test.YtlnbbnojkpdccaaHE
namespace Go.Proofs.Ytlnbbnojkpdccaa
open Go.RowKit Go.Shelf
attribute [local go_sem] Oper.semAt_some
/-! The law's own going through: ranked. -/
theorem eqNilF_in (dp : Nat) (fn : Fn) (first cap : Array Value) (w : World) : (Op.equalIn (dp + 1) 34 (.func fn first cap) .nilFunc).run Try.prog w = .ok false w := by
  simp [Op.equalIn, run_underlying Try.underlying34]
theorem eqNilF (fn : Fn) (first cap : Array Value) (w : World) : (binOp .eql 34 (.func fn first cap) .nilFunc).run Try.prog w = .ok (.bool false) w := by
  simp only [binOp]
  simp [Op.equal, Op.maxDepth, eqNilF_in 9999]
/-- how many tokens are gone through -/
def goesTo (most : Int) (n : Nat) : Nat := if 1 ≤ most then min most.toNat n else n
def good (f : Nat → Int) (n : Nat) (x : Int × Int) : Prop := ∃ t : Nat, t < n ∧ x = ((t : Int), f t)
def hasBad (f : Nat → Int) (n : Nat) (pre : List (Int × Int)) : Prop := ∃ x ∈ pre, ¬ good f n x
/-- the five boxes: logits, most, the two results, the list -/
def RL (w W0 : World) (ao : Option Addr) (n cap : Nat) (most : Int) (pre : List (Int × Int)) (W : World) : Prop :=
  ∃ v, Boxed W (w.heap.size + 4) 24 v ∧ Own W W0.heap.size 3 1 v pre.length (ldF pre) ∧ Boxed W w.heap.size 22 (.slice ao n cap) ∧ Boxed W (w.heap.size + 1) 3 (.int .i64 most) ∧ Boxed W (w.heap.size + 2) 24 (.slice none 0 0) ∧ Boxed W (w.heap.size + 3) 4 (.bool false) ∧ Below w.heap.size w W ∧ W0.heap.size ≤ W.heap.size
theorem RL.from {w W0 : World} (h : w.heap.size ≤ W0.heap.size) (ao : Option Addr) (n cap : Nat) (most : Int) (pre : List (Int × Int)) : OwnFrom W0.heap.size (fun (_ : Unit) W => RL w W0 ao n cap most pre W) := by
  rintro u X Y row ⟨v, h1, h2, h3, h4, h5, h6, h7, h8⟩ hg hr
  have bx : ∀ {B : Nat} {t : TypeId} {x : Value}, Boxed X B t x → Boxed Y B t x := fun {B t x} hb => boxed_own _ _ (fun (_ : Unit) => x) () X Y row hb hg (fun r e => (hr r e).2)
  exact ⟨v, bx h1, own_from _ _ _ _ _ _ _ () X Y row h2 hg hr, bx h3, bx h4, bx h5, bx h6, ownFrom_below (β := Unit) (Nat.le_refl _) h () X Y row h7 hg hr, Nat.le_trans h8 hg.size⟩
def RnP (w : World) (f : Nat → Int) (n m : Nat) (e : Ending) (w' : World) : Prop := ∃ u c, e = .returned (.tuple #[.slice u m c, .bool true]) ∧ Hid (Own w' w.heap.size 3 1 (.slice u m c) m (fun j => .int .i64 (sg f n j))) ∧ Below w.heap.size w w'
set_option maxRecDepth 100000 in
set_option maxHeartbeats 4000000 in
theorem rankedL_any {w : World} {ao : Option Addr} {n cap : Nat} {f : Nat → Int} (h : RdA w ao 1 n cap (fun i => .int .i64 (f i))) (hn : n ≤ 17592186043904) (most : Int) (m : Nat) (hm : m = goesTo most n) :
    Calls Try.prog 12 #[.slice ao n cap, .int .i64 most] w (RnP w f n m) := by
  refine (callsIn_wide (n := 5)).1 ?_
  refine callsIn_of_wp_marks Try.func12 rfl trivial ?_ rfl
  simp only [Try.ntmps12, List.size_toArray, List.length_cons, List.length_nil, Nat.reduceAdd, Nat.reduceSub, Array.replicate_succ, Array.replicate_zero, List.push_toArray, List.append_toArray, List.nil_append, List.cons_append]
  obtain ⟨w5, hw5⟩ : ∃ w5, w5 = ((((w.alloc (.cells #[.slice ao n cap] 22)).alloc (.cells #[.int .i64 most] 3)).alloc (.cells #[.slice none 0 0] 24)).alloc (.cells #[.bool false] 4)).alloc (.cells #[.slice none 0 0] 24) := ⟨_, rfl⟩
  have hB0 : Below w.heap.size w w5 := by rw [hw5]; exact (((((Below.refl _ w).alloc (Nat.le_refl _) _).alloc (by simp) _).alloc (by simp; omega) _).alloc (by simp; omega) _).alloc (by simp; omega) _
  have b0 : Boxed w5 w.heap.size 22 (.slice ao n cap) := by rw [hw5]; exact ((((Boxed.new w _ _).alloc _).alloc _).alloc _).alloc _
  have b1 : Boxed w5 (w.heap.size + 1) 3 (.int .i64 most) := by
    rw [hw5]
    have := (((Boxed.new (w.alloc (.cells #[.slice ao n cap] 22)) 3 (.int .i64 most)).alloc (.cells #[.slice none 0 0] 24)).alloc (.cells #[.bool false] 4)).alloc (.cells #[.slice none 0 0] 24)
    simpa only [World.size_alloc] using this
  have b2 : Boxed w5 (w.heap.size + 2) 24 (.slice none 0 0) := by
    rw [hw5]
    have := ((Boxed.new ((w.alloc (.cells #[.slice ao n cap] 22)).alloc (.cells #[.int .i64 most] 3)) 24 (.slice none 0 0)).alloc (.cells #[.bool false] 4)).alloc (.cells #[.slice none 0 0] 24)
    simpa only [World.size_alloc] using this
  have b3 : Boxed w5 (w.heap.size + 3) 4 (.bool false) := by
    rw [hw5]
    have := (Boxed.new (((w.alloc (.cells #[.slice ao n cap] 22)).alloc (.cells #[.int .i64 most] 3)).alloc (.cells #[.slice none 0 0] 24)) 4 (.bool false)).alloc (.cells #[.slice none 0 0] 24)
    simpa only [World.size_alloc] using this
  have b4 : Boxed w5 (w.heap.size + 4) 24 (.slice none 0 0) := by
    rw [hw5]
    have := Boxed.new ((((w.alloc (.cells #[.slice ao n cap] 22)).alloc (.cells #[.int .i64 most] 3)).alloc (.cells #[.slice none 0 0] 24)).alloc (.cells #[.bool false] 4)) 24 (.slice none 0 0)
    simpa only [World.size_alloc] using this
  have hs5 : w5.heap.size = w.heap.size + 5 := by rw [hw5]; simp
  have HRK : Hid (Calls Try.prog 14 #[.slice ao n cap] w5 (RkP w5 f n)) := ranked_any (h.fresh hB0) hn
  have HH := hidd h
  have HM := hidd hm
  have hEN := eqNilF
  clear h hm
  rw [hw5] at HRK
  gi_wp2_with (refine ⟨trivial, ?_⟩; gi_at_call 14; refine (callsIn_wide.2 HRK.out).mono ?_; rintro e W0 ⟨Bn, g, c, rfl, hB1, hB2, hg1, hg2, hcl, hO, f0⟩; rw [← hw5] at hB1 hg1 f0)
  simp only [Nat.add_assoc, Nat.reduceAdd]
  clear hEN
  have f1 := hB0.trans (f0.mono (by omega))
  have hs0 := f0.size
  have hLn : (ordL f n).length = n := ordL_len f n
  have HO := hidd hO
  have H0 : Hid (RL w W0 ao n cap most [] W0) := ⟨_, Boxed.trans' b4 f0, own_nil _ _ _ _ _, Boxed.trans' b0 f0, Boxed.trans' b1 f0, Boxed.trans' b2 f0, Boxed.trans' b3 f0, f1, Nat.le_refl _⟩
  clear b0 b1 b2 b3 b4 hO HRK hB0 hw5 f0
  refine wpIn_rangeFunc_ownH (α := Int × Int) rfl (by decide) (gf := 25) (lb := #[.pointer (some ⟨Bn, 0, none⟩)]) rfl trivial (enters_of Try.func25 (by kernel_rfl) rfl)
    (iter_stops Fence.wide 4 trivial rfl (by decide) Bn g c (ordL f n) (by omega) W0 hB2 hg2 (by rw [hLn]; exact hcl) HO.out) KpB.trans (fun V l o o' hl hV hc _ => ⟨by simp, World.putObj_heap_other (by omega), World.putObj_heap_other (by omega)⟩) (Below.refl _ _) (fun _ => rfl)
    (fun pre W => RL w W0 ao n cap most pre W ∧ (most < 1 ∨ (pre.length : Int) < most))
    (fun cd pre W => (cd = .ret ∧ hasBad f n pre) ∨ (cd = .exit 0 ∧ (pre.length : Int) = most ∧ 1 ≤ most ∧ RL w W0 ao n cap most pre W))
    ?hI ?hIx ?h0
    (fun z a' _ => a' = { tmps := #[.slice ao n cap, .int .i64 most, .pointer (some ⟨w.heap.size, 0, none⟩), .pointer (some ⟨w.heap.size + 1, 0, none⟩), .pointer (some ⟨w.heap.size + 2, 0, none⟩), .pointer (some ⟨w.heap.size + 3, 0, none⟩), .pointer (some ⟨w.heap.size + 4, 0, none⟩), .func (.func 25) #[] #[.pointer (some ⟨Bn, 0, none⟩)], .int .i64 z.1, .int .i64 z.2, .slice ao n cap, .func (.func 25) #[] #[.pointer (some ⟨Bn, 0, none⟩)], .func (.func 25) #[] #[.pointer (some ⟨Bn, 0, none⟩)], .bool false, .func (.func 25) #[] #[.pointer (some ⟨Bn, 0, none⟩)], .int .i64 z.1, .int .i64 z.2, undef, undef, undef, undef, undef, undef, undef, undef, undef, undef, undef, undef, undef, undef, undef, undef, undef, undef, undef, undef, undef, undef, undef, undef, undef, undef], defers := [] })
    ?hAx ?assign ?body ?done ?stop
  case hI =>
    rintro pre X Y row ⟨h1, h2⟩ hg hr
    exact ⟨RL.from (by omega) _ _ _ _ pre () X Y row h1 hg hr, h2⟩
  case hIx =>
    rintro cd pre X Y row (h1 | ⟨h1, h2, h3, h5⟩) hg hr
    · exact .inl h1
    · exact .inr ⟨h1, h2, h3, RL.from (by omega) _ _ _ _ pre () X Y row h5 hg hr⟩
  case h0 => exact ⟨H0.out, by simp; omega⟩
  case hAx =>
    rintro z a' u X Y row e1 hg hr
    exact e1
  case assign =>
    rintro l pre ⟨x, y⟩ W K hi hK
    have HI := hidd hi
    clear hi
    unfold encX
    gi_wp2
    exact hK _ _ (KeepsFrom.refl _ _) (KpB.refl _ _ _) HI.out rfl
  case body =>
    rintro l pre ⟨x, y⟩ a' W hl hlr ⟨⟨v, h1, h2, h3, h4, h5, h6, h7, h8⟩, h9⟩ rfl hlt
    have hO2 := h2
    obtain ⟨u, uc, rfl, hrd⟩ := h2.rd
    obtain ⟨bl, ol, rfl, hcl2⟩ := (HH.out.fresh h7).one (by omega)
    have c0 := h3.cell
    have c1 := h4.cell
    have c2 := h5.cell
    have d2 := h5.frozen
    have c3 := h6.cell
    have d3 := h6.frozen
    have c4 := h1.cell
    rw [hLn] at hlt
    clear hrd h2
    by_cases hx0 : x < 0
    · have hd : decide (x < 0) = true := decide_eq_true hx0
      have HBAD : Hid (¬ good f n (x, y)) := fun ⟨t, _, e⟩ => by simp only [Prod.mk.injEq] at e; omega
      gi_wp2
      exact ⟨((KeepsOthers.setCell _ _ _).trans (KeepsOthers.setCell _ _ _)).from _, .inl ⟨rfl, _, List.mem_append.2 (.inr (List.mem_singleton.2 rfl)), HBAD.out⟩⟩
    obtain ⟨t, rfl⟩ := Int.eq_ofNat_of_zero_le (show 0 ≤ x by omega)
    have hd : decide ((t : Int) < 0) = false := decide_eq_false (by omega)
    by_cases ht : n ≤ t
    · have hd1 : decide (n ≤ t) = true := decide_eq_true ht
      have HBAD : Hid (¬ good f n ((t : Int), y)) := fun ⟨t', _, e⟩ => by simp only [Prod.mk.injEq] at e; omega
      gi_wp2
      exact ⟨((KeepsOthers.setCell _ _ _).trans (KeepsOthers.setCell _ _ _)).from _, .inl ⟨rfl, _, List.mem_append.2 (.inr (List.mem_singleton.2 rfl)), HBAD.out⟩⟩
    have hd1 : decide (n ≤ t) = false := decide_eq_false ht
    have i0 : (0 : Int) ≤ (t : Int) := by omega
    have i1 : (t : Int) < (n : Int) := by omega
    have ct := hcl2 t (by omega)
    clear hcl2
    by_cases hy : y = f t
    · subst hy
      have HX : Hid (∀ (w0 : World) (ty : TypeId), (w0.alloc (.cells #[.int .i64 (t : Int)] ty)).cell? ⟨w0.heap.size, 0, none⟩ = some (ldF (pre ++ [((t : Int), f t)]) pre.length)) := fun w0 ty => by rw [new_cell]; unfold ldF; simp
      have HO3 : Hid (Own (W.alloc (.cells #[.int .i64 (t : Int)] 3)) W0.heap.size 3 1 (.slice u pre.length uc) pre.length (ldF (pre ++ [((t : Int), f t)]))) := (hO2.kept (fresh_alloc _ _)).congr (fun j hj => by unfold ldF; rw [List.getD_eq_getElem?_getD, List.getD_eq_getElem?_getD, List.getElem?_append_left (by omega)])
      have HONE : Hid ((ldF (pre ++ [((t : Int), f t)]) pre.length).oneCell' = true) := by show _ = _; unfold ldF; rfl
      gi_wp2_with (gi_at_builtin; refine wpListIn_own1 _ rfl _ _ 24 rfl W0.heap.size 3 (.int .i64 0) 8 Try.underlying24 infoI rfl _ pre.length (ldF (pre ++ [((t : Int), f t)])) rfl HO3.out _ 1 rfl (HX.out _ _) HONE.out (by omega) (by omega) (by simp; omega) ?_)
      intro u' c' w1 hown' hgr
      have hw1 := hgr.size
      have hne : ∀ j, j < 5 → some (w.heap.size + j) ≠ (Value.slice u pre.length uc).ownBlock := fun j hj e => by have := (HO3.out.lt _ e.symm).1; omega
      have b0 := (h3.alloc (.cells #[.int .i64 (t : Int)] 3)).kept hgr (hne 0 (by omega))
      have b1 := (h4.alloc (.cells #[.int .i64 (t : Int)] 3)).kept hgr (hne 1 (by omega))
      have b2 := (h5.alloc (.cells #[.int .i64 (t : Int)] 3)).kept hgr (hne 2 (by omega))
      have b3 := (h6.alloc (.cells #[.int .i64 (t : Int)] 3)).kept hgr (hne 3 (by omega))
      have b9 := (h1.alloc (.cells #[.int .i64 (t : Int)] 3)).kept hgr (hne 4 (by omega))
      have c9 := b9.cell
      have f9 := b9.frozen
      have c8 := (b1.other (B' := w.heap.size + 4) (by omega) (.slice u' (pre.length + 1) c')).cell
      have hkb : ∀ z, z < W0.heap.size → w1.heap[z]? = W.heap[z]? := fun z hz => (hgr.block z (by simp; omega) (fun e => by have := (HO3.out.lt _ e.symm).1; omega)).trans (Below.heap_alloc _ _ _ (by omega))
      have hf1 := (h7.alloc (by omega) (.cells #[.int .i64 (t : Int)] 3)).grown hgr (by simp; omega) (fun z hz => by have := (HO3.out.lt _ hz).1; omega)
      have HKO : Hid (KeepsFrom W0.heap.size W (w1.setCell ⟨w.heap.size + 4, 0, none⟩ (.slice u' (pre.length + 1) c'))) := (((KeepsOthers.alloc W _).trans (keeps_app hgr (fun r e => HO3.out.cells_ e))).trans (KeepsOthers.setCell _ _ _)).from _
      have HRL : Hid (RL w W0 (some ⟨bl, ol, none⟩) n cap most (pre ++ [((t : Int), f t)]) (w1.setCell ⟨w.heap.size + 4, 0, none⟩ (.slice u' (pre.length + 1) c'))) := by
        refine ⟨_, b9.set _, ?_, b0.other (by omega) _, b1.other (by omega) _, b2.other (by omega) _, b3.other (by omega) _, hf1.setCell (by show _ ≤ w.heap.size + 4; omega) _, by simp at hw1 ⊢; omega⟩
        have := ownsRow_setCell_below hown' (a := ⟨w.heap.size + 4, 0, none⟩) (by show w.heap.size + 4 < _; omega) (.slice u' (pre.length + 1) c')
        rw [show (pre ++ [((t : Int), f t)]).length = pre.length + 1 by simp]
        exact this
      have HKP : Hid (KpB Bn g W (w1.setCell ⟨w.heap.size + 4, 0, none⟩ (.slice u' (pre.length + 1) c'))) := ⟨by simp at hw1 ⊢; omega, (Below.heap_setCell _ _ _ _ (by show ¬ (_ = w.heap.size + 4); omega)).trans (hkb _ (by omega)), (Below.heap_setCell _ _ _ _ (by show ¬ (_ = w.heap.size + 4); omega)).trans (hkb _ (by omega))⟩
      by_cases hmost : (pre.length : Int) + 1 = most
      · have hd5 : ((pre.length : Int) + 1 == most) = true := by simpa using hmost
        have HMO := hidd hmost
        gi_wp2
        exact ⟨HKO.out, .inr ⟨rfl, by simp; exact HMO.out, by have := HMO.out; omega, HRL.out⟩⟩
      · have hd5 : ((pre.length : Int) + 1 == most) = false := by simpa using hmost
        have HMO : Hid (most < 1 ∨ (pre.length : Int) + 1 < most) := by show _ ∨ _; omega
        gi_wp2
        exact ⟨HKO.out, HKP.out, HRL.out, by simp; exact HMO.out⟩
    · have hd3 : (y != f t) = true := by simpa using hy
      have HBAD : Hid (¬ good f n ((t : Int), y)) := fun ⟨t', _, e⟩ => by
        simp only [Prod.mk.injEq] at e
        have : t' = t := by omega
        subst this
        exact hy e.2
      gi_wp2
      exact ⟨((KeepsOthers.setCell _ _ _).trans (KeepsOthers.setCell _ _ _)).from _, .inl ⟨rfl, _, List.mem_append.2 (.inr (List.mem_singleton.2 rfl)), HBAD.out⟩⟩
  case done =>
    rintro D xs W hD rfl ⟨⟨v, h1, h2, h3, h4, h5, h6, h7, h8⟩, h9⟩ hW
    rw [hLn] at h2 h9
    have hO2 := h2
    obtain ⟨u, uc, rfl, hrd⟩ := h2.rd
    have c4 := h1.cell
    have c2 := h5.cell
    have d2 := h5.frozen
    have c3 := h6.cell
    have d3 := h6.frozen
    have hmn : n = m := by
      rw [HM.out]
      unfold goesTo
      split <;> omega
    have HMN := hidd hmn
    clear hmn
    gi_wp2
    have B2 := (h5.set (.slice u n uc)).other (B' := w.heap.size + 3) (by omega) (.bool true)
    have B3 := (h6.other (B' := w.heap.size + 2) (by omega) (.slice u n uc)).set (.bool true)
    have O3 := ownsRow_setCell_below (ownsRow_setCell_below hO2 (a := ⟨w.heap.size + 2, 0, none⟩) (by show w.heap.size + 2 < _; omega) (.slice u n uc)) (a := ⟨w.heap.size + 3, 0, none⟩) (by show w.heap.size + 3 < _; omega) (.bool true)
    have hW2 := ((KeepsOthers.setCell W ⟨w.heap.size + 2, 0, none⟩ (.slice u n uc)).trans (KeepsOthers.setCell _ ⟨w.heap.size + 3, 0, none⟩ (.bool true))).same D _ hW rfl
    have hbl := (h7.setCell (p := ⟨w.heap.size + 2, 0, none⟩) (by show _ ≤ w.heap.size + 2; omega) (.slice u n uc)).setCell (p := ⟨w.heap.size + 3, 0, none⟩) (by show _ ≤ w.heap.size + 3; omega) (.bool true)
    generalize (W.setCell ⟨w.heap.size + 2, 0, none⟩ (.slice u n uc)).setCell ⟨w.heap.size + 3, 0, none⟩ (.bool true) = W2 at *
    refine ⟨by simp, .inl ⟨_, _, rfl, run_takeDeferred hW2, ?_⟩⟩
    have hgr := grownBy_putObj' W2 D (.deferred none)
    have hc2 := cell_kept B2.cell hgr (fun r e => by cases e; exact ⟨_, hW2, rfl⟩)
    have hc3 := cell_kept B3.cell hgr (fun r e => by cases e; exact ⟨_, hW2, rfl⟩)
    have ho9 := (own_from 0 _ _ _ _ _ _ () W2 _ (some D) O3 hgr (fun r e => by cases e; exact ⟨Nat.zero_le _, _, hW2, rfl⟩)).weaken (base' := w.heap.size) (by omega)
    rw [← HMN.out]
    refine ⟨.tuple #[.slice u n uc, .bool true], by simp [results, Try.f12, go_sem, hc2, hc3], u, uc, rfl, ho9.congr (fun j hj => ?_), hbl.trans (belowK_b (w := w) (Nat.le_refl _) W2 D _ _ (by omega) hW2 rfl rfl)⟩
    unfold ldF
    rw [List.getD_eq_getElem?_getD, (ordL_get (by omega)).1]
    rfl
  case stop =>
    rintro D cd pre W hD hp (⟨rfl, hbad⟩ | ⟨rfl, hm1, hm2, v, h1, h2, h3, h4, h5, h6, h7, h8⟩) hW
    · obtain ⟨x, hx, hb⟩ := hbad
      obtain ⟨r, hr⟩ := hp
      exact absurd (ordL_mem.1 (by rw [← hr]; exact List.mem_append.2 (.inl hx))) hb
    · have hO2 := h2
      obtain ⟨u, uc, rfl, hrd⟩ := h2.rd
      have c4 := h1.cell
      have c2 := h5.cell
      have d2 := h5.frozen
      have c3 := h6.cell
      have d3 := h6.frozen
      have hpl : pre.length ≤ n := by have := hp.length_le; rw [hLn] at this; exact this
      have hmn : pre.length = m := by
        rw [HM.out]
        unfold goesTo
        rw [if_pos hm2]
        omega
      have HMN := hidd hmn
      clear hmn
      gi_wp2
      have B2 := (h5.set (.slice u pre.length uc)).other (B' := w.heap.size + 3) (by omega) (.bool true)
      have B3 := (h6.other (B' := w.heap.size + 2) (by omega) (.slice u pre.length uc)).set (.bool true)
      have O3 := ownsRow_setCell_below (ownsRow_setCell_below hO2 (a := ⟨w.heap.size + 2, 0, none⟩) (by show w.heap.size + 2 < _; omega) (.slice u pre.length uc)) (a := ⟨w.heap.size + 3, 0, none⟩) (by show w.heap.size + 3 < _; omega) (.bool true)
      have hW2 := ((KeepsOthers.setCell W ⟨w.heap.size + 2, 0, none⟩ (.slice u pre.length uc)).trans (KeepsOthers.setCell _ ⟨w.heap.size + 3, 0, none⟩ (.bool true))).same D _ hW rfl
      have hbl := (h7.setCell (p := ⟨w.heap.size + 2, 0, none⟩) (by show _ ≤ w.heap.size + 2; omega) (.slice u pre.length uc)).setCell (p := ⟨w.heap.size + 3, 0, none⟩) (by show _ ≤ w.heap.size + 3; omega) (.bool true)
      generalize (W.setCell ⟨w.heap.size + 2, 0, none⟩ (.slice u pre.length uc)).setCell ⟨w.heap.size + 3, 0, none⟩ (.bool true) = W2 at *
      refine ⟨by simp, .inl ⟨_, _, rfl, run_takeDeferred hW2, ?_⟩⟩
      have hgr := grownBy_putObj' W2 D (.deferred none)
      have hc2 := cell_kept B2.cell hgr (fun r e => by cases e; exact ⟨_, hW2, rfl⟩)
      have hc3 := cell_kept B3.cell hgr (fun r e => by cases e; exact ⟨_, hW2, rfl⟩)
      have ho9 := (own_from 0 _ _ _ _ _ _ () W2 _ (some D) O3 hgr (fun r e => by cases e; exact ⟨Nat.zero_le _, _, hW2, rfl⟩)).weaken (base' := w.heap.size) (by omega)
      rw [← HMN.out]
      refine ⟨.tuple #[.slice u pre.length uc, .bool true], by simp [results, Try.f12, go_sem, hc2, hc3], u, uc, rfl, ho9.congr (fun j hj => ?_), hbl.trans (belowK_b (w := w) (Nat.le_refl _) W2 D _ _ (by omega) hW2 rfl rfl)⟩
      unfold ldF
      obtain ⟨r, hr⟩ := hp
      have e1 := (ordL_get (f := f) (n := n) (k := j) (by omega)).1
      rw [← hr, List.getElem?_append_left (by omega)] at e1
      rw [List.getD_eq_getElem?_getD, e1]
      rfl
end Go.Proofs.Ytlnbbnojkpdccaa
