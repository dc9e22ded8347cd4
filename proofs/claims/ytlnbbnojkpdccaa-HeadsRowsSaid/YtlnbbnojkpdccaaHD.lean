import Derived.Test.YtlnbbnojkpdccaaHR
namespace Go.Proofs.Ytlnbbnojkpdccaa
open Go.RowKit Go.Shelf
open Go.Sort hiding Below
attribute [local go_sem] Oper.semAt_some
/-! Top. -/
theorem wpListIn_own1 {F : Fence} {fu : Nat} {P : Program} (w : World) {ops : Array Oper} {rest : List Oper} {o : Oper} {a : Act} {Q : Exit → Act → World → Prop}
    (hg : o.guard = none) (s x : Operand) (t : TypeId) (hop : o.op = Op.call { callee := Callee.builtin Builtin.append, args := #[s, x], argTypes := #[t, t] })
    (base : Nat) (e : TypeId) (z : Value) (bytes : Nat) (h1 : P.underlying t = some (.slice e)) (hinfo : (P.info? e).map (fun i => (i.zero, i.size, i.bytes)) = some (some z, 1, bytes)) (h6 : z.cells.size = 1)
    (v : Value) (n : Nat) (cs : Nat → Value) (hs : a.eval s = v) (hown : Own w base e 1 v n cs)
    (g c : Nat) (hx : a.eval x = .slice (some ⟨g, 0, none⟩) 1 c) (hc : w.cell? ⟨g, 0, none⟩ = some (cs n)) (h1c : (cs n).oneCell' = true)
    (b1 : n < 9223372036854775807) (b2 : (n + 1) * bytes ≤ 140737488355328) (hb : base ≤ w.heap.size)
    (hK : ∀ u c' w', Own w' base e 1 (.slice u (n + 1) c') (n + 1) cs → w.grownBy w' v.ownBlock → wpListIn F fu P ops Q rest (a.put o.dst (.slice u (n + 1) c')) w') : wpListIn F fu P ops Q (o :: rest) a w := by
  obtain ⟨i, hi, hz0, hz1, hz2⟩ := info_parts hinfo
  refine wpListIn_append_own w hg s x t hop base e i z 1 bytes h1 hi hz0 hz1 hz2 h6 (by decide) v n _ hs hown ⟨g, 0, none⟩ 1 c [cs n] hx rfl ?_ (by simpa using h1c) (by unfold maxLen; omega) b2 hb ?_
  · intro j u hj
    match j, hj with
    | 0, hj => simp at hj; subst hj; rw [add_lit0]; exact hc
  · intro v' w' h2 h3 _
    have ho : Own w' base e 1 v' (n + 1) cs := by
      unfold Own
      have e1 := news_len n 1 1 cs
      simp at e1
      simp only [Nat.mul_one] at h2 ⊢
      rw [← e1]
      simpa using h2
    obtain ⟨u, c', rfl, _⟩ := ho.rd
    exact hK u c' w' ho h3
theorem Boxed.trans' {W W' : World} {B : Nat} {t : TypeId} {v : Value} (h : Boxed W B t v) (f : Below W.heap.size W W') : Boxed W' B t v := (f.block B h.lt).trans h
theorem own_from (B base : Nat) (e : TypeId) (sz : Nat) (v : Value) (n : Nat) (cs : Nat → Value) : OwnFrom B (fun (_ : Unit) W => Own W base e sz v n cs) := fun _ X Y row hs hg hr => World.ownsRow.kept hs hg (by
  cases hv : v.ownBlock with
  | none => exact .inl rfl
  | some z =>
    refine .inr (fun e' => ?_)
    obtain ⟨_, o, ho, hc⟩ := hr z e'.symm
    rcases hs.2 with ⟨rfl, _⟩ | ⟨g, cap, cur, rfl, _, hgg, _⟩
    · simp [Value.ownBlock] at hv
    · simp only [Value.ownBlock, Option.some.injEq] at hv
      subst hv
      rw [hgg] at ho
      cases ho
      cases hc)
theorem Own.cells_ {W : World} {base : Nat} {e : TypeId} {sz : Nat} {v : Value} {n : Nat} {cs : Nat → Value} (h : Own W base e sz v n cs) {r : Nat} (hv : v.ownBlock = some r) : ∃ o, W.heap[r]? = some o ∧ o.isCells = true := by
  rcases h.2 with ⟨rfl, _⟩ | ⟨g, cap, cur, rfl, _, hgg, _⟩
  · simp [Value.ownBlock] at hv
  · simp only [Value.ownBlock, Option.some.injEq] at hv
    subst hv
    exact ⟨_, hgg, rfl⟩
theorem keeps_app {W W' : World} {row : Option Nat} (hg : W.grownBy W' row) (hr : ∀ r, row = some r → ∃ o, W.heap[r]? = some o ∧ o.isCells = true) : KeepsOthers W W' := ⟨hg.size, fun k o hk ho => by
  by_cases e : some k = row
  · obtain ⟨o', h1, h2⟩ := hr k e.symm
    rw [hk] at h1
    cases h1
    rw [ho] at h2
    cases h2
  · rw [hg.block k (Array.getElem?_eq_some_iff.1 hk).1 e]
    exact hk⟩
/-- the tokens so far -/
def ldF (pre : List (Int × Int)) : Nat → Value := fun j => .int .i64 (pre.getD j (0, 0)).1
def TI (w W0 : World) (k : Int) (pre : List (Int × Int)) (m : Nat) (W : World) : Prop :=
  ∃ v, Boxed W (w.heap.size + 1) 24 v ∧ Own W W0.heap.size 3 1 v m (ldF pre) ∧ Boxed W w.heap.size 3 (.int .i64 k) ∧ Below w.heap.size w W ∧ W0.heap.size ≤ W.heap.size
theorem TI.from {w W0 : World} (h : w.heap.size ≤ W0.heap.size) (k : Int) (pre : List (Int × Int)) (m : Nat) : OwnFrom W0.heap.size (fun (_ : Unit) W => TI w W0 k pre m W) := by
  rintro u X Y row ⟨v, h1, h2, h3, h4, h5⟩ hg hr
  exact ⟨v, boxed_own _ _ (fun (_ : Unit) => v) () X Y row h1 hg (fun r e => (hr r e).2), own_from _ _ _ _ _ _ _ () X Y row h2 hg hr, boxed_own _ _ (fun (_ : Unit) => Value.int .i64 k) () X Y row h3 hg (fun r e => (hr r e).2), ownFrom_below (β := Unit) (Nat.le_refl _) h () X Y row h4 hg hr, Nat.le_trans h5 hg.size⟩
set_option maxRecDepth 100000 in
set_option maxHeartbeats 4000000 in
theorem top_any {w : World} {ao : Option Addr} {n cap : Nat} {f : Nat → Int} (h : RdA w ao 1 n cap (fun i => .int .i64 (f i))) (hn : n ≤ 17592186043904) (k : Int) :
    Calls Try.prog 10 #[.slice ao n cap, .int .i64 k] w fun e w' => ∃ u c, e = .returned (.slice u (min k.toNat n) c) ∧ Own w' w.heap.size 3 1 (.slice u (min k.toNat n) c) (min k.toNat n) (fun j => .int .i64 (sg f n j)) ∧ Below w.heap.size w w' := by
  refine (callsIn_wide (n := 5)).1 ?_
  refine callsIn_of_wp_marks Try.func10 rfl trivial ?_ rfl
  simp only [Try.ntmps10, List.size_toArray, List.length_cons, List.length_nil, Nat.reduceAdd, Nat.reduceSub, Array.replicate_succ, Array.replicate_zero, List.push_toArray, List.append_toArray, List.nil_append, List.cons_append]
  have hB0 : Below w.heap.size w ((w.alloc (.cells #[.int .i64 k] 3)).alloc (.cells #[.slice none 0 0] 24)) := ((Below.refl _ w).alloc (Nat.le_refl _) _).alloc (by simp) _
  have bK := (Boxed.new w 3 (.int .i64 k)).alloc (.cells #[.slice none 0 0] 24)
  have bT := Boxed.new (w.alloc (.cells #[.int .i64 k] 3)) 24 (.slice none 0 0)
  simp only [World.size_alloc] at bT
  have HRK := hidd (ranked_any (h.fresh hB0) hn)
  clear h
  gi_wp2_with (refine ⟨trivial, ?_⟩; gi_at_call 14; refine (callsIn_wide.2 HRK.out).mono ?_; rintro e W0 ⟨Bn, g, c, rfl, hB1, hB2, hg1, hg2, hcl, hO, f0⟩)
  simp only [World.size_alloc] at hB1 hg1
  have f1 := hB0.trans (f0.mono (by simp; omega))
  have hs0 := f0.size
  simp only [World.size_alloc] at hs0
  have bK1 := Boxed.trans' bK f0
  have bT1 := Boxed.trans' bT f0
  have hLn : (ordL f n).length = n := ordL_len f n
  have HO := hidd hO
  have H0 : Hid (TI w W0 k [] 0 W0) := ⟨_, bT1, own_nil _ _ _ _ _, bK1, f1, Nat.le_refl _⟩
  clear bK bT bK1 bT1 hO HRK hB0
  refine wpIn_rangeFunc_ownH (α := Int × Int) rfl (by decide) (gf := 25) (lb := #[.pointer (some ⟨Bn, 0, none⟩)]) rfl trivial (enters_of Try.func25 (by kernel_rfl) rfl)
    (iter_stops Fence.wide 4 trivial rfl (by decide) Bn g c (ordL f n) (by omega) W0 hB2 hg2 (by rw [hLn]; exact hcl) HO.out) KpB.trans (fun V l o o' hl hV hc _ => ⟨by simp, World.putObj_heap_other (by omega), World.putObj_heap_other (by omega)⟩) (Below.refl _ _) (fun _ => rfl)
    (fun pre W => TI w W0 k pre pre.length W ∧ ((pre.length : Int) ≤ k ∨ pre.length = 0))
    (fun cd pre W => cd = .exit 0 ∧ ∃ m, pre.length = m + 1 ∧ k ≤ (m : Int) ∧ ((m : Int) ≤ k ∨ m = 0) ∧ TI w W0 k pre m W)
    ?hI ?hIx ?h0
    (fun z a' _ => a' = { tmps := #[.slice ao n cap, .int .i64 k, undef, .pointer (some ⟨w.heap.size, 0, none⟩), .slice none 0 0, .pointer (some ⟨w.heap.size + 1, 0, none⟩), .int .i64 z.1, .slice ao n cap, .func (.func 25) #[] #[.pointer (some ⟨Bn, 0, none⟩)], .int .i64 z.1, .int .i64 z.2, undef, undef, undef, undef, undef, undef, undef, undef, undef], defers := [] })
    ?hAx ?assign ?body ?done ?stop
  case hI =>
    rintro pre X Y row ⟨h1, h2⟩ hg hr
    exact ⟨TI.from (by omega) k pre _ () X Y row h1 hg hr, h2⟩
  case hIx =>
    rintro cd pre X Y row ⟨h1, m, h2, h3, h4, h5⟩ hg hr
    exact ⟨h1, m, h2, h3, h4, TI.from (by omega) k pre _ () X Y row h5 hg hr⟩
  case h0 => exact ⟨H0.out, .inr rfl⟩
  case hAx =>
    rintro z a' u X Y row e1 hg hr
    exact e1
  case assign =>
    rintro l pre ⟨x, y⟩ W K hi hK
    have HI := hidd hi
    clear hi
    unfold encX
    gi_wp2
    exact hK _ _ (KeepsFrom.refl _ _) (KpB.refl _ _ _) HI.out rfl
  case body =>
    rintro l pre ⟨x, y⟩ a' W hl hlr ⟨⟨v, h1, h2, h3, h4, h5⟩, h6⟩ rfl hlt
    have hO2 := h2
    obtain ⟨u, uc, rfl, hrd⟩ := h2.rd
    have c1 := h1.cell
    have c3 := h3.cell
    rw [hLn] at hlt
    by_cases hge : k ≤ (pre.length : Int)
    · have hd : decide (k ≤ (pre.length : Int)) = true := decide_eq_true hge
      gi_wp2
      exact ⟨KeepsFrom.refl _ _, rfl, pre.length, by simp, hge, h6, _, h1, hO2.congr (fun j hj => by unfold ldF; rw [List.getD_eq_getElem?_getD, List.getD_eq_getElem?_getD, List.getElem?_append_left (by omega)]), h3, h4, h5⟩
    · have hd : decide (k ≤ (pre.length : Int)) = false := decide_eq_false hge
      have HX : Hid (∀ (w0 : World) (t : TypeId), (w0.alloc (.cells #[.int .i64 x] t)).cell? ⟨w0.heap.size, 0, none⟩ = some (ldF (pre ++ [(x, y)]) pre.length)) := fun w0 t => by rw [new_cell]; unfold ldF; simp
      have HO3 : Hid (Own (W.alloc (.cells #[.int .i64 x] 3)) W0.heap.size 3 1 (.slice u pre.length uc) pre.length (ldF (pre ++ [(x, y)]))) := (hO2.kept (fresh_alloc _ _)).congr (fun j hj => by unfold ldF; rw [List.getD_eq_getElem?_getD, List.getD_eq_getElem?_getD, List.getElem?_append_left (by omega)])
      have HONE : Hid ((ldF (pre ++ [(x, y)]) pre.length).oneCell' = true) := by show _ = _; unfold ldF; rfl
      gi_wp2_with (gi_at_builtin; refine wpListIn_own1 _ rfl _ _ 24 rfl W0.heap.size 3 (.int .i64 0) 8 Try.underlying24 infoIh rfl _ pre.length (ldF (pre ++ [(x, y)])) rfl HO3.out _ 1 rfl (HX.out _ _) HONE.out (by omega) (by omega) (by simp; omega) ?_)
      intro u' c' w1 hown' hgr
      have hne : some (w.heap.size + 1) ≠ (Value.slice u pre.length uc).ownBlock := fun e => by have := (HO3.out.lt _ e.symm).1; omega
      have hne0 : some w.heap.size ≠ (Value.slice u pre.length uc).ownBlock := fun e => by have := (HO3.out.lt _ e.symm).1; omega
      have b9 := (h1.alloc (.cells #[.int .i64 x] 3)).kept hgr hne
      have b8 := (h3.alloc (.cells #[.int .i64 x] 3)).kept hgr hne0
      have c9 := b9.cell
      have f9 := b9.frozen
      have hw1 := hgr.size
      have hkb : ∀ z, z < W0.heap.size → w1.heap[z]? = W.heap[z]? := fun z hz => (hgr.block z (by simp; omega) (fun e => by have := (HO3.out.lt _ e.symm).1; omega)).trans (Below.heap_alloc _ _ _ (by omega))
      have hf1 := (h4.alloc (by omega) (.cells #[.int .i64 x] 3)).grown hgr (by simp; omega) (fun z hz => by have := (HO3.out.lt _ hz).1; omega)
      gi_wp2
      refine ⟨(((KeepsOthers.alloc W _).trans (keeps_app hgr (fun r e => HO3.out.cells_ e))).trans (KeepsOthers.setCell _ _ _)).from _, ⟨by simp at hw1 ⊢; omega, (Below.heap_setCell _ _ _ _ (by show ¬ (_ = w.heap.size + 1); omega)).trans (hkb _ (by omega)), (Below.heap_setCell _ _ _ _ (by show ¬ (_ = w.heap.size + 1); omega)).trans (hkb _ (by omega))⟩, ⟨_, b9.set _, ?_, b8.other (by omega) _, hf1.setCell (by show _ ≤ w.heap.size + 1; omega) _, by simp at hw1 ⊢; omega⟩, .inl (by simp; omega)⟩
      have := ownsRow_setCell_below hown' (a := ⟨w.heap.size + 1, 0, none⟩) (by show w.heap.size + 1 < _; omega) (.slice u' (pre.length + 1) c')
      rw [show (pre ++ [(x, y)]).length = pre.length + 1 by simp]
      exact this
  case done =>
    rintro D xs W hD rfl ⟨⟨v, h1, h2, h3, h4, h5⟩, h6⟩ hW
    have hO2 := h2
    obtain ⟨u, uc, rfl, hrd⟩ := h2.rd
    have c1 := h1.cell
    have hmin : min k.toNat n = n := by rw [hLn] at h6; omega
    gi_wp2
    refine ⟨by simp, .inl ⟨_, _, rfl, run_takeDeferred hW, ?_⟩⟩
    rw [hmin]
    have hgr := grownBy_putObj' W D (.deferred none)
    have ho9 := (own_from 0 _ _ _ _ _ _ () W _ (some D) hO2 hgr (fun r e => by cases e; exact ⟨Nat.zero_le _, _, hW, rfl⟩)).weaken (base' := w.heap.size) (by omega)
    rw [hLn] at ho9
    refine ⟨.slice u n uc, by simp [results, Try.f10, go_sem], u, uc, rfl, ho9.congr (fun j hj => ?_), h4.trans (belowK_b (w := w) (Nat.le_refl _) W D _ _ (by omega) hW rfl rfl)⟩
    unfold ldF
    rw [List.getD_eq_getElem?_getD, (ordL_get (by omega)).1]
    rfl
  case stop =>
    rintro D cd pre W hD hp ⟨rfl, m, hm, hk1, hk2, v, h1, h2, h3, h4, h5⟩ hW
    have hO2 := h2
    obtain ⟨u, uc, rfl, hrd⟩ := h2.rd
    have c1 := h1.cell
    have hpl : pre.length ≤ n := by have := hp.length_le; rw [hLn] at this; exact this
    have hmin : min k.toNat n = m := by omega
    gi_wp2
    refine ⟨by simp, .inl ⟨_, _, rfl, run_takeDeferred hW, ?_⟩⟩
    rw [hmin]
    have hgr := grownBy_putObj' W D (.deferred none)
    have ho9 := (own_from 0 _ _ _ _ _ _ () W _ (some D) hO2 hgr (fun r e => by cases e; exact ⟨Nat.zero_le _, _, hW, rfl⟩)).weaken (base' := w.heap.size) (by omega)
    refine ⟨.slice u m uc, by simp [results, Try.f10, go_sem], u, uc, rfl, ho9.congr (fun j hj => ?_), h4.trans (belowK_b (w := w) (Nat.le_refl _) W D _ _ (by omega) hW rfl rfl)⟩
    unfold ldF
    obtain ⟨r, hr⟩ := hp
    have e1 := (ordL_get (f := f) (n := n) (k := j) (by omega)).1
    rw [← hr, List.getElem?_append_left (by omega)] at e1
    rw [List.getD_eq_getElem?_getD, e1]
    rfl
end Go.Proofs.Ytlnbbnojkpdccaa
