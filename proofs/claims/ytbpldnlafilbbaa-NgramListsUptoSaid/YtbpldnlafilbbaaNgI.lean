import Derived.Test.YtbpldnlafilbbaaNgH
namespace Go.Proofs.Ytbpldnlafilbbaa
open Go.RowKit Go.Shelf
attribute [local go_sem] Oper.semAt_some
/-! places: what Places gives, as a list. -/
theorem wpListIn_own1 {F : Fence} {fu : Nat} {P : Program} (w : World) {ops : Array Oper} {rest : List Oper} {o : Oper} {a : Act} {Q : Exit → Act → World → Prop}
    (hg : o.guard = none) (s x : Operand) (t : TypeId) (hop : o.op = Op.call { callee := Callee.builtin Builtin.append, args := #[s, x], argTypes := #[t, t] })
    (base : Nat) (e : TypeId) (z : Value) (bytes : Nat) (h1 : P.underlying t = some (.slice e)) (hinfo : (P.info? e).map (fun i => (i.zero, i.size, i.bytes)) = some (some z, 1, bytes)) (h6 : z.cells.size = 1)
    (v : Value) (n : Nat) (cs : Nat → Value) (hs : a.eval s = v) (hown : Own w base e 1 v n cs)
    (g c : Nat) (hx : a.eval x = .slice (some ⟨g, 0, none⟩) 1 c) (hc : w.cell? ⟨g, 0, none⟩ = some (cs n)) (h1c : (cs n).oneCell' = true)
    (b1 : n < 9223372036854775807) (b2 : (n + 1) * bytes ≤ 140737488355328) (hb : base ≤ w.heap.size)
    (hK : ∀ u c' w', Own w' base e 1 (.slice u (n + 1) c') (n + 1) cs → w.grownBy w' v.ownBlock → wpListIn F fu P ops Q rest (a.put o.dst (.slice u (n + 1) c')) w') : wpListIn F fu P ops Q (o :: rest) a w := by
  obtain ⟨i, hi, hz0, hz1, hz2⟩ := info_parts hinfo
  refine wpListIn_append_own w hg s x t hop base e i z 1 bytes h1 hi hz0 hz1 hz2 h6 (by decide) v n _ hs hown ⟨g, 0, none⟩ 1 c [cs n] hx rfl ?_ (by simpa using h1c) (by unfold maxLen; omega) b2 hb ?_
  · intro j u hj
    match j, hj with
    | 0, hj => simp at hj; subst hj; rw [add_lit0]; exact hc
  · intro v' w' h2 h3 _
    have ho : Own w' base e 1 v' (n + 1) cs := by
      unfold Own
      have e1 := news_len n 1 1 cs
      simp at e1
      simp only [Nat.mul_one] at h2 ⊢
      rw [← e1]
      simpa using h2
    obtain ⟨u, c', rfl, _⟩ := ho.rd
    exact hK u c' w' ho h3
theorem Boxed.trans' {W W' : World} {B : Nat} {t : TypeId} {v : Value} (h : Boxed W B t v) (f : Below W.heap.size W W') : Boxed W' B t v := (f.block B h.lt).trans h
theorem own_from (B base : Nat) (e : TypeId) (sz : Nat) (v : Value) (n : Nat) (cs : Nat → Value) : OwnFrom B (fun (_ : Unit) W => Own W base e sz v n cs) := fun _ X Y row hs hg hr => World.ownsRow.kept hs hg (by
  cases hv : v.ownBlock with
  | none => exact .inl rfl
  | some z =>
    refine .inr (fun e' => ?_)
    obtain ⟨_, o, ho, hc⟩ := hr z e'.symm
    rcases hs.2 with ⟨rfl, _⟩ | ⟨g, cap, cur, rfl, _, hgg, _⟩
    · simp [Value.ownBlock] at hv
    · simp only [Value.ownBlock, Option.some.injEq] at hv
      subst hv
      rw [hgg] at ho
      cases ho
      cases hc)
theorem Own.cells_ {W : World} {base : Nat} {e : TypeId} {sz : Nat} {v : Value} {n : Nat} {cs : Nat → Value} (h : Own W base e sz v n cs) {r : Nat} (hv : v.ownBlock = some r) : ∃ o, W.heap[r]? = some o ∧ o.isCells = true := by
  rcases h.2 with ⟨rfl, _⟩ | ⟨g, cap, cur, rfl, _, hgg, _⟩
  · simp [Value.ownBlock] at hv
  · simp only [Value.ownBlock, Option.some.injEq] at hv
    subst hv
    exact ⟨_, hgg, rfl⟩
theorem keeps_app {W W' : World} {row : Option Nat} (hg : W.grownBy W' row) (hr : ∀ r, row = some r → ∃ o, W.heap[r]? = some o ∧ o.isCells = true) : KeepsOthers W W' := ⟨hg.size, fun k o hk ho => by
  by_cases e : some k = row
  · obtain ⟨o', h1, h2⟩ := hr k e.symm
    rw [hk] at h1
    cases h1
    rw [ho] at h2
    cases h2
  · rw [hg.block k (Array.getElem?_eq_some_iff.1 hk).1 e]
    exact hk⟩
/-- the places so far -/
def qF (L : List Nat) : Nat → Value := fun j => .int .i64 ((L.getD j 0 : Nat) : Int)
theorem mkf (fn : Fn) (first cap : Array Value) (w : World) : (Instr.makeFunc fn first cap).run Try.prog w = .ok (.func fn first cap) w := by simp [Instr.makeFunc]
set_option maxRecDepth 20000 in
set_option maxHeartbeats 800000 in
theorem placesF_any (w : World) (x : Option Addr) : Calls Try.prog 27 #[.pointer x] w fun e w' => e = .returned (.func (.func 31) #[] #[.pointer (some ⟨w.heap.size, 0, none⟩)]) ∧ w'.cell? ⟨w.heap.size, 0, none⟩ = some (.pointer x) ∧ w'.heap.size = w.heap.size + 1 ∧ Below w.heap.size w w' := by
  have hmf := mkf
  go_enter Try.func27, Try.ntmps27
  go_wp2
  go_ret
  exact ⟨rfl, by simp, by simp, fresh_alloc w _⟩
def pkQ (k : Int) (L : List Nat) : List Nat := if 0 < k ∧ k ≤ L.length then L.take k.toNat else L
def TI (w W0 : World) (k : Int) (pre : List Nat) (W : World) : Prop :=
  ∃ v, Boxed W (w.heap.size + 1) 22 v ∧ Own W W0.heap.size 3 1 v pre.length (qF pre) ∧ Boxed W w.heap.size 3 (.int .i64 k) ∧ Below w.heap.size w W ∧ W0.heap.size ≤ W.heap.size
theorem TI.from {w W0 : World} (h : w.heap.size ≤ W0.heap.size) (k : Int) (pre : List Nat) : OwnFrom W0.heap.size (fun (_ : Unit) W => TI w W0 k pre W) := by
  rintro u X Y row ⟨v, h1, h2, h3, h4, h5⟩ hg hr
  exact ⟨v, boxed_own _ _ (fun (_ : Unit) => v) () X Y row h1 hg (fun r e => (hr r e).2), own_from _ _ _ _ _ _ _ () X Y row h2 hg hr, boxed_own _ _ (fun (_ : Unit) => Value.int .i64 k) () X Y row h3 hg (fun r e => (hr r e).2), ownFrom_below (β := Unit) (Nat.le_refl _) h () X Y row h4 hg hr, Nat.le_trans h5 hg.size⟩
theorem pkQ_all {k : Int} {L : List Nat} (h : k ≤ 0 ∨ (L.length : Int) < k) : pkQ k L = L := if_neg (by omega)
theorem pkQ_cut {k : Int} {L pre : List Nat} (h0 : 0 < k) (h1 : (pre.length : Int) = k) (hp : pre <+: L) : pkQ k L = pre := by
  obtain ⟨r, rfl⟩ := hp
  unfold pkQ
  rw [if_pos ⟨h0, by rw [List.length_append]; omega⟩, show k.toNat = pre.length by omega]
  simp
theorem fn_nil (f : Fn) (a b : Array Value) (w : World) : (binOp .eql 53 (.func f a b) .nilFunc).run Try.prog w = .ok (.bool false) w := rfl
set_option maxRecDepth 100000 in
set_option maxHeartbeats 4000000 in
theorem places_any {w : World} {X : Nat} {S : Nat → Prop} {most n : Nat} {tx : Nat → Int} {A : Nat → Nat} (h : Idx w X S most n tx A) (hn : n * 8 ≤ 140737488351232) (k : Int) :
    Calls Try.prog 12 #[.pointer (some ⟨X, 0, none⟩), .int .i64 k] w fun e w' => ∃ u c, e = .returned (.slice u (pkQ k (plL tx most n)).length c) ∧ Own w' w.heap.size 3 1 (.slice u (pkQ k (plL tx most n)).length c) (pkQ k (plL tx most n)).length (qF (pkQ k (plL tx most n))) ∧ Below w.heap.size w w' := by
  refine (callsIn_wide (n := 5)).1 ?_
  refine callsIn_of_wp_marks Try.func12 rfl trivial ?_ rfl
  simp only [Try.ntmps12, List.size_toArray, List.length_cons, List.length_nil, Nat.reduceAdd, Nat.reduceSub, Array.replicate_succ, Array.replicate_zero, List.push_toArray, List.append_toArray, List.nil_append, List.cons_append]
  have hB0 : Below w.heap.size w ((w.alloc (.cells #[.int .i64 k] 3)).alloc (.cells #[.slice none 0 0] 22)) := ((Below.refl _ w).alloc (Nat.le_refl _) _).alloc (by simp) _
  have bK := (Boxed.new w 3 (.int .i64 k)).alloc (.cells #[.slice none 0 0] 22)
  have bT := Boxed.new (w.alloc (.cells #[.int .i64 k] 3)) 22 (.slice none 0 0)
  simp only [World.size_alloc] at bT
  have HRK := hidd (placesF_any ((w.alloc (.cells #[.int .i64 k] 3)).alloc (.cells #[.slice none 0 0] 22)) (some ⟨X, 0, none⟩))
  obtain ⟨Bn, hBn⟩ : ∃ Bn, Bn = ((w.alloc (.cells #[.int .i64 k] 3)).alloc (.cells #[.slice none 0 0] 22)).heap.size := ⟨_, rfl⟩
  rw [← hBn] at HRK
  simp only [World.size_alloc] at hBn
  have HBn := hidd hBn
  have hB1 : w.heap.size + 1 < Bn := by omega
  clear hBn
  have HI := hidd (h.fresh hB0)
  obtain ⟨M, Lb, tv, pv, hix⟩ := h.ex
  have HDL : Hid (∀ b, plD A n b → b < w.heap.size) := fun b ⟨q, h1, h2, e⟩ => by rw [e]; exact (hix.pls q h1 h2).lt
  have hfn := fn_nil
  obtain ⟨L, hLL⟩ : ∃ L, L = plL tx most n := ⟨_, rfl⟩
  have hLn := plL_len tx most n
  rw [← hLL] at hLn ⊢
  clear h hix
  gi_wp2_with (refine ⟨trivial, ?_⟩; gi_at_call 27; refine (callsIn_wide.2 HRK.out).mono ?_; rintro e W0 ⟨rfl, hcl, hsz, f0⟩)
  have f0' : Below ((w.alloc (.cells #[.int .i64 k] 3)).alloc (.cells #[.slice none 0 0] 22)).heap.size ((w.alloc (.cells #[.int .i64 k] 3)).alloc (.cells #[.slice none 0 0] 22)) W0 := f0.mono (by have := HBn.out; simp; omega)
  have f1 := hB0.trans (f0.mono (by have := HBn.out; omega))
  have hB2 : Bn < W0.heap.size := by omega
  clear hsz
  have bK1 := Boxed.trans' bK f0'
  have bT1 := Boxed.trans' bT f0'
  have HI0 := hidd (HI.out.fresh f0')
  have H0 : Hid (TI w W0 k [] W0) := ⟨_, bT1, own_nil _ _ _ _ _, bK1, f1, Nat.le_refl _⟩
  clear bK bT bK1 bT1 HRK hB0 f0 f0' HI
  refine wpIn_rangeFunc_ownH (α := Nat) rfl (by decide) (gf := 31) (lb := #[.pointer (some ⟨Bn, 0, none⟩)]) rfl trivial (enters_of Try.func31 (by kernel_rfl) rfl)
    (iter_stops Bn X S most n tx A L hLL W0 (by omega) hcl HI0.out) KpD.trans (fun V l o o' hl hV hc _ => ⟨by simp, fun b hb => World.putObj_heap_other (by have := HDL.out b hb; omega)⟩) (Below.refl _ _) (fun _ => rfl)
    (fun pre W => TI w W0 k pre W ∧ (k ≤ 0 ∨ (pre.length : Int) < k))
    (fun cd pre W => cd = .exit 0 ∧ 0 < k ∧ (pre.length : Int) = k ∧ TI w W0 k pre W)
    ?hI ?hIx ?h0
    (fun z a' _ => a' = { tmps := #[.pointer (some ⟨X, 0, none⟩), .int .i64 k, undef, .pointer (some ⟨w.heap.size, 0, none⟩), .slice none 0 0, .pointer (some ⟨w.heap.size + 1, 0, none⟩), .func (.func 31) #[] #[.pointer (some ⟨Bn, 0, none⟩)], .int .i64 (z : Int), .pointer (some ⟨X, 0, none⟩), .func (.func 31) #[] #[.pointer (some ⟨Bn, 0, none⟩)], .func (.func 31) #[] #[.pointer (some ⟨Bn, 0, none⟩)], .bool false, undef, .func (.func 31) #[] #[.pointer (some ⟨Bn, 0, none⟩)], .int .i64 (z : Int), undef, undef, undef, undef, undef, undef, undef, undef, undef], defers := [] })
    ?hAx ?assign ?body ?done ?stop
  case hI =>
    rintro pre X Y row ⟨h1, h2⟩ hg hr
    exact ⟨TI.from (by omega) k pre () X Y row h1 hg hr, h2⟩
  case hIx =>
    rintro cd pre X Y row ⟨h1, h2, h3, h5⟩ hg hr
    exact ⟨h1, h2, h3, TI.from (by omega) k pre () X Y row h5 hg hr⟩
  case h0 => exact ⟨H0.out, by simp; omega⟩
  case hAx =>
    rintro z a' u X Y row e1 hg hr
    exact e1
  case assign =>
    rintro l pre x W K hi hK
    have HI := hidd hi
    clear hi
    unfold encQ
    gi_wp2
    exact hK _ _ (KeepsFrom.refl _ _) (KpD.refl _ _) HI.out rfl
  case body =>
    rintro l pre x a' W hl hlr ⟨⟨v, h1, h2, h3, h4, h5⟩, h6⟩ rfl hlt
    have hO2 := h2
    obtain ⟨u, uc, rfl, hrd⟩ := h2.rd
    have c1 := h1.cell
    have HX : Hid (∀ (w0 : World) (t : TypeId), (w0.alloc (.cells #[.int .i64 (x : Int)] t)).cell? ⟨w0.heap.size, 0, none⟩ = some (qF (pre ++ [x]) pre.length)) := fun w0 t => by rw [new_cell]; unfold qF; simp
    have HO3 : Hid (Own (W.alloc (.cells #[.int .i64 (x : Int)] 3)) W0.heap.size 3 1 (.slice u pre.length uc) pre.length (qF (pre ++ [x]))) := (hO2.kept (fresh_alloc _ _)).congr (fun j hj => by unfold qF; rw [List.getD_eq_getElem?_getD, List.getD_eq_getElem?_getD, List.getElem?_append_left (by omega)])
    have HONE : Hid ((qF (pre ++ [x]) pre.length).oneCell' = true) := by show _ = _; unfold qF; rfl
    gi_wp2_with (gi_at_builtin; refine wpListIn_own1 _ rfl _ _ 22 rfl W0.heap.size 3 (.int .i64 0) 8 Try.underlying22 infoI rfl _ pre.length (qF (pre ++ [x])) rfl HO3.out _ 1 rfl (HX.out _ _) HONE.out (by omega) (by omega) (by simp; omega) ?_)
    intro u' c' w1 hown' hgr
    have hne : some (w.heap.size + 1) ≠ (Value.slice u pre.length uc).ownBlock := fun e => by have := (HO3.out.lt _ e.symm).1; omega
    have hne0 : some w.heap.size ≠ (Value.slice u pre.length uc).ownBlock := fun e => by have := (HO3.out.lt _ e.symm).1; omega
    have b9 := (h1.alloc (.cells #[.int .i64 (x : Int)] 3)).kept hgr hne
    have b8 := (h3.alloc (.cells #[.int .i64 (x : Int)] 3)).kept hgr hne0
    have c9 := b9.cell
    have f9 := b9.frozen
    have c8 := (b8.other (B' := w.heap.size + 1) (by omega) (.slice u' (pre.length + 1) c')).cell
    have hw1 := hgr.size
    have hkb : ∀ z, z < W0.heap.size → w1.heap[z]? = W.heap[z]? := fun z hz => (hgr.block z (by simp; omega) (fun e => by have := (HO3.out.lt _ e.symm).1; omega)).trans (Below.heap_alloc _ _ _ (by omega))
    have hf1 := (h4.alloc (by omega) (.cells #[.int .i64 (x : Int)] 3)).grown hgr (by simp; omega) (fun z hz => by have := (HO3.out.lt _ hz).1; omega)
    have HTI : Hid (TI w W0 k (pre ++ [x]) (w1.setCell ⟨w.heap.size + 1, 0, none⟩ (.slice u' (pre.length + 1) c'))) := by
      refine ⟨_, b9.set _, ?_, b8.other (by omega) _, hf1.setCell (by show _ ≤ w.heap.size + 1; omega) _, by simp at hw1 ⊢; omega⟩
      have := ownsRow_setCell_below hown' (a := ⟨w.heap.size + 1, 0, none⟩) (by show w.heap.size + 1 < _; omega) (.slice u' (pre.length + 1) c')
      rw [show (pre ++ [x]).length = pre.length + 1 by simp]
      exact this
    have HKO : Hid (KeepsOthers W (w1.setCell ⟨w.heap.size + 1, 0, none⟩ (.slice u' (pre.length + 1) c'))) := ((KeepsOthers.alloc W _).trans (keeps_app hgr (fun r e => HO3.out.cells_ e))).trans (KeepsOthers.setCell _ _ _)
    have HKD : Hid (KpD (plD A n) W (w1.setCell ⟨w.heap.size + 1, 0, none⟩ (.slice u' (pre.length + 1) c'))) := ⟨by simp at hw1 ⊢; omega, fun b hb => by
      have := HDL.out b hb
      exact (Below.heap_setCell _ _ _ _ (by show ¬ (_ = w.heap.size + 1); omega)).trans (hkb _ (by omega))⟩
    clear h1 h2 h3 h4 h5 hO2 hrd b8 b9 hf1 hkb hgr hown' HX HO3 HONE hw1 hne hne0
    by_cases hst : ((pre.length : Int) + 1) = k
    · have hd : (((pre.length : Int) + 1) == k) = true := by simpa using hst
      gi_wp2
      exact ⟨HKO.out.from _, rfl, by omega, by simp; omega, HTI.out⟩
    · have hd : (((pre.length : Int) + 1) == k) = false := by simpa using hst
      gi_wp2
      exact ⟨HKO.out.from _, HKD.out, HTI.out, by simp; omega⟩
  case done =>
    rintro D xs W hD rfl ⟨⟨v, h1, h2, h3, h4, h5⟩, h6⟩ hW
    clear hLL
    have hO2 := h2
    obtain ⟨u, uc, rfl, hrd⟩ := h2.rd
    have c1 := h1.cell
    gi_wp2
    refine ⟨by simp, .inl ⟨_, _, rfl, run_takeDeferred hW, ?_⟩⟩
    rw [pkQ_all h6]
    have hgr := grownBy_putObj' W D (.deferred none)
    have ho9 := (own_from 0 _ _ _ _ _ _ () W _ (some D) hO2 hgr (fun r e => by cases e; exact ⟨Nat.zero_le _, _, hW, rfl⟩)).weaken (base' := w.heap.size) (by omega)
    exact ⟨.slice u xs.length uc, by simp [results, Try.f12, go_sem], u, uc, rfl, ho9, h4.trans (belowK_b (w := w) (Nat.le_refl _) W D _ _ (by omega) hW rfl rfl)⟩
  case stop =>
    rintro D cd pre W hD hp ⟨rfl, h6, h7, v, h1, h2, h3, h4, h5⟩ hW
    have hO2 := h2
    obtain ⟨u, uc, rfl, hrd⟩ := h2.rd
    have c1 := h1.cell
    gi_wp2
    refine ⟨by simp, .inl ⟨_, _, rfl, run_takeDeferred hW, ?_⟩⟩
    rw [pkQ_cut h6 h7 hp]
    have hgr := grownBy_putObj' W D (.deferred none)
    have ho9 := (own_from 0 _ _ _ _ _ _ () W _ (some D) hO2 hgr (fun r e => by cases e; exact ⟨Nat.zero_le _, _, hW, rfl⟩)).weaken (base' := w.heap.size) (by omega)
    exact ⟨.slice u pre.length uc, by simp [results, Try.f12, go_sem], u, uc, rfl, ho9, h4.trans (belowK_b (w := w) (Nat.le_refl _) W D _ _ (by omega) hW rfl rfl)⟩
end Go.Proofs.Ytbpldnlafilbbaa
