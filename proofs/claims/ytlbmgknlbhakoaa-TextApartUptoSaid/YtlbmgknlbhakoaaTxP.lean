import Derived.Test.YtlbmgknlbhakoaaTxQ
namespace Go.Proofs.Ytlbmgknlbhakoaa
open Go.RowKit
/-! What New's loops keep. -/
theorem RoL.imp {w : World} {K K' : Nat → Prop} {ao : Option Addr} {cap : Nat} {l : List Int} (h : RoL w K ao cap l) (k : ∀ b, b < w.heap.size → K b → K' b) : RoL w K' ao cap l :=
  ⟨h.le, h.top, fun h0 => by
    obtain ⟨b, off, e, hk, hc⟩ := h.at_ h0
    exact ⟨b, off, e, k b (lt_of_cell (hc 0 h0)) hk, hc⟩⟩
theorem RoT.imp {w : World} {K K' : Nat → Prop} {ao : Option Addr} {n cap : Nat} {f : Nat → List Int} (h : RoT w K ao n cap f) (k : ∀ b, b < w.heap.size → K b → K' b) : RoT w K' ao n cap f :=
  ⟨h.le, h.top, fun h0 => by
    obtain ⟨b, off, e, hk, hc⟩ := h.at_ h0
    obtain ⟨u, c, h1, _⟩ := hc 0 h0
    refine ⟨b, off, e, k b (lt_of_cell h1) hk, fun i hi => ?_⟩
    obtain ⟨u, c, h1, h2⟩ := hc i hi
    exact ⟨u, c, h1, h2.imp k⟩⟩
theorem RoL.put {W : World} {K : Nat → Prop} {ao : Option Addr} {cap : Nat} {l : List Int} {j : Nat} {ob ob' : Obj} (hl : W.heap[j]? = some ob) (hc : ob.isCells = false) (h : RoL W K ao cap l) : RoL (W.putObj j ob') K ao cap l :=
  ⟨h.le, h.top, fun h0 => by
    obtain ⟨b, off, e, hk, hcs⟩ := h.at_ h0
    exact ⟨b, off, e, hk, fun i hi => cell_put hl hc (hcs i hi)⟩⟩
theorem RoT.put {W : World} {K : Nat → Prop} {ao : Option Addr} {n cap : Nat} {f : Nat → List Int} {j : Nat} {ob ob' : Obj} (hl : W.heap[j]? = some ob) (hc : ob.isCells = false) (h : RoT W K ao n cap f) : RoT (W.putObj j ob') K ao n cap f :=
  ⟨h.le, h.top, fun h0 => by
    obtain ⟨b, off, e, hk, hcs⟩ := h.at_ h0
    refine ⟨b, off, e, hk, fun i hi => ?_⟩
    obtain ⟨u, c, h1, h2⟩ := hcs i hi
    exact ⟨u, c, cell_put hl hc h1, h2.put hl hc⟩⟩
theorem Own.putO {W : World} {base : Nat} {e : TypeId} {sz : Nat} {v : Value} {n : Nat} {cs : Nat → Value} {j : Nat} {ob ob' : Obj} (hl : W.heap[j]? = some ob) (hc : ob.isCells = false) (h : Own W base e sz v n cs) : Own (W.putObj j ob') base e sz v n cs := by
  refine ⟨h.1, ?_⟩
  rcases h.2 with hn | ⟨g, cap, cur, rfl, hb, hgg, rest⟩
  · exact .inl hn
  · refine .inr ⟨g, cap, cur, rfl, hb, ?_, rest⟩
    rw [put_other _ (fun e => ?_)]
    · exact hgg
    · subst e
      rw [hgg] at hl
      cases hl
      simp [Obj.isCells] at hc
/-- A list of lists of bytes that grows, in a field (fi) of a stream that is being made. -/
structure GrL (B S V : Nat) (f : Nat → List Int) (n : Nat) (sv : Value) (A : Nat → Value) (wr : World) : Prop where
  own : Own wr B 22 1 sv n A
  els : ∀ i, i < n → ∃ u c, A i = .slice u (f i).length c ∧ RoL wr (fun b => B ≤ b ∧ b ≠ S ∧ b ≠ V ∧ sv.ownBlock ≠ some b) u c (f i)
theorem GrL.fresh {B S V : Nat} {f : Nat → List Int} {n : Nat} {sv : Value} {A : Nat → Value} {wr wr' : World} (h : GrL B S V f n sv A wr) (k : Below wr.heap.size wr wr') : GrL B S V f n sv A wr' :=
  ⟨h.own.kept k, fun i hi => by
    obtain ⟨u, c, e, hr⟩ := h.els i hi
    exact ⟨u, c, e, hr.chg (Chg.of_below (fun _ => False) k) (fun _ _ h => h)⟩⟩
theorem GrL.put {B S V : Nat} {f : Nat → List Int} {n : Nat} {sv : Value} {A : Nat → Value} {W : World} {j : Nat} {ob ob' : Obj} (hl : W.heap[j]? = some ob) (hc : ob.isCells = false) (h : GrL B S V f n sv A W) : GrL B S V f n sv A (W.putObj j ob') :=
  ⟨h.own.putO hl hc, fun i hi => by
    obtain ⟨u, c, e, hr⟩ := h.els i hi
    exact ⟨u, c, e, hr.put hl hc⟩⟩
/-- .. and the stream's block is written. -/
theorem GrL.set {B S V : Nat} {f : Nat → List Int} {n : Nat} {sv : Value} {A : Nat → Value} {wr : World} (h : GrL B S V f n sv A wr) (hS : sv.ownBlock ≠ some S) (o : Nat) (x : Value) : GrL B S V f n sv A (wr.setCell ⟨S, o, none⟩ x) :=
  ⟨Own.chg (Chg.of_set wr S o x) h.own (fun _ hb e => hS (e ▸ hb)), fun i hi => by
    obtain ⟨u, c, e, hr⟩ := h.els i hi
    exact ⟨u, c, e, hr.chg (Chg.of_set wr S o x) (fun b hb e => hb.2.1 e)⟩⟩
/-- one list more -/
theorem GrL.step {B S V : Nat} {f : Nat → List Int} {n : Nat} {sv sv' : Value} {A : Nat → Value} {wr W w9 : World} {u : Option Addr} {c : Nat} (h : GrL B S V f n sv A wr) (k : Below wr.heap.size wr W)
    (hel : RoL W (fun b => B ≤ b ∧ b ≠ S ∧ b ≠ V ∧ sv.ownBlock ≠ some b) u c (f n)) (ha : App W w9 sv sv') (ho : Own w9 B 22 1 sv' (n + 1) (upd A n (.slice u (f n).length c))) : GrL B S V f (n + 1) sv' (upd A n (.slice u (f n).length c)) w9 := by
  have cA := Chg.of_app ha
  have nx : ∀ b, b < w9.heap.size → b < W.heap.size → (B ≤ b ∧ b ≠ S ∧ b ≠ V ∧ sv.ownBlock ≠ some b) → (B ≤ b ∧ b ≠ S ∧ b ≠ V ∧ sv'.ownBlock ≠ some b) := fun b _ hb ⟨h1, h2, h3, h4⟩ => ⟨h1, h2, h3, fun e => by
    rcases ha.blk b e with e | e
    · exact h4 e
    · omega⟩
  have mv : ∀ {u : Option Addr} {c : Nat} {l : List Int}, RoL W (fun b => B ≤ b ∧ b ≠ S ∧ b ≠ V ∧ sv.ownBlock ≠ some b) u c l → RoL w9 (fun b => B ≤ b ∧ b ≠ S ∧ b ≠ V ∧ sv'.ownBlock ≠ some b) u c l := fun {u c l} hr => by
    have h1 := (hr.imp (K' := fun b => b < W.heap.size ∧ (B ≤ b ∧ b ≠ S ∧ b ≠ V ∧ sv.ownBlock ≠ some b)) (fun b hb hk => ⟨hb, hk⟩)).chg cA (fun b hb e => hb.2.2.2.2 e)
    exact h1.imp (fun b hb hk => nx b hb hk.1 hk.2)
  refine ⟨ho, fun i hi => ?_⟩
  by_cases e : i = n
  · subst e
    exact ⟨u, c, upd_at _ _ _, mv hel⟩
  · obtain ⟨u', c', e', hr⟩ := h.els i (by omega)
    refine ⟨u', c', by rw [upd_lt _ _ (by omega)]; exact e', mv (hr.chg (Chg.of_below (fun _ => False) k) (fun _ _ h => h))⟩
/-- At the end it is read. -/
theorem GrL.rot {B S V : Nat} {f : Nat → List Int} {n : Nat} {sv : Value} {A : Nat → Value} {w : World} (h : GrL B S V f n sv A w) (hS : sv.ownBlock ≠ some S) (hV : sv.ownBlock ≠ some V) : ∃ ao cap, sv = .slice ao n cap ∧ RoT w (fun b => B ≤ b ∧ b ≠ S ∧ b ≠ V) ao n cap f := by
  obtain ⟨ao, cap, rfl, hr⟩ := h.own.rd
  refine ⟨ao, cap, rfl, hr.le, hr.top, fun h0 => ?_⟩
  obtain ⟨b, off, rfl, hc⟩ := hr.one h0
  have hb := (h.own.lt b rfl).1
  refine ⟨b, off, rfl, ⟨hb, fun e => hS (by rw [e]; rfl), fun e => hV (by rw [e]; rfl)⟩, fun i hi => ?_⟩
  obtain ⟨u, c, e, h2⟩ := h.els i hi
  refine ⟨u, c, by rw [hc i hi, e], h2.imp (fun b _ hk => ⟨hk.1, hk.2.1, hk.2.2.1⟩)⟩
/-- New, while it gathers the stops. -/
structure NwS (w : World) (S V : Nat) (vb vp : Value) (f : Nat → List Int) (n : Nat) (sv : Value) (A : Nat → Value) (wr : World) : Prop where
  row : wr.rowIs S 60 4 (st4 (.slice none 0 0) sv (.slice none 0 0) (.bool false))
  var : wr.rowIs V 30 1 (fun _ => .pointer (some ⟨S, 0, none⟩))
  voc : wr.rowIs w.heap.size 25 2 (two vb vp)
  gr : GrL w.heap.size S V f n sv A wr
  low : Below w.heap.size w wr
  lo : w.heap.size < S ∧ w.heap.size < V
theorem st4_set1 {a b c e x : Value} : ∀ i, i < 4 → (if i = 1 then x else st4 a b c e i) = st4 a x c e i := by
  intro i hi
  obtain rfl | rfl | rfl | rfl : i = 0 ∨ i = 1 ∨ i = 2 ∨ i = 3 := by omega
  all_goals rfl
theorem st4_set0 {a b c e x : Value} : ∀ i, i < 4 → (if i = 0 then x else st4 a b c e i) = st4 x b c e i := by
  intro i hi
  obtain rfl | rfl | rfl | rfl : i = 0 ∨ i = 1 ∨ i = 2 ∨ i = 3 := by omega
  all_goals rfl
theorem NwS.step {w : World} {S V : Nat} {vb vp : Value} {f : Nat → List Int} {n : Nat} {sv sv' : Value} {A : Nat → Value} {wr W w9 : World} {c : Nat} (h : NwS w S V vb vp f n sv A wr) (k : Below wr.heap.size wr W)
    (hle : (f n).length ≤ c) (hct : c ≤ maxLen) (hcs : ∀ j, j < (f n).length → W.cell? ⟨wr.heap.size, j, none⟩ = some (.int .u8 ((f n).getD j 0))) (ha : App W w9 sv sv') (ho : Own w9 w.heap.size 22 1 sv' (n + 1) (upd A n (.slice (some ⟨wr.heap.size, 0, none⟩) (f n).length c))) :
    w9.cell? ⟨V, 0, none⟩ = some (.pointer (some ⟨S, 0, none⟩)) ∧ w9.cell? ⟨S, 1, none⟩ = some sv ∧ w9.frozen? ⟨S, 1, none⟩ = false ∧ NwS w S V vb vp f (n + 1) sv' (upd A n (.slice (some ⟨wr.heap.size, 0, none⟩) (f n).length c)) (w9.setCell ⟨S, 1, none⟩ sv') := by
  have hSr := h.row
  have hVr := h.var
  have hBr := h.voc
  have hBw : w.heap.size ≤ wr.heap.size := h.low.size
  have n1 := h.gr.own.apart hSr (by decide)
  have n2 := h.gr.own.apart hVr (by decide)
  have n3 := h.gr.own.apart hBr (by decide)
  have cA := Chg.of_app ha
  have kr : ∀ {b : Nat} {t : TypeId} {m : Nat} {F : Nat → Value}, wr.rowIs b t m F → sv.ownBlock ≠ some b → w9.rowIs b t m F := fun hr hn => cA.row (hr.of_block (k.block _ hr.lt)) hn
  have r1 := kr hSr n1
  have r2 := kr hVr n2
  have r3 := kr hBr n3
  have hSl := hSr.lt
  have hVl := hVr.lt
  have hel : RoL W (fun b => w.heap.size ≤ b ∧ b ≠ S ∧ b ≠ V ∧ sv.ownBlock ≠ some b) (some ⟨wr.heap.size, 0, none⟩) c (f n) := ⟨hle, hct, fun _ => ⟨wr.heap.size, 0, rfl, ⟨hBw, by omega, by omega, fun e => by have := (h.gr.own.lt _ e).2; omega⟩, fun j hj => by simpa using hcs j hj⟩⟩
  have hg := h.gr.step k hel ha ho
  have m1 : sv'.ownBlock ≠ some S := ho.apart r1 (by decide)
  have hVS : V ≠ S := fun e => by
    subst e
    obtain ⟨d, hd, _, _⟩ := hSr
    obtain ⟨d', hd', _, _⟩ := hVr
    rw [hd] at hd'
    cases hd'
  refine ⟨r2.cell (i := 0) (by decide), r1.cell (i := 1) (by decide), r1.frozen 1, ⟨(r1.set 1 sv').congr st4_set1, r2.setOther (by dsimp only; omega) _, r3.setOther (by dsimp only; have := h.lo; omega) _, hg.set m1 1 sv', ?_, h.lo⟩⟩
  have hk : Below w.heap.size w W := h.low.trans (k.mono hBw)
  have hl9 := ha.below hk (h.gr.own.kept k) (Nat.le_refl _) (by have := k.size; omega)
  exact hl9.setCell (by dsimp only; have := h.lo; omega) _
/-- New, while it gathers the tokens' bytes. -/
structure NwP (w : World) (S V n1 : Nat) (K : Nat → Prop) (so : Option Addr) (m ks : Nat) (fs : Nat → List Int) (f : Nat → List Int) (n : Nat) (pv : Value) (A : Nat → Value) (wr : World) : Prop where
  row : wr.rowIs S 60 4 (st4 pv (.slice so m ks) (.slice none 0 0) (.bool false))
  var : wr.rowIs V 30 1 (fun _ => .pointer (some ⟨S, 0, none⟩))
  gr : GrL n1 S V f n pv A wr
  stp : RoT wr K so m ks fs
  low : Below w.heap.size w wr
  n1w : n1 ≤ wr.heap.size
theorem NwP.fresh {w : World} {S V n1 : Nat} {K : Nat → Prop} {so : Option Addr} {m ks : Nat} {fs f : Nat → List Int} {n : Nat} {pv : Value} {A : Nat → Value} {wr wr' : World} (h : NwP w S V n1 K so m ks fs f n pv A wr) (k : Below wr.heap.size wr wr') : NwP w S V n1 K so m ks fs f n pv A wr' :=
  ⟨h.row.of_block (k.block _ h.row.lt), h.var.of_block (k.block _ h.var.lt), h.gr.fresh k, h.stp.fresh k, fresh_trans h.low k, Nat.le_trans h.n1w k.size⟩
theorem NwP.put {w : World} {S V n1 : Nat} {K : Nat → Prop} {so : Option Addr} {m ks : Nat} {fs f : Nat → List Int} {n : Nat} {pv : Value} {A : Nat → Value} {W : World} {j : Nat} {ob ob' : Obj} (hl : W.heap[j]? = some ob) (hc : ob.isCells = false) (hj : w.heap.size ≤ j) (h : NwP w S V n1 K so m ks fs f n pv A W) : NwP w S V n1 K so m ks fs f n pv A (W.putObj j ob') :=
  ⟨row_put hl hc h.row, row_put hl hc h.var, h.gr.put hl hc, h.stp.put hl hc, below_put hl hj h.low, by simpa using h.n1w⟩
theorem NwP.step {w : World} {S V n1 : Nat} {K : Nat → Prop} {so : Option Addr} {m ks : Nat} {fs f : Nat → List Int} {n : Nat} {pv pv' : Value} {A : Nat → Value} {wr W w9 : World} {u : Option Addr} {c : Nat} (h : NwP w S V n1 K so m ks fs f n pv A wr) (hK : ∀ b, K b → b < n1 ∧ b ≠ S) (hw1 : w.heap.size ≤ n1) (hSV : S < n1 ∧ V < n1 ∧ w.heap.size ≤ S) (k : Below wr.heap.size wr W)
    (hel : OwnB W n1 (.slice u (f n).length c) (f n)) (ha : App W w9 pv pv') (ho : Own w9 n1 22 1 pv' (n + 1) (upd A n (.slice u (f n).length c))) :
    w9.cell? ⟨V, 0, none⟩ = some (.pointer (some ⟨S, 0, none⟩)) ∧ w9.cell? ⟨S, 0, none⟩ = some pv ∧ w9.frozen? ⟨S, 0, none⟩ = false ∧ NwP w S V n1 K so m ks fs f (n + 1) pv' (upd A n (.slice u (f n).length c)) (w9.setCell ⟨S, 0, none⟩ pv') ∧ KeepsOthers wr (w9.setCell ⟨S, 0, none⟩ pv') ∧ (∀ b, b < n1 → b ≠ S → (w9.setCell ⟨S, 0, none⟩ pv').heap[b]? = wr.heap[b]?) := by
  have hSr := h.row
  have hVr := h.var
  have n1' := h.gr.own.apart hSr (by decide)
  have n2 := h.gr.own.apart hVr (by decide)
  have cA := Chg.of_app ha
  have kr : ∀ {b : Nat} {t : TypeId} {m : Nat} {F : Nat → Value}, wr.rowIs b t m F → pv.ownBlock ≠ some b → w9.rowIs b t m F := fun hr hn => cA.row (hr.of_block (k.block _ hr.lt)) hn
  have r1 := kr hSr n1'
  have r2 := kr hVr n2
  have hPo : Own W n1 22 1 pv n A := h.gr.own.kept k
  have hoff : Off pv (.slice u (f n).length c) := Own.offT hPo hel (by decide)
  have hel2 : RoL W (fun b => n1 ≤ b ∧ b ≠ S ∧ b ≠ V ∧ pv.ownBlock ≠ some b) u c (f n) := by
    obtain ⟨ao, cap, e, hr⟩ := OwnB.rda hel
    cases e
    refine ⟨hr.le, hr.top, fun h0 => ?_⟩
    obtain ⟨b, off, rfl, hcs⟩ := hr.one h0
    have hb := (Own.lt hel b rfl).1
    exact ⟨b, off, rfl, ⟨hb, by omega, by omega, fun e => hoff b e rfl⟩, fun j hj => hcs j hj⟩
  have hg := h.gr.step k hel2 ha ho
  have m1 : pv'.ownBlock ≠ some S := ho.apart r1 (by decide)
  have hVS : V ≠ S := fun e => by
    subst e
    obtain ⟨d, hd, _, _⟩ := hSr
    obtain ⟨d', hd', _, _⟩ := hVr
    rw [hd] at hd'
    cases hd'
  have hpl : ∀ b, pv.ownBlock = some b → n1 ≤ b := fun b e => (hPo.lt b e).1
  have hblk : ∀ b, b < n1 → b ≠ S → (w9.setCell ⟨S, 0, none⟩ pv').heap[b]? = wr.heap[b]? := fun b hb hbS => by
    rw [Below.heap_setCell _ _ _ _ (by dsimp only; exact hbS), cA.block b (by have := h.n1w; have := k.size; omega) (fun e => by have := hpl b e; omega), k.block b (by have := h.n1w; omega)]
  refine ⟨r2.cell (i := 0) (by decide), r1.cell (i := 0) (by decide), r1.frozen 0, ⟨(r1.set 0 pv').congr st4_set0, r2.setOther (by dsimp only; omega) _, hg.set m1 0 pv', ?_, ?_, ?_⟩, ?_, hblk⟩
  · refine ((h.stp.fresh k).chg cA (fun b hb e => ?_)).chg (Chg.of_set w9 S 0 pv') (fun b hb e => (hK b hb).2 e)
    have := hpl b e
    have := (hK b hb).1
    omega
  · have hk : Below w.heap.size w W := h.low.trans (k.mono h.low.size)
    have hl9 := ha.below hk hPo hw1 (by have := k.size; have := h.n1w; omega)
    exact hl9.setCell (by dsimp only; omega) _
  · have := h.n1w
    have := k.size
    have := ha.grown.size
    simp; omega
  · refine ((KeepsOthers.trans ⟨k.size, fun l _ e _ => (k.block l (Array.getElem?_eq_some_iff.1 e).1).trans e⟩ (KeepsOthers.of_grownBy ha.grown (fun j o e hj => ?_))).trans (KeepsOthers.setCell _ _ _))
    rcases hPo.2 with ⟨rfl, rfl⟩ | ⟨g, cap, cur, rfl, _, hgg, _⟩
    · simp [Value.ownBlock] at e
    · simp only [Value.ownBlock, Option.some.injEq] at e
      subst e
      rw [hgg] at hj
      cases hj
      rfl
end Go.Proofs.Ytlbmgknlbhakoaa
