import Derived.Test.YtjjnfpeeipainaaOwn
import Derived.Test.YtjjnfpeeipainaaMA
import Derived.Deep.DeepCutAuto
import Derived.Test.YtjjnfpeeipainaaCQ
import Derived.Test.YtjjnfpeeipainaaLG
namespace Go.Proofs.Ytjjnfpeeipainaa
open Go.RowKit
/-! A region that draws its order, by an invariant over what has been done. -/
def leftOf (n : Nat) (l : Array Bool) : Nat := ((List.range n).filter fun i => !l.getD i true).length
theorem getD_set (l : Array Bool) (i j : Nat) (h : i < l.size) (d : Bool) : (l.setIfInBounds i true).getD j d = if j = i then true else l.getD j d := by
  by_cases e : j = i
  · subst e
    rw [if_pos rfl]
    simp [h]
  · rw [if_neg e]
    simp only [Array.getD_eq_getD_getElem?]
    rw [Array.getElem?_setIfInBounds_ne (fun q => e q.symm)]
theorem leftOf_lt {n : Nat} {l : Array Bool} {i : Nat} (hi : i < n) (hf : l.getD i true = false) : leftOf n (l.setIfInBounds i true) < leftOf n l := by
  have hl : i < l.size := by
    by_cases e : i < l.size
    · exact e
    · simp [Array.getD, e] at hf
  unfold leftOf
  have e : ((List.range n).filter fun j => !(l.setIfInBounds i true).getD j true) = ((List.range n).filter fun j => !l.getD j true).filter fun j => decide (j ≠ i) := by
    rw [List.filter_filter]
    refine List.filter_congr fun j _ => ?_
    rw [getD_set l i j hl]
    by_cases q : j = i <;> simp [q]
  rw [e, List.length_filter_lt_length_iff_exists]
  exact ⟨i, by rw [List.mem_filter, List.mem_range]; exact ⟨hi, by rw [hf]; rfl⟩, by simp⟩
theorem ready_of {md : Region.Mode} {ops : Array Oper} {l : Array Bool} {i : Nat} (h : i ∈ Region.ready md ops l) : i < ops.size ∧ l.getD i true = false ∧ ((ops[i]?).map (·.after.all fun e => !Region.binds md e || l.getD e.on false)).getD false = true := by
  unfold Region.ready at h
  rw [List.mem_filter, List.mem_range] at h
  obtain ⟨h1, h2⟩ := h
  rw [Bool.and_eq_true] at h2
  exact ⟨h1, by simpa using h2.1, h2.2⟩
theorem wpAny_inv {P : Program} {md : Region.Mode} {ops : Array Oper} {Q : Exit → Act → World → Prop} (I : Array Bool → Act → World → Prop)
    (hs : ∀ l a w, I l a w → ∀ i, i ∈ Region.ready md ops l → wpOp P ops Q i (fun a' w' => I (l.setIfInBounds i true) a' w') a w)
    (he : ∀ l a w, I l a w → Region.ready md ops l = [] → Q .normal a w) : ∀ (fuel : Nat) (l : Array Bool) (a : Act) (w : World), leftOf ops.size l ≤ fuel → I l a w → wpAny P md ops Q fuel l a w
  | 0, l, a, w, hl, h => by
    have hr : Region.ready md ops l = [] := by
      rw [List.eq_nil_iff_forall_not_mem]
      intro i hi
      obtain ⟨h1, h2, _⟩ := ready_of hi
      have := leftOf_lt h1 h2
      omega
    exact ⟨hr, he l a w h hr⟩
  | fuel + 1, l, a, w, hl, h => by
    refine ⟨he l a w h, fun i hi => ?_⟩
    obtain ⟨h1, h2, _⟩ := ready_of hi
    have h3 := leftOf_lt h1 h2
    exact wpOp_mono (fun a' w' h' => wpAny_inv I hs he fuel _ a' w' (by omega) h') (hs l a w h i hi)
theorem leftOf_new (n : Nat) : leftOf n (Array.replicate n false) ≤ n := by
  unfold leftOf
  exact Nat.le_trans (List.length_filter_le _ _) (by simp)
theorem wp_region_inv {P : Program} {id : Nat} {ops : Array Oper} {Q : Exit → Act → World → Prop} {a : Act} {w : World} (hm : P.follows .mixedOrders = true) (I : Array Bool → Act → World → Prop)
    (h0 : I (Array.replicate ops.size false) a w.drew)
    (hs : ∀ l a w, I l a w → ∀ i, i ∈ Region.ready .any ops l → wpOp P ops Q i (fun a' w' => I (l.setIfInBounds i true) a' w') a w)
    (he : ∀ l a w, I l a w → Region.ready .any ops l = [] → Q .normal a w) : (Code.region id ops true).wp P Q a w :=
  wp_region_any hm (wpAny_inv I hs he ops.size _ a _ (leftOf_new _) h0)
/-- one operation whose run is known -/
theorem wpOp_run {P : Program} {ops : Array Oper} {Q : Exit → Act → World → Prop} {i : Nat} {o : Oper} {K : Act → World → Prop} {a : Act} {w w' : World} {v : Value} (ho : ops[i]? = some o) (hg : o.guard = none) (hr : (execOp a.eval o).run P w = .ok (.value v) w') (hK : K (a.put o.dst v) w') : wpOp P ops Q i K a w := by
  unfold wpOp
  rw [ho]
  have hw : Region.wanted o (yielded ops a.tmps) = true := by unfold Region.wanted; rw [hg]
  simp only [hw, if_true]
  refine .inl ?_
  unfold Oper.wp
  rw [hr]
  exact hK
theorem wpOp_skip {P : Program} {ops : Array Oper} {Q : Exit → Act → World → Prop} {i : Nat} {o : Oper} {K : Act → World → Prop} {a : Act} {w w' : World} (ho : ops[i]? = some o) (hg : o.guard = none) (hr : (execOp a.eval o).run P w = .ok .skip w') (hK : K (a.put o.dst undef) w') : wpOp P ops Q i K a w := by
  unfold wpOp
  rw [ho]
  have hw : Region.wanted o (yielded ops a.tmps) = true := by unfold Region.wanted; rw [hg]
  simp only [hw, if_true]
  refine .inl ?_
  unfold Oper.wp
  rw [hr]
  exact hK
theorem wpOp_wp {P : Program} {ops : Array Oper} {Q : Exit → Act → World → Prop} {i : Nat} {o : Oper} {K : Act → World → Prop} {a : Act} {w : World} (ho : ops[i]? = some o) (hg : o.guard = none) (h : o.wp P a w K Q) : wpOp P ops Q i K a w := by
  unfold wpOp
  rw [ho]
  have hw : Region.wanted o (yielded ops a.tmps) = true := by unfold Region.wanted; rw [hg]
  simp only [hw, if_true]
  exact .inl h
/-- nothing is ready: what may come has come -/
theorem not_ready {md : Region.Mode} {ops : Array Oper} {l : Array Bool} (h : Region.ready md ops l = []) {i : Nat} (hi : i < ops.size) (hd : ((ops[i]?).map (·.after.all fun e => !Region.binds md e || l.getD e.on false)).getD false = true) : l.getD i true = true := by
  cases hc : l.getD i true with
  | true => rfl
  | false =>
    exfalso
    have hm : i ∈ Region.ready md ops l := by
      unfold Region.ready
      rw [List.mem_filter, List.mem_range]
      exact ⟨hi, by rw [hc, hd]; rfl⟩
    rw [h] at hm
    cases hm
end Go.Proofs.Ytjjnfpeeipainaa
namespace Go.Proofs.Ytjjnfpeeipainaa
open Go.RowKit
/-! plain: a model by hand. -/
theorem infoI8' : (Try.prog.info? 51).map (fun i => (i.zero, i.size, i.bytes)) = some (some (.int .i8 0), 1, 1) := by kernel_rfl
theorem run_make_i8 (n : Nat) (hn : n ≤ 8) (w : World) : (Instr.makeSlice 24 (.int .i64 (n : Int)) (.int .i64 (n : Int))).run Try.prog w = .ok (.slice (some ⟨w.heap.size, 0, none⟩) n n) (w.alloc (.cells (madeCells #[.int .i8 0] n) 51)) := by
  obtain ⟨i, hi, z0, z1, z2⟩ := info_parts infoI8'
  have hr := run_make (P := Try.prog) w 24 51 i _ Try.underlying24 hi z0 .i64 .i64 n n (by omega) (Int.le_refl _) (by rw [z2]; omega) (by omega)
  simp only [Int.toNat_natCast, z1, Nat.mul_one] at hr
  exact hr
theorem made_i8 (w : World) (n : Nat) (t : TypeId) : (w.alloc (.cells (madeCells #[.int .i8 0] n) t)).rowIs w.heap.size t n (fun _ => .int .i8 0) :=
  ⟨_, Go.Deep.blk_alloc_new _ _, by rw [size_madeCells], fun i hi => by simp [madeCells, hi, Nat.mod_one]⟩
def zr (n : Nat) : Array Value := madeCells #[.int .i8 0] n
/-- a block, whole -/
def Blk (w : World) (b : Nat) (t : TypeId) (cs : Array Value) : Prop := w.heap[b]? = some (.cells cs t (0, 0))
theorem Blk.fresh {w w' : World} {b : Nat} {t : TypeId} {cs : Array Value} (h : Blk w b t cs) (f : Below w.heap.size w w') : Blk w' b t cs := (f.block b (Array.getElem?_eq_some_iff.1 h).1).trans h
theorem Blk.new (w : World) (t : TypeId) (cs : Array Value) : Blk (w.alloc (.cells cs t)) w.heap.size t cs := Go.Deep.blk_alloc_new _ _
theorem Blk.set {w : World} {b : Nat} {t : TypeId} {old : Array Value} (h : Blk w b t old) (cs : Array Value) : Blk (w.setRow b cs) b t cs := setRow_heap w b old cs t (0, 0) h
theorem Blk.off {w : World} {b c : Nat} {t : TypeId} {cs : Array Value} (h : Blk w b t cs) (xs : Array Value) (hne : b ≠ c) : Blk (w.setRow c xs) b t cs := (setRow_other w c b xs hne).trans h
theorem Blk.ne {w : World} {b c : Nat} {t u : TypeId} {cs ds : Array Value} (h : Blk w b t cs) (k : Blk w c u ds) (hne : t ≠ u) : b ≠ c := fun e => by
  subst e
  have := h.symm.trans k
  simp at this
  exact hne this.2
theorem Blk.range {w : World} {b : Nat} {t : TypeId} {cs : Array Value} (h : Blk w b t cs) : w.rangeAt b 0 cs.toList := fun j v hv => by
  unfold World.cell?
  rw [h]
  simpa using hv
def Zr (w : World) (b n : Nat) : Prop := Blk w b 51 (zr n)
theorem Zr.fresh {w w' : World} {b n : Nat} (h : Zr w b n) (f : Below w.heap.size w w') : Zr w' b n := Blk.fresh h f
theorem zr_new (w : World) (n : Nat) : Zr (w.alloc (.cells (zr n) 51)) w.heap.size n := Blk.new w 51 _
theorem Zr.row {w : World} {b n : Nat} (h : Zr w b n) : w.rowIs b 51 n (fun _ => .int .i8 0) := by
  refine ⟨_, h, by unfold zr; rw [size_madeCells], fun i hi => ?_⟩
  simp [zr, madeCells, hi, Nat.mod_one]
/-- the layer's cells -/
def lyV (m f b1 b2 b3 : Nat) : Array Value := #[(.slice (some ⟨b1, 0, none⟩) 2 2), (.slice (some ⟨b2, 0, none⟩) 2 2), .int .i64 2, .int .i64 2, (.slice (some ⟨m, 0, none⟩) 4 4), .int .i64 2, .int .i64 2, (.slice (some ⟨m, 0, none⟩) 4 4), .int .i64 2, .int .i64 2, (.slice (some ⟨m, 0, none⟩) 4 4), .int .i64 2, .int .i64 2, (.slice (some ⟨m, 0, none⟩) 4 4), .int .i64 1, .int .i64 2, (.slice (some ⟨f, 0, none⟩) 2 2), .int .i64 1, .int .i64 2, (.slice (some ⟨f, 0, none⟩) 2 2), .int .i64 2, .int .i64 1, (.slice (some ⟨b3, 0, none⟩) 2 2), .int .i64 0, .int .i64 0, .int .i64 0, .int .i64 0, .int .i64 0, .int .i64 0, .int .i64 0]
/-- what each operation of the layer's literal yields -/
def PV (B m f : Nat) (w : World) (v : Value) : Nat → Prop
  | 0 => ∃ b, v = (.slice (some ⟨b, 0, none⟩) 2 2) ∧ Zr w b 2
  | 1 => ∃ b, v = (.slice (some ⟨b, 0, none⟩) 2 2) ∧ Zr w b 2
  | 2 => v = .agg #[.int .i64 2, .int .i64 2, (.slice (some ⟨m, 0, none⟩) 4 4)]
  | 3 => v = .agg #[.int .i64 2, .int .i64 2, (.slice (some ⟨m, 0, none⟩) 4 4)]
  | 4 => v = .agg #[.int .i64 2, .int .i64 2, (.slice (some ⟨m, 0, none⟩) 4 4)]
  | 5 => v = .agg #[.int .i64 2, .int .i64 2, (.slice (some ⟨m, 0, none⟩) 4 4)]
  | 6 => v = .agg #[.int .i64 1, .int .i64 2, (.slice (some ⟨f, 0, none⟩) 2 2)]
  | 7 => v = .agg #[.int .i64 1, .int .i64 2, (.slice (some ⟨f, 0, none⟩) 2 2)]
  | 8 => ∃ b, v = (.slice (some ⟨b, 0, none⟩) 2 2) ∧ Zr w b 2
  | 9 => ∃ b, v = .agg #[.int .i64 2, .int .i64 1, (.slice (some ⟨b, 0, none⟩) 2 2)] ∧ Zr w b 2
  | 10 => ∃ b1 b2 b3, v = .agg (lyV m f b1 b2 b3) ∧ Zr w b1 2 ∧ Zr w b2 2 ∧ Zr w b3 2
  | 11 => ∃ b, v = .pointer (some ⟨b, 0, none⟩) ∧ B ≤ b ∧ ∃ old, Blk w b 97 old ∧ old.size = 30
  | _ => True
theorem PV.fresh {B m f : Nat} {w w' : World} {v : Value} {i : Nat} (h : PV B m f w v i) (g : Below w.heap.size w w') : PV B m f w' v i := by
  unfold PV at *
  split at h
  · obtain ⟨b, e, z⟩ := h; exact ⟨b, e, z.fresh g⟩
  · obtain ⟨b, e, z⟩ := h; exact ⟨b, e, z.fresh g⟩
  · exact h
  · exact h
  · exact h
  · exact h
  · exact h
  · exact h
  · obtain ⟨b, e, z⟩ := h; exact ⟨b, e, z.fresh g⟩
  · obtain ⟨b, e, z⟩ := h; exact ⟨b, e, z.fresh g⟩
  · obtain ⟨b1, b2, b3, e, z1, z2, z3⟩ := h; exact ⟨b1, b2, b3, e, z1.fresh g, z2.fresh g, z3.fresh g⟩
  · obtain ⟨b, e, q, G, z, s⟩ := h; exact ⟨b, e, q, G, z.fresh g, s⟩
  · trivial
/-- the slots that operations write -/
def stS (i : Nat) : Nat := if i = 11 then 4 else i + 13
structure PL (n : Nat) (st : Nat → Nat) (V : Nat → World → Value → Prop) (w1 : World) (l : Array Bool) (u : Nat → Value) (w : World) : Prop where
  sz : l.size = n
  low : Below w1.heap.size w1 w
  at_ : ∀ i, i < n → l.getD i false = true → V i w (u (st i))
theorem PL.step {n : Nat} {st : Nat → Nat} {V : Nat → World → Value → Prop} {w1 w w' : World} {l : Array Bool} {u : Nat → Value} (h : PL n st V w1 l u w) (hst : ∀ i j, i < n → j < n → st i = st j → i = j) (hV : ∀ i v, V i w v → V i w' v) {i : Nat} (hi : i < n) (hl : l.getD i true = false) (f : Below w.heap.size w w') {v : Value} (hv : V i w' v) : PL n st V w1 (l.setIfInBounds i true) (updX u (st i) v) w' := by
  refine ⟨by rw [Array.size_setIfInBounds]; exact h.sz, fresh_trans h.low f, fun j hj hl' => ?_⟩
  rw [getD_set l i j (by rw [h.sz]; exact hi)] at hl'
  by_cases e : j = i
  · subst e
    rw [updX_at]
    exact hv
  · rw [if_neg e] at hl'
    rw [updX_ne _ _ _ (fun q => e (hst j i hj hi q))]
    exact hV j _ (h.at_ j hj hl')
theorem getD_tf {l : Array Bool} {i : Nat} (h : i < l.size) (b : Bool) : l.getD i true = b ↔ l.getD i false = b := by
  simp [Array.getD_eq_getD_getElem?, h]
end Go.Proofs.Ytjjnfpeeipainaa
namespace Go.Proofs.Ytjjnfpeeipainaa
open Go.RowKit
/-! plain: the layer's literal. -/
def frA (b0 : Nat) (u : Nat → Value) : Act := { tmps := #[.pointer none, (.slice (some ⟨b0, 0, none⟩) 6 6), .pointer (some ⟨b0 + 1 + 1, 0, none⟩), .pointer (some ⟨b0 + 1 + 1 + 1 + 1, 0, none⟩), u 4, undef, undef, undef, (.slice (some ⟨b0, 0, none⟩) 6 6), (.slice (some ⟨b0 + 1, 0, none⟩) 4 4), .agg #[.int .i64 2, .int .i64 2, (.slice (some ⟨b0 + 1, 0, none⟩) 4 4)], (.slice (some ⟨b0 + 1 + 1 + 1, 0, none⟩) 2 2), .agg #[.int .i64 1, .int .i64 2, (.slice (some ⟨b0 + 1 + 1 + 1, 0, none⟩) 2 2)], u 13, u 14, u 15, u 16, u 17, u 18, u 19, u 20, u 21, u 22, u 23, undef, undef, undef, undef, undef, undef, undef, undef, undef, undef, undef, undef, undef, undef, undef, undef, undef, undef, undef, undef, undef, undef, undef], defers := [] }
/-- the layer's literal is whole -/
def Fin4 (b0 : Nat) (w1 : World) (l : Array Bool) (a : Act) (z : World) : Prop := (∀ i, i < 13 → l.getD i true = true) ∧ ∃ u b b1 b2 b3, a = frA b0 u ∧ u 4 = .pointer (some ⟨b, 0, none⟩) ∧ Blk z b 97 (lyV (b0 + 1) (b0 + 1 + 1 + 1) b1 b2 b3) ∧ Zr z b1 2 ∧ Zr z b2 2 ∧ Zr z b3 2 ∧ Below w1.heap.size w1 z
def In4 (b0 : Nat) (w1 : World) (l : Array Bool) (a : Act) (z : World) : Prop := (l.getD 12 true = false ∧ ∃ u, a = frA b0 u ∧ PL 13 stS (fun i z v => PV w1.heap.size (b0 + 1) (b0 + 1 + 1 + 1) z v i) w1 l u z) ∨ Fin4 b0 w1 l a z
theorem stS_inj : ∀ i j, i < 13 → j < 13 → stS i = stS j → i = j := by
  intro i j hi hj e
  unfold stS at e
  split at e <;> split at e <;> omega
theorem In4.step {b0 : Nat} {w1 z z' : World} {l : Array Bool} {u : Nat → Value} (hp : PL 13 stS (fun i z v => PV w1.heap.size (b0 + 1) (b0 + 1 + 1 + 1) z v i) w1 l u z) (h12 : l.getD 12 true = false) {i : Nat} (hi : i < 12) (hl : l.getD i true = false) (f : Below z.heap.size z z') {v : Value} (hv : PV w1.heap.size (b0 + 1) (b0 + 1 + 1 + 1) z' v i) {a : Act} (ha : a = frA b0 (updX u (stS i) v)) : In4 b0 w1 (l.setIfInBounds i true) a z' :=
  .inl ⟨by rw [getD_set l i 12 (by rw [hp.sz]; omega), if_neg (by omega)]; exact h12, _, ha, hp.step stS_inj (fun _ _ h => h.fresh f) (by omega) hl f hv⟩
theorem drew_low (w : World) : Below w.heap.size w w.drew := (Below.refl _ _).drew
theorem wp_build_of {P : Program} {o : Oper} {a : Act} {w : World} {K : Act → World → Prop} {Q : Exit → Act → World → Prop} (t : TypeId) (parts : Array (Nat × Operand)) (ho : o.op = .build t parts) (cells : Array Value)
    (hc : P.built t (parts.toList.map fun p => (p.1, a.eval p.2)) = some cells) (h : K (a.put o.dst (.agg cells)) w) : o.wp P a w K Q := by
  have hc' : P.built t (parts.map fun (i, x) => (i, a.eval x)).toList = some cells := by rw [Array.toList_map]; exact hc
  exact wp_build t parts ho (by rw [hc']; rfl) (by rw [hc']; exact h)
theorem built_mat (b : Nat) : Try.prog.built 26 [(0, .int .i64 2), (1, .int .i64 1), (2, .slice (some ⟨b, 0, none⟩) 2 2)] = some #[.int .i64 2, .int .i64 1, .slice (some ⟨b, 0, none⟩) 2 2] := by kernel_rfl
theorem built_layer (m f b1 b2 b3 : Nat) : Try.prog.built 97 [(0, .slice (some ⟨b1, 0, none⟩) 2 2), (1, .slice (some ⟨b2, 0, none⟩) 2 2), (2, .agg #[.int .i64 2, .int .i64 2, .slice (some ⟨m, 0, none⟩) 4 4]), (3, .agg #[.int .i64 2, .int .i64 2, .slice (some ⟨m, 0, none⟩) 4 4]), (4, .agg #[.int .i64 2, .int .i64 2, .slice (some ⟨m, 0, none⟩) 4 4]), (5, .agg #[.int .i64 2, .int .i64 2, .slice (some ⟨m, 0, none⟩) 4 4]), (6, .agg #[.int .i64 1, .int .i64 2, .slice (some ⟨f, 0, none⟩) 2 2]), (7, .agg #[.int .i64 1, .int .i64 2, .slice (some ⟨f, 0, none⟩) 2 2]), (8, .agg #[.int .i64 2, .int .i64 1, .slice (some ⟨b3, 0, none⟩) 2 2])] = some (lyV m f b1 b2 b3) := by kernel_rfl
theorem lyV_one (m f b1 b2 b3 : Nat) : (lyV m f b1 b2 b3).all (·.oneCell') = true := by simp [lyV, Value.oneCell']
theorem size30 : (Try.prog.info? 97).map (·.size) = some 30 := by kernel_rfl
theorem size3 : (Try.prog.info? 26).map (·.size) = some 3 := by kernel_rfl
end Go.Proofs.Ytjjnfpeeipainaa
namespace Go.Proofs.Ytjjnfpeeipainaa
open Go.RowKit
/-! plain: the weights' literal. -/
def frB (u : Nat → Value) : Act := { tmps := #[u 0, u 1, u 2, u 3, u 4, u 5, u 6, u 7, u 8, u 9, u 10, u 11, u 12, u 13, u 14, u 15, u 16, u 17, u 18, u 19, u 20, u 21, u 22, u 23, u 24, u 25, u 26, u 27, u 28, u 29, u 30, u 31, u 32, u 33, u 34, u 35, u 36, u 37, u 38, u 39, u 40, u 41, u 42, u 43, u 44, u 45, u 46], defers := [] }
set_option maxRecDepth 10000 in
theorem frB_of {t : Array Value} (h : t.size = 47) : ({ tmps := t, defers := [] } : Act) = frB (fun i => t.getD i undef) := congrArg (fun x => Act.mk x []) (arr_lit t 47 h)
def zf : Nat → Int := fun _ => 0
def plM (R C : Int) (b n : Nat) : MtD := ⟨R, C, some ⟨b, 0, none⟩, n, n, zf⟩
def plS (b n : Nat) : LsD := ⟨some ⟨b, 0, none⟩, n, n, zf⟩
def plLy (m f b1 b2 b3 : Nat) : LyD := ⟨plS b1 2, plS b2 2, plM 2 2 m 4, plM 2 2 m 4, plM 2 2 m 4, plM 2 2 m 4, plM 1 2 f 2, plM 1 2 f 2, plM 2 1 b3 2, zf⟩
theorem lyA_pl (m f b1 b2 b3 : Nat) : lyA (plLy m f b1 b2 b3) = lyV m f b1 b2 b3 := rfl
def trV : Array Value := #[.int .i64 16384, .int .i64 0]
/-- the weights as they are made first -/
def plW (l : LyD) (c1 c2 c3 : Nat) : WtD := { V := 3, W := 2, H := 1, K := 1, L := 1, D := 1, N := 8, M := 1, E := ⟨0, 0, none, 0, 0, zf⟩, tO := some ⟨c1, 0, none⟩, tn := 1, tc := 1, tC := fun _ => 16384, tS := zf, yO := some ⟨c2, 0, none⟩, yn := 1, yc := 1, ly := fun _ => l, F := plS c3 2, Q := ⟨0, 0, none, 0, 0, zf⟩, mO := none, mn := 0, mc := 0, md := fun _ => ⟨0, 0, none, 0, 0, zf⟩ }
def cfV : Array Value := #[.int .i64 3, .int .i64 2, .int .i64 1, .int .i64 1, .int .i64 1, .int .i64 1, .int .i64 8, .int .i64 1]
def PW (B : Nat) (l : LyD) (w : World) (v : Value) : Nat → Prop
  | 0 => v = .agg cfV
  | 1 => v = .agg trV
  | 2 => ∃ c, v = .slice (some ⟨c, 0, none⟩) 1 1 ∧ Blk w c 99 trV
  | 3 => v = .agg (lyA l)
  | 4 => ∃ c, v = .slice (some ⟨c, 0, none⟩) 1 1 ∧ Blk w c 97 (lyA l)
  | 5 => ∃ c, v = .slice (some ⟨c, 0, none⟩) 2 2 ∧ Zr w c 2
  | 6 => ∃ c1 c2 c3, v = .agg (wtA (plW l c1 c2 c3)) ∧ Blk w c1 99 trV ∧ Blk w c2 97 (lyA l) ∧ Zr w c3 2
  | 7 => ∃ c, v = .pointer (some ⟨c, 0, none⟩) ∧ B ≤ c ∧ ∃ old, Blk w c 31 old ∧ old.size = 18
  | _ => True
theorem PW.fresh {B : Nat} {l : LyD} {w w' : World} {v : Value} {i : Nat} (h : PW B l w v i) (g : Below w.heap.size w w') : PW B l w' v i := by
  unfold PW at *
  split at h
  · exact h
  · exact h
  · obtain ⟨b, e, z⟩ := h; exact ⟨b, e, z.fresh g⟩
  · exact h
  · obtain ⟨b, e, z⟩ := h; exact ⟨b, e, z.fresh g⟩
  · obtain ⟨b, e, z⟩ := h; exact ⟨b, e, z.fresh g⟩
  · obtain ⟨b1, b2, b3, e, z1, z2, z3⟩ := h; exact ⟨b1, b2, b3, e, z1.fresh g, z2.fresh g, z3.fresh g⟩
  · obtain ⟨b, e, q, G, z, s⟩ := h; exact ⟨b, e, q, G, z.fresh g, s⟩
  · trivial
def stW (i : Nat) : Nat := if i = 7 then 5 else if i = 8 then 47 else i + 24
theorem stW_inj : ∀ i j, i < 9 → j < 9 → stW i = stW j → i = j := by
  intro i j hi hj e
  unfold stW at e
  split at e <;> split at e <;> (try split at e) <;> (try split at e) <;> omega
def Fin5 (x1 : Value) (ly : LyD) (w1 : World) (l : Array Bool) (a : Act) (z : World) : Prop := (∀ i, i < 9 → l.getD i true = true) ∧ ∃ u c c1 c2 c3, a = frB u ∧ u 1 = x1 ∧ u 5 = .pointer (some ⟨c, 0, none⟩) ∧ Blk z c 31 (wtA (plW ly c1 c2 c3)) ∧ w1.heap.size ≤ c ∧ Blk z c1 99 trV ∧ Blk z c2 97 (lyA ly) ∧ Zr z c3 2 ∧ Below w1.heap.size w1 z
def In5 (x1 : Value) (b : Nat) (ly : LyD) (w1 : World) (l : Array Bool) (a : Act) (z : World) : Prop := (l.getD 8 true = false ∧ ∃ u, a = frB u ∧ u 1 = x1 ∧ u 4 = .pointer (some ⟨b, 0, none⟩) ∧ PL 9 stW (fun i z v => PW w1.heap.size ly z v i) w1 l u z) ∨ Fin5 x1 ly w1 l a z
theorem In5.step {x1 : Value} {b : Nat} {ly : LyD} {w1 z z' : World} {l : Array Bool} {u : Nat → Value} (hp : PL 9 stW (fun i z v => PW w1.heap.size ly z v i) w1 l u z) (e1 : u 1 = x1) (e4 : u 4 = .pointer (some ⟨b, 0, none⟩)) (h8 : l.getD 8 true = false) {i : Nat} (hi : i < 8) (hl : l.getD i true = false) (f : Below z.heap.size z z') {v : Value} (hv : PW w1.heap.size ly z' v i) {a : Act} (ha : a = frB (updX u (stW i) v)) : In5 x1 b ly w1 (l.setIfInBounds i true) a z' := by
  have hne : ∀ k, k = 1 ∨ k = 4 → k ≠ stW i := by
    intro k hk
    unfold stW
    split <;> (try split) <;> omega
  exact .inl ⟨by rw [getD_set l i 8 (by rw [hp.sz]; omega), if_neg (by omega)]; exact h8, _, ha, by rw [updX_ne _ _ _ (hne 1 (.inl rfl))]; exact e1, by rw [updX_ne _ _ _ (hne 4 (.inr rfl))]; exact e4, hp.step stW_inj (fun _ _ h => h.fresh f) (by omega) hl f hv⟩
theorem built_w (l : LyD) (c1 c2 c3 : Nat) : Try.prog.built 31 [(0, .agg cfV), (2, .slice (some ⟨c1, 0, none⟩) 1 1), (3, .slice (some ⟨c2, 0, none⟩) 1 1), (4, .slice (some ⟨c3, 0, none⟩) 2 2)] = some (wtA (plW l c1 c2 c3)) := by kernel_rfl
theorem built_c : Try.prog.built 23 [(0, .int .i64 3), (1, .int .i64 2), (2, .int .i64 1), (3, .int .i64 1), (4, .int .i64 1), (5, .int .i64 1), (6, .int .i64 8), (7, .int .i64 1)] = some cfV := by kernel_rfl
theorem built_t : Try.prog.built 99 [(0, .int .i64 16384)] = some trV := by kernel_rfl
theorem fill2 : Instr.fill (fun i => some (i * 2, 2)) ((Array.range (1 * 2)).map ((Value.agg #[.int .i64 0, .int .i64 0]).cells[· % (Value.agg #[.int .i64 0, .int .i64 0]).cells.size]!)) [(0, .agg trV)] = some trV := by kernel_rfl
theorem wp_buildTu {o : Oper} {a : Act} {w : World} {K : Act → World → Prop} {Q : Exit → Act → World → Prop} (x : Operand) (ho : o.op = .buildSlice 27 1 #[(0, x)]) (hx : a.eval x = .agg trV)
    (h : K (a.put o.dst (.slice (some ⟨w.heap.size, 0, none⟩) 1 1)) (w.alloc (.cells trV 99))) : o.wp Try.prog a w K Q := by
  obtain ⟨i, hi, hz0, hz1, hz2⟩ := info_parts infoTu
  refine wp_buildSlice 27 99 1 #[(0, x)] ho trV i _ Try.underlying27 hi hz0 (by rw [hz1]; decide) (by rw [hz1]; decide) ?_ h
  rw [hz1]
  simp only [List.map_toArray, List.map_cons, List.map_nil, hx]
  exact fill2
theorem wp_buildLyO {o : Oper} {a : Act} {w : World} {K : Act → World → Prop} {Q : Exit → Act → World → Prop} (x : Operand) (ho : o.op = .buildSlice 28 1 #[(0, x)]) (l : LyD) (hx : a.eval x = .agg (lyA l))
    (h : K (a.put o.dst (.slice (some ⟨w.heap.size, 0, none⟩) 1 1)) (w.alloc (.cells (lyA l) 97))) : o.wp Try.prog a w K Q := by
  obtain ⟨i, hi, hz0, hz1, hz2⟩ := info_parts infoLy
  refine wp_buildSlice 28 97 1 #[(0, x)] ho (lyA l) i _ Try.underlying28 hi hz0 (by rw [hz1]; decide) (by rw [hz1]; decide) ?_ h
  rw [hz1]
  simp only [List.map_toArray, List.map_cons, List.map_nil, hx]
  exact fill30 l
theorem zr_rd {w : World} {b n : Nat} (h : Zr w b n) (hn : n ≤ 8) : RdA w (some ⟨b, 0, none⟩) 1 n n (fun i => .int .i8 (zf i)) := rowIs_rd h.row (by unfold maxLen; omega)
theorem plS_rd {w : World} {b n : Nat} (h : Zr w b n) (hn : n ≤ 8) : LsR w (plS b n) := ⟨zr_rd h hn, fun _ _ => ⟨by show (-128 : Int) ≤ 0; omega, by show (0 : Int) ≤ 127; omega⟩⟩
theorem plM_rd {w : World} {b n : Nat} (R C : Int) (h : Zr w b n) (hn : n ≤ 8) : MtR w (plM R C b n) := ⟨zr_rd h hn, fun _ _ => ⟨by show (-128 : Int) ≤ 0; omega, by show (0 : Int) ≤ 127; omega⟩⟩
theorem plLy_rd {w : World} {m f b1 b2 b3 : Nat} (h1 : Zr w m 4) (h2 : Zr w f 2) (h3 : Zr w b1 2) (h4 : Zr w b2 2) (h5 : Zr w b3 2) : LyR w (plLy m f b1 b2 b3) :=
  ⟨plS_rd h3 (by omega), plS_rd h4 (by omega), plM_rd _ _ h1 (by omega), plM_rd _ _ h1 (by omega), plM_rd _ _ h1 (by omega), plM_rd _ _ h1 (by omega), plM_rd _ _ h2 (by omega), plM_rd _ _ h2 (by omega), plM_rd _ _ h5 (by omega)⟩
theorem plM_isa (R C : Int) (b n : Nat) (h : shp R C n = true) : (plM R C b n).isa R C := ⟨⟨h, fun _ _ => by show (-127 : Int) ≤ 0; omega⟩, rfl, rfl⟩
theorem plS_gains (b : Nat) : (plS b 2).gains 2 := ⟨rfl, fun _ _ => by show (-127 : Int) ≤ 0; omega⟩
theorem plLy_fits (m f b1 b2 b3 : Nat) : LyP (plLy m f b1 b2 b3) 2 2 1 :=
  ⟨plS_gains _, plS_gains _, plM_isa 2 2 _ _ (by decide), plM_isa 2 2 _ _ (by decide), plM_isa 2 2 _ _ (by decide), plM_isa 2 2 _ _ (by decide), plM_isa 1 2 _ _ (by decide), plM_isa 1 2 _ _ (by decide), plM_isa 2 1 _ _ (by decide), fun _ _ => ⟨by show (0 : Int) ≤ 0; omega, by show (0 : Int) ≤ 24; omega⟩⟩
theorem Blk.row {w : World} {b : Nat} {t : TypeId} {l : List Value} (h : Blk w b t l.toArray) : w.rowIs b t l.length (fun i => l.getD i undef) :=
  ⟨_, h, by simp, fun i hi => by simp [List.getD_eq_getElem?_getD, List.getElem?_eq_getElem hi]⟩
theorem Blk.cell {w : World} {b : Nat} {t : TypeId} {l : List Value} (h : Blk w b t l.toArray) {i : Nat} (hi : i < l.length) : w.cell? ⟨b, i, none⟩ = some (l.getD i undef) := h.row.cell (i := i) hi
theorem Blk.setc {w : World} {b c : Nat} {t : TypeId} {cs : Array Value} (h : Blk w b t cs) (j : Nat) (v : Value) (hne : b ≠ c) : Blk (w.setCell ⟨c, j, none⟩ v) b t cs := (Below.heap_setCell _ _ _ _ (by show ¬ (_ = c); exact hne)).trans h
/-- what is there behind the weights' literal -/
structure PE (z y : World) (c c1 c2 c3 : Nat) (ly : LyD) (x : WtD) : Prop where
  row : y.rowIs c 31 18 (wtc x)
  t : Blk y c1 99 trV
  l : Blk y c2 97 (lyA ly)
  f : Zr y c3 2
  n1 : c1 ≠ c
  n2 : c2 ≠ c
  n3 : c3 ≠ c
  low : Below z.heap.size z y
  cb : z.heap.size ≤ c
theorem PE.put1 {z y : World} {c c1 c2 c3 : Nat} {ly : LyD} {x x' : WtD} (h : PE z y c c1 c2 c3 ly x) (i : Nat) (v : Value) (hr : (y.setCell ⟨c, i, none⟩ v).rowIs c 31 18 (wtc x')) : PE z (y.setCell ⟨c, i, none⟩ v) c c1 c2 c3 ly x' :=
  ⟨hr, h.t.setc _ _ h.n1, h.l.setc _ _ h.n2, Blk.setc h.f _ _ h.n3, h.n1, h.n2, h.n3, h.low.setCell h.cb _, h.cb⟩
theorem PE.put3 {z y : World} {c c1 c2 c3 : Nat} {ly : LyD} {x x' : WtD} (h : PE z y c c1 c2 c3 ly x) (i j k : Nat) (v1 v2 v3 : Value) (hr : (((y.setCell ⟨c, i, none⟩ v1).setCell ⟨c, j, none⟩ v2).setCell ⟨c, k, none⟩ v3).rowIs c 31 18 (wtc x')) : PE z (((y.setCell ⟨c, i, none⟩ v1).setCell ⟨c, j, none⟩ v2).setCell ⟨c, k, none⟩ v3) c c1 c2 c3 ly x' :=
  ⟨hr, ((h.t.setc _ _ h.n1).setc _ _ h.n1).setc _ _ h.n1, ((h.l.setc _ _ h.n2).setc _ _ h.n2).setc _ _ h.n2, Blk.setc (Blk.setc (Blk.setc h.f _ _ h.n3) _ _ h.n3) _ _ h.n3, h.n1, h.n2, h.n3, ((h.low.setCell h.cb _).setCell h.cb _).setCell h.cb _, h.cb⟩
theorem PE.fresh {z y y' : World} {c c1 c2 c3 : Nat} {ly : LyD} {x : WtD} (h : PE z y c c1 c2 c3 ly x) (f : Below y.heap.size y y') : PE z y' c c1 c2 c3 ly x :=
  ⟨row_fresh h.row f, h.t.fresh f, h.l.fresh f, h.f.fresh f, h.n1, h.n2, h.n3, fresh_trans h.low f, h.cb⟩
theorem plain_end {z y : World} {c : Nat} {ly : LyD} {c1 c2 c3 : Nat} (h4 : Blk y c 31 (wtA (plW ly c1 c2 c3))) (h : z.heap.size ≤ c) (h5 : Blk y c1 99 trV) (h6 : Blk y c2 97 (lyA ly)) (h7 : Zr y c3 2) (f : Below z.heap.size z y) : PE z y c c1 c2 c3 ly (plW ly c1 c2 c3) :=
  ⟨Blk.row h4, h5, h6, h7, Blk.ne h5 h4 (by decide), Blk.ne h6 h4 (by decide), Blk.ne h7 h4 (by decide), f, h⟩
def hdF : Nat → Int := fun i => ([2, 0, 1, 0, 3, 0] : List Int).getD i 0
/-- the weights by hand -/
def plX (ly : LyD) (b0 c1 c2 c3 d1 d2 : Nat) : WtD := { plW ly c1 c2 c3 with E := plM 3 2 b0 6, Q := plM 3 2 b0 6, mO := some ⟨d2, 0, none⟩, mn := 1, mc := 1, md := fun _ => ⟨3, 2, some ⟨d1, 0, none⟩, 6, 6, hdF⟩ }
theorem plX_rd {z y : World} {c b0 c1 c2 c3 d1 d2 : Nat} {ly : LyD} {x : WtD} (h : PE z y c c1 c2 c3 ly x) (h1 : LyR z ly) (h3 : Zr z b0 6) (m1 : Blk y d1 51 ([.int .i8 2, .int .i8 0, .int .i8 1, .int .i8 0, .int .i8 3, .int .i8 0] : List Value).toArray) (m2 : Blk y d2 26 ([.int .i64 3, .int .i64 2, .slice (some ⟨d1, 0, none⟩) 6 6] : List Value).toArray) : WtR y (plX ly b0 c1 c2 c3 d1 d2) := by
  have ez := plM_rd 3 2 (h3.fresh h.low) (by omega)
  refine ⟨ez, ?_, plS_rd h.f (by omega), ez, Nat.le_refl _, by show 1 ≤ maxLen; unfold maxLen; omega, fun _ => ⟨c2, 0, rfl, fun k hk => ?_⟩, fun k _ => h1.fresh h.low, Nat.le_refl _, by show 1 ≤ maxLen; unfold maxLen; omega, fun _ => ⟨d2, 0, rfl, fun k hk => ?_⟩, fun k _ => ⟨?_, fun i hi => ?_⟩⟩
  · refine ⟨Nat.le_refl _, by show 1 ≤ maxLen; unfold maxLen; omega, fun _ => ⟨c1, 0, rfl, fun j hj => ?_⟩⟩
    have hj' : j < 2 := hj
    match j, hj' with
    | 0, _ => exact Blk.cell (l := [.int .i64 16384, .int .i64 0]) h.t (i := 0) (by decide)
    | 1, _ => exact Blk.cell (l := [.int .i64 16384, .int .i64 0]) h.t (i := 1) (by decide)
  · obtain rfl : k = 0 := by have : k < 1 := hk; omega
    have q := fun (i : Nat) (hi : i < 30) => Blk.cell (l := lyL ly) h.l (i := i) hi
    exact ⟨q 0 (by decide), q 1 (by decide), q 2 (by decide), q 3 (by decide), q 4 (by decide), q 5 (by decide), q 6 (by decide), q 7 (by decide), q 8 (by decide), q 9 (by decide), q 10 (by decide), q 11 (by decide), q 12 (by decide), q 13 (by decide), q 14 (by decide), q 15 (by decide), q 16 (by decide), q 17 (by decide), q 18 (by decide), q 19 (by decide), q 20 (by decide), q 21 (by decide), q 22 (by decide), q 23 (by decide), q 24 (by decide), q 25 (by decide), q 26 (by decide), q 27 (by decide), q 28 (by decide), q 29 (by decide)⟩
  · obtain rfl : k = 0 := by have : k < 1 := hk; omega
    exact ⟨m2.cell (i := 0) (by simp), m2.cell (i := 1) (by simp), m2.cell (i := 2) (by simp)⟩
  · refine ⟨Nat.le_refl _, by show 6 ≤ maxLen; unfold maxLen; omega, fun _ => ⟨d1, 0, rfl, fun j hj => ?_⟩⟩
    have hj' : j < 6 := hj
    rw [Nat.zero_add]
    match j, hj' with
    | 0, _ => exact m1.cell (i := 0) (by decide)
    | 1, _ => exact m1.cell (i := 1) (by decide)
    | 2, _ => exact m1.cell (i := 2) (by decide)
    | 3, _ => exact m1.cell (i := 3) (by decide)
    | 4, _ => exact m1.cell (i := 4) (by decide)
    | 5, _ => exact m1.cell (i := 5) (by decide)
  · have hi' : i < 6 := hi
    show -128 ≤ hdF i ∧ hdF i ≤ 127
    match i, hi' with
    | 0, _ => decide
    | 1, _ => decide
    | 2, _ => decide
    | 3, _ => decide
    | 4, _ => decide
    | 5, _ => decide
theorem plX_may (ly : LyD) (b0 c1 c2 c3 d1 d2 : Nat) : (plX ly b0 c1 c2 c3 d1 d2).may := by
  show may 3 2 1 1 1 1 8 1
  unfold may
  decide
theorem plX_fits {ly : LyD} (h : LyP ly 2 2 1) (b0 c1 c2 c3 d1 d2 : Nat) : WtP (plX ly b0 c1 c2 c3 d1 d2) :=
  ⟨plM_isa 3 2 _ _ (by decide), plM_isa 3 2 _ _ (by decide), plS_gains _, ⟨rfl, fun _ _ => ⟨⟨by show (-16384 : Int) ≤ 16384; omega, by show (16384 : Int) ≤ 16384; omega⟩, ⟨by show (-16384 : Int) ≤ 0; omega, by show (0 : Int) ≤ 16384; omega⟩⟩⟩, rfl, rfl, fun _ _ => h, fun _ _ => ⟨⟨by show shp 3 2 6 = true; decide, fun i hi => by
    have hi' : i < 6 := hi
    show -127 ≤ hdF i
    match i, hi' with
    | 0, _ => decide
    | 1, _ => decide
    | 2, _ => decide
    | 3, _ => decide
    | 4, _ => decide
    | 5, _ => decide⟩, rfl, rfl⟩⟩
end Go.Proofs.Ytjjnfpeeipainaa
namespace Go.Proofs.Ytjjnfpeeipainaa
open Go.RowKit
/-! plain: a model by hand. -/
/-- the model by hand -/
def PlP (w : World) (x : WtD) (g : Nat) : Prop := ∃ y, Mdl w g x y ∧ x.may ∧ WtP x ∧ x.V = 3 ∧ x.W = 2 ∧ x.mn = 1 ∧ ∀ i, (x.md 0).f i = hdF i
set_option maxRecDepth 20000 in
set_option maxHeartbeats 4000000 in
theorem plain_any (w : World) : Calls Try.prog 26 #[] w fun e w' => ∃ x g, e = .returned (.pointer (some ⟨g, 0, none⟩)) ∧ PlP w' x g ∧ Below w.heap.size w w' := by
  have hm6 : ∀ w, (Instr.makeSlice 24 (.int .i64 6) (.int .i64 6)).run Try.prog w = .ok (.slice (some ⟨w.heap.size, 0, none⟩) 6 6) (w.alloc (.cells (zr 6) 51)) := run_make_i8 6 (by omega)
  have hm4 : ∀ w, (Instr.makeSlice 24 (.int .i64 4) (.int .i64 4)).run Try.prog w = .ok (.slice (some ⟨w.heap.size, 0, none⟩) 4 4) (w.alloc (.cells (zr 4) 51)) := run_make_i8 4 (by omega)
  have hm2 : ∀ w, (Instr.makeSlice 24 (.int .i64 2) (.int .i64 2)).run Try.prog w = .ok (.slice (some ⟨w.heap.size, 0, none⟩) 2 2) (w.alloc (.cells (zr 2) 51)) := run_make_i8 2 (by omega)
  go_enter Try.func26, Try.ntmps26
  go_upto_region 4 with fail
  have f1 : Below w.heap.size w (((((w.alloc (.cells (zr 6) 51)).alloc (.cells (zr 4) 51)).alloc (.cells #[.int .i64 2, .int .i64 2, (.slice (some ⟨w.heap.size + 1, 0, none⟩) 4 4)] 26)).alloc (.cells (zr 2) 51)).alloc (.cells #[.int .i64 1, .int .i64 2, (.slice (some ⟨w.heap.size + 1 + 1 + 1, 0, none⟩) 2 2)] 26)) := fresh_trans (fresh_trans (fresh_trans (fresh_trans (fresh_alloc _ _) (fresh_alloc _ _)) (fresh_alloc _ _)) (fresh_alloc _ _)) (fresh_alloc _ _)
  have HZ6 : Hid (Zr (((((w.alloc (.cells (zr 6) 51)).alloc (.cells (zr 4) 51)).alloc (.cells #[.int .i64 2, .int .i64 2, (.slice (some ⟨w.heap.size + 1, 0, none⟩) 4 4)] 26)).alloc (.cells (zr 2) 51)).alloc (.cells #[.int .i64 1, .int .i64 2, (.slice (some ⟨w.heap.size + 1 + 1 + 1, 0, none⟩) 2 2)] 26)) w.heap.size 6) := (((((zr_new w 6).fresh (fresh_alloc _ _)).fresh (fresh_alloc _ _)).fresh (fresh_alloc _ _)).fresh (fresh_alloc _ _))
  have HZ4 : Hid (Zr (((((w.alloc (.cells (zr 6) 51)).alloc (.cells (zr 4) 51)).alloc (.cells #[.int .i64 2, .int .i64 2, (.slice (some ⟨w.heap.size + 1, 0, none⟩) 4 4)] 26)).alloc (.cells (zr 2) 51)).alloc (.cells #[.int .i64 1, .int .i64 2, (.slice (some ⟨w.heap.size + 1 + 1 + 1, 0, none⟩) 2 2)] 26)) (w.heap.size + 1) 4) := by
    have := ((((zr_new (w.alloc (.cells (zr 6) 51)) 4).fresh (fresh_alloc _ (.cells #[.int .i64 2, .int .i64 2, (.slice (some ⟨w.heap.size + 1, 0, none⟩) 4 4)] 26))).fresh (fresh_alloc _ (.cells (zr 2) 51))).fresh (fresh_alloc _ (.cells #[.int .i64 1, .int .i64 2, (.slice (some ⟨w.heap.size + 1 + 1 + 1, 0, none⟩) 2 2)] 26)))
    simp only [World.size_alloc] at this
    exact this
  have HA : Hid (Blk (((((w.alloc (.cells (zr 6) 51)).alloc (.cells (zr 4) 51)).alloc (.cells #[.int .i64 2, .int .i64 2, (.slice (some ⟨w.heap.size + 1, 0, none⟩) 4 4)] 26)).alloc (.cells (zr 2) 51)).alloc (.cells #[.int .i64 1, .int .i64 2, (.slice (some ⟨w.heap.size + 1 + 1 + 1, 0, none⟩) 2 2)] 26)) (w.heap.size + 1 + 1) 26 #[.int .i64 2, .int .i64 2, (.slice (some ⟨w.heap.size + 1, 0, none⟩) 4 4)]) := by
    have := ((Blk.new ((w.alloc (.cells (zr 6) 51)).alloc (.cells (zr 4) 51)) 26 #[.int .i64 2, .int .i64 2, (.slice (some ⟨w.heap.size + 1, 0, none⟩) 4 4)]).fresh (fresh_alloc _ (.cells (zr 2) 51))).fresh (fresh_alloc _ (.cells #[.int .i64 1, .int .i64 2, (.slice (some ⟨w.heap.size + 1 + 1 + 1, 0, none⟩) 2 2)] 26))
    simp only [World.size_alloc] at this
    exact this
  have HZ2 : Hid (Zr (((((w.alloc (.cells (zr 6) 51)).alloc (.cells (zr 4) 51)).alloc (.cells #[.int .i64 2, .int .i64 2, (.slice (some ⟨w.heap.size + 1, 0, none⟩) 4 4)] 26)).alloc (.cells (zr 2) 51)).alloc (.cells #[.int .i64 1, .int .i64 2, (.slice (some ⟨w.heap.size + 1 + 1 + 1, 0, none⟩) 2 2)] 26)) (w.heap.size + 1 + 1 + 1) 2) := by
    have := (zr_new (((w.alloc (.cells (zr 6) 51)).alloc (.cells (zr 4) 51)).alloc (.cells #[.int .i64 2, .int .i64 2, (.slice (some ⟨w.heap.size + 1, 0, none⟩) 4 4)] 26)) 2).fresh (fresh_alloc _ (.cells #[.int .i64 1, .int .i64 2, (.slice (some ⟨w.heap.size + 1 + 1 + 1, 0, none⟩) 2 2)] 26))
    simp only [World.size_alloc] at this
    exact this
  have HB : Hid (Blk (((((w.alloc (.cells (zr 6) 51)).alloc (.cells (zr 4) 51)).alloc (.cells #[.int .i64 2, .int .i64 2, (.slice (some ⟨w.heap.size + 1, 0, none⟩) 4 4)] 26)).alloc (.cells (zr 2) 51)).alloc (.cells #[.int .i64 1, .int .i64 2, (.slice (some ⟨w.heap.size + 1 + 1 + 1, 0, none⟩) 2 2)] 26)) (w.heap.size + 1 + 1 + 1 + 1) 26 #[.int .i64 1, .int .i64 2, (.slice (some ⟨w.heap.size + 1 + 1 + 1, 0, none⟩) 2 2)]) := by
    have := Blk.new ((((w.alloc (.cells (zr 6) 51)).alloc (.cells (zr 4) 51)).alloc (.cells #[.int .i64 2, .int .i64 2, (.slice (some ⟨w.heap.size + 1, 0, none⟩) 4 4)] 26)).alloc (.cells (zr 2) 51)) 26 #[.int .i64 1, .int .i64 2, (.slice (some ⟨w.heap.size + 1 + 1 + 1, 0, none⟩) 2 2)]
    simp only [World.size_alloc] at this
    exact this
  generalize ((((w.alloc (.cells (zr 6) 51)).alloc (.cells (zr 4) 51)).alloc (.cells #[.int .i64 2, .int .i64 2, (.slice (some ⟨w.heap.size + 1, 0, none⟩) 4 4)] 26)).alloc (.cells (zr 2) 51)).alloc (.cells #[.int .i64 1, .int .i64 2, (.slice (some ⟨w.heap.size + 1 + 1 + 1, 0, none⟩) 2 2)] 26) = w1 at *
  have F1 := hidd f1
  clear f1
  generalize hb0 : w.heap.size = b0 at *
  have HB0 := hidd hb0
  clear hb0
  refine wp_region_inv (by kernel_rfl) (In4 b0 w1) ?_ ?_ ?_
  · exact .inl ⟨by simp [Array.getD_eq_getD_getElem?], fun _ => undef, rfl, ⟨by simp, drew_low w1, fun i hi hl => absurd hl (by simp [Array.getD_eq_getD_getElem?, hi])⟩⟩
  · rintro l a z (⟨h12, u, rfl, hp⟩ | hf) i hi
    · obtain ⟨h1, h2, h3⟩ := ready_of hi
      have h1' : i < 13 := h1
      clear hi h1
      have EA := fun (j : Nat) (h : j < 13) (k : l.getD j false = true) => hp.at_ j h k
      match i, h1' with
      | 0, _ =>
        refine wpOp_wp rfl rfl ?_
        unfold Oper.wp
        simp only [execOp, go_sem]
        exact In4.step hp h12 (by omega) h2 (fresh_alloc z _) (by exact ⟨_, rfl, zr_new z 2⟩) rfl
      | 1, _ =>
        refine wpOp_wp rfl rfl ?_
        unfold Oper.wp
        simp only [execOp, go_sem]
        exact In4.step hp h12 (by omega) h2 (fresh_alloc z _) (by exact ⟨_, rfl, zr_new z 2⟩) rfl
      | 8, _ =>
        refine wpOp_wp rfl rfl ?_
        unfold Oper.wp
        simp only [execOp, go_sem]
        exact In4.step hp h12 (by omega) h2 (fresh_alloc z _) (by exact ⟨_, rfl, zr_new z 2⟩) rfl
      | 2, _ =>
        refine wpOp_wp rfl rfl (wp_load_mid 26 _ rfl (b0 + 1 + 1) 0 rfl _ _ (HA.out.fresh hp.low).range Try.underlying26 rfl size3 ?_)
        exact In4.step hp h12 (by omega) h2 (Below.refl _ _) (by exact rfl) rfl
      | 3, _ =>
        refine wpOp_wp rfl rfl (wp_load_mid 26 _ rfl (b0 + 1 + 1) 0 rfl _ _ (HA.out.fresh hp.low).range Try.underlying26 rfl size3 ?_)
        exact In4.step hp h12 (by omega) h2 (Below.refl _ _) (by exact rfl) rfl
      | 4, _ =>
        refine wpOp_wp rfl rfl (wp_load_mid 26 _ rfl (b0 + 1 + 1) 0 rfl _ _ (HA.out.fresh hp.low).range Try.underlying26 rfl size3 ?_)
        exact In4.step hp h12 (by omega) h2 (Below.refl _ _) (by exact rfl) rfl
      | 5, _ =>
        refine wpOp_wp rfl rfl (wp_load_mid 26 _ rfl (b0 + 1 + 1) 0 rfl _ _ (HA.out.fresh hp.low).range Try.underlying26 rfl size3 ?_)
        exact In4.step hp h12 (by omega) h2 (Below.refl _ _) (by exact rfl) rfl
      | 6, _ =>
        refine wpOp_wp rfl rfl (wp_load_mid 26 _ rfl (b0 + 1 + 1 + 1 + 1) 0 rfl _ _ (HB.out.fresh hp.low).range Try.underlying26 rfl size3 ?_)
        exact In4.step hp h12 (by omega) h2 (Below.refl _ _) (by exact rfl) rfl
      | 7, _ =>
        refine wpOp_wp rfl rfl (wp_load_mid 26 _ rfl (b0 + 1 + 1 + 1 + 1) 0 rfl _ _ (HB.out.fresh hp.low).range Try.underlying26 rfl size3 ?_)
        exact In4.step hp h12 (by omega) h2 (Below.refl _ _) (by exact rfl) rfl
      | 9, _ =>
        have d8 : l.getD 8 false = true := by simpa [Region.binds] using h3
        obtain ⟨b, e, hz⟩ : ∃ b, u 21 = (.slice (some ⟨b, 0, none⟩) 2 2) ∧ Zr z b 2 := EA 8 (by omega) d8
        refine wpOp_wp rfl rfl (wp_build_of 26 _ rfl #[.int .i64 2, .int .i64 1, (.slice (some ⟨b, 0, none⟩) 2 2)] ?_ ?_)
        · show Try.prog.built 26 [(0, .int .i64 2), (1, .int .i64 1), (2, u 21)] = _
          rw [e]
          exact built_mat b
        · exact In4.step hp h12 (by omega) h2 (Below.refl _ _) (by exact ⟨b, rfl, hz⟩) rfl
      | 10, _ =>
        have dd : l.getD 0 false = true ∧ l.getD 1 false = true ∧ l.getD 2 false = true ∧ l.getD 3 false = true ∧ l.getD 4 false = true ∧ l.getD 5 false = true ∧ l.getD 6 false = true ∧ l.getD 7 false = true ∧ l.getD 9 false = true := by simpa [Region.binds, and_assoc] using h3
        obtain ⟨d0, d1, d2, d3, d4, d5, d6, d7, d9⟩ := dd
        obtain ⟨b1, e0, z0⟩ : ∃ b, u 13 = (.slice (some ⟨b, 0, none⟩) 2 2) ∧ Zr z b 2 := EA 0 (by omega) d0
        obtain ⟨b2, e1, z1⟩ : ∃ b, u 14 = (.slice (some ⟨b, 0, none⟩) 2 2) ∧ Zr z b 2 := EA 1 (by omega) d1
        have e2 : u 15 = .agg #[.int .i64 2, .int .i64 2, (.slice (some ⟨b0 + 1, 0, none⟩) 4 4)] := EA 2 (by omega) d2
        have e3 : u 16 = .agg #[.int .i64 2, .int .i64 2, (.slice (some ⟨b0 + 1, 0, none⟩) 4 4)] := EA 3 (by omega) d3
        have e4 : u 17 = .agg #[.int .i64 2, .int .i64 2, (.slice (some ⟨b0 + 1, 0, none⟩) 4 4)] := EA 4 (by omega) d4
        have e5 : u 18 = .agg #[.int .i64 2, .int .i64 2, (.slice (some ⟨b0 + 1, 0, none⟩) 4 4)] := EA 5 (by omega) d5
        have e6 : u 19 = .agg #[.int .i64 1, .int .i64 2, (.slice (some ⟨b0 + 1 + 1 + 1, 0, none⟩) 2 2)] := EA 6 (by omega) d6
        have e7 : u 20 = .agg #[.int .i64 1, .int .i64 2, (.slice (some ⟨b0 + 1 + 1 + 1, 0, none⟩) 2 2)] := EA 7 (by omega) d7
        obtain ⟨b3, e9, z9⟩ : ∃ b, u 22 = .agg #[.int .i64 2, .int .i64 1, (.slice (some ⟨b, 0, none⟩) 2 2)] ∧ Zr z b 2 := EA 9 (by omega) d9
        refine wpOp_wp rfl rfl (wp_build_of 97 _ rfl (lyV (b0 + 1) (b0 + 1 + 1 + 1) b1 b2 b3) ?_ ?_)
        · show Try.prog.built 97 [(0, u 13), (1, u 14), (2, u 15), (3, u 16), (4, u 17), (5, u 18), (6, u 19), (7, u 20), (8, u 22)] = _
          rw [e0, e1, e2, e3, e4, e5, e6, e7, e9]
          exact built_layer (b0 + 1) (b0 + 1 + 1 + 1) b1 b2 b3
        · exact In4.step hp h12 (by omega) h2 (Below.refl _ _) (by exact ⟨b1, b2, b3, rfl, z0, z1, z9⟩) rfl
      | 11, _ =>
        refine wpOp_wp rfl rfl ?_
        unfold Oper.wp
        simp only [execOp, go_sem]
        exact In4.step hp h12 (by omega) h2 (fresh_alloc z _) (by exact ⟨_, rfl, hp.low.size, _, Blk.new z 97 #[.slice none 0 0, .slice none 0 0, .int .i64 0, .int .i64 0, .slice none 0 0, .int .i64 0, .int .i64 0, .slice none 0 0, .int .i64 0, .int .i64 0, .slice none 0 0, .int .i64 0, .int .i64 0, .slice none 0 0, .int .i64 0, .int .i64 0, .slice none 0 0, .int .i64 0, .int .i64 0, .slice none 0 0, .int .i64 0, .int .i64 0, .slice none 0 0, .int .i64 0, .int .i64 0, .int .i64 0, .int .i64 0, .int .i64 0, .int .i64 0, .int .i64 0], rfl⟩) rfl
      | 12, _ =>
        have dd : ∀ j, j < 12 → l.getD j false = true := by
          have h4 : l.getD 11 false = true ∧ l.getD 10 false = true ∧ l.getD 0 false = true ∧ l.getD 1 false = true ∧ l.getD 2 false = true ∧ l.getD 3 false = true ∧ l.getD 4 false = true ∧ l.getD 5 false = true ∧ l.getD 6 false = true ∧ l.getD 7 false = true ∧ l.getD 8 false = true ∧ l.getD 9 false = true := by
            have h5 : l.getD 11 false = true ∧ l.getD 10 false = true ∧ l.getD 0 false = true ∧ l.getD 1 false = true ∧ l.getD 2 false = true ∧ l.getD 3 false = true ∧ l.getD 4 false = true ∧ l.getD 5 false = true ∧ l.getD 6 false = true ∧ l.getD 7 false = true ∧ l.getD 8 false = true ∧ l.getD 9 false = true ∧ l.getD 10 false = true ∧ l.getD 11 false = true := by simpa [Region.binds, and_assoc] using h3
            obtain ⟨q1, q2, q3, q4, q5, q6, q7, q8, q9, q10, q11, q12, _, _⟩ := h5
            exact ⟨q1, q2, q3, q4, q5, q6, q7, q8, q9, q10, q11, q12⟩
          obtain ⟨g11, g10, g0, g1, g2, g3, g4, g5, g6, g7, g8, g9⟩ := h4
          intro j hj
          match j, hj with
          | 0, _ => exact g0
          | 1, _ => exact g1
          | 2, _ => exact g2
          | 3, _ => exact g3
          | 4, _ => exact g4
          | 5, _ => exact g5
          | 6, _ => exact g6
          | 7, _ => exact g7
          | 8, _ => exact g8
          | 9, _ => exact g9
          | 10, _ => exact g10
          | 11, _ => exact g11
        obtain ⟨b1, b2, b3, e10, z1, z2, z3⟩ : ∃ b1 b2 b3, u 23 = .agg (lyV (b0 + 1) (b0 + 1 + 1 + 1) b1 b2 b3) ∧ Zr z b1 2 ∧ Zr z b2 2 ∧ Zr z b3 2 := EA 10 (by omega) (dd 10 (by omega))
        obtain ⟨b, e11, hb, old, ho, hs⟩ : ∃ b, u 4 = .pointer (some ⟨b, 0, none⟩) ∧ w1.heap.size ≤ b ∧ ∃ old, Blk z b 97 old ∧ old.size = 30 := EA 11 (by omega) (dd 11 (by omega))
        refine wpOp_wp rfl rfl (wp_store_row 97 _ _ rfl b (lyV (b0 + 1) (b0 + 1 + 1 + 1) b1 b2 b3) e11 e10 97 old ho size30 hs (lyV_one _ _ _ _ _) ?_)
        refine .inr ⟨fun j hj => ?_, u, b, b1, b2, b3, rfl, e11, ho.set _, Blk.off z1 _ (Blk.ne z1 ho (by decide)), Blk.off z2 _ (Blk.ne z2 ho (by decide)), Blk.off z3 _ (Blk.ne z3 ho (by decide)), hp.low.grown (row := some b) ⟨rfl, rfl, rfl, by simp [World.setRow], fun k _ hk => setRow_other _ _ _ _ (fun e => hk (by rw [e]))⟩ hp.low.size (fun k e => by cases e; exact hb)⟩
        rw [getD_set l 12 j (by rw [hp.sz]; omega)]
        by_cases ej : j = 12
        · rw [if_pos ej]
        · rw [if_neg ej]
          exact (getD_tf (by rw [hp.sz]; omega) true).2 (dd j (by omega))
    · obtain ⟨h1, h2, _⟩ := ready_of hi
      exact absurd (hf.1 i h1) (by rw [h2]; simp)
  · rintro l a z (⟨h12, u, rfl, hp⟩ | hf) hr
    · exfalso
      have tf : ∀ j, j < 13 → l.getD j true = true → l.getD j false = true := fun j hj h => (getD_tf (by rw [hp.sz]; exact hj) true).1 h
      have q0 := tf 0 (by omega) (not_ready hr (by decide) (by simp))
      have q1 := tf 1 (by omega) (not_ready hr (by decide) (by simp))
      have q2 := tf 2 (by omega) (not_ready hr (by decide) (by simp))
      have q3 := tf 3 (by omega) (not_ready hr (by decide) (by simp))
      have q4 := tf 4 (by omega) (not_ready hr (by decide) (by simp))
      have q5 := tf 5 (by omega) (not_ready hr (by decide) (by simp))
      have q6 := tf 6 (by omega) (not_ready hr (by decide) (by simp))
      have q7 := tf 7 (by omega) (not_ready hr (by decide) (by simp))
      have q8 := tf 8 (by omega) (not_ready hr (by decide) (by simp))
      have q11 := tf 11 (by omega) (not_ready hr (by decide) (by simp))
      have q9 := tf 9 (by omega) (not_ready hr (by decide) (by simp only [Array.getD_eq_getD_getElem?] at q8; simp [Region.binds, q8]))
      have q10 := tf 10 (by omega) (not_ready hr (by decide) (by simp only [Array.getD_eq_getD_getElem?] at q0 q1 q2 q3 q4 q5 q6 q7 q9; simp [Region.binds, q0, q1, q2, q3, q4, q5, q6, q7, q9]))
      have q12 : l.getD 12 true = true := not_ready hr (by decide) (by simp only [Array.getD_eq_getD_getElem?] at q0 q1 q2 q3 q4 q5 q6 q7 q8 q9 q10 q11; simp [Region.binds, q0, q1, q2, q3, q4, q5, q6, q7, q8, q9, q10, q11])
      rw [h12] at q12
      cases q12
    · obtain ⟨_, u, b, b1, b2, b3, rfl, e4, HL, hz1, hz2, hz3, hlow⟩ := hf
      have HLY : Hid (Blk z b 97 (lyA (plLy (b0 + 1) (b0 + 1 + 1 + 1) b1 b2 b3))) := HL
      have FZ := hidd (F1.out.trans (hlow.mono (by have := F1.out.size; have := HB0.out; omega)))
      have HLR : Hid (LyR z (plLy (b0 + 1) (b0 + 1 + 1 + 1) b1 b2 b3) ∧ LyP (plLy (b0 + 1) (b0 + 1 + 1 + 1) b1 b2 b3) 2 2 1 ∧ Zr z b0 6) := ⟨plLy_rd (HZ4.out.fresh hlow) (HZ2.out.fresh hlow) hz1 hz2 hz3, plLy_fits _ _ _ _ _, HZ6.out.fresh hlow⟩
      generalize plLy (b0 + 1) (b0 + 1 + 1 + 1) b1 b2 b3 = ly at HLY HLR
      clear HL hz1 hz2 hz3 hlow HZ6 HZ4 HZ2 HA HB F1 w1
      unfold frA
      go_wp2
      rw [e4]
      refine wp_region_inv (by kernel_rfl) (In5 (.slice (some ⟨b0, 0, none⟩) 6 6) b ly z) ?_ ?_ ?_
      · exact .inl ⟨by simp [Array.getD_eq_getD_getElem?], _, frB_of rfl, rfl, rfl, ⟨by simp, drew_low z, fun i hi hl => absurd hl (by simp [Array.getD_eq_getD_getElem?, hi])⟩⟩
      · rintro l a y (⟨h8, u, rfl, e1, e4, hp⟩ | hf) i hi
        · obtain ⟨h1, h2, h3⟩ := ready_of hi
          have h1' : i < 9 := h1
          clear hi h1
          have EA := fun (j : Nat) (h : j < 9) (k : l.getD j false = true) => hp.at_ j h k
          match i, h1' with
          | 0, _ =>
            refine wpOp_wp rfl rfl (wp_build_of 23 _ rfl cfV (show Try.prog.built 23 [(0, .int .i64 3), (1, .int .i64 2), (2, .int .i64 1), (3, .int .i64 1), (4, .int .i64 1), (5, .int .i64 1), (6, .int .i64 8), (7, .int .i64 1)] = _ from built_c) ?_)
            exact In5.step hp e1 e4 h8 (by omega) h2 (Below.refl _ _) (by exact rfl) rfl
          | 1, _ =>
            refine wpOp_wp rfl rfl (wp_build_of 99 _ rfl trV (show Try.prog.built 99 [(0, .int .i64 16384)] = _ from built_t) ?_)
            exact In5.step hp e1 e4 h8 (by omega) h2 (Below.refl _ _) (by exact rfl) rfl
          | 2, _ =>
            have d1 : l.getD 1 false = true := by simpa [Region.binds] using h3
            have q1 : u 25 = .agg trV := EA 1 (by omega) d1
            refine wpOp_wp rfl rfl (wp_buildTu _ rfl q1 ?_)
            exact In5.step hp e1 e4 h8 (by omega) h2 (fresh_alloc y _) (by exact ⟨_, rfl, Blk.new y 99 trV⟩) rfl
          | 3, _ =>
            refine wpOp_wp rfl rfl (wp_load_mid 97 _ rfl b 0 e4 _ _ (HLY.out.fresh hp.low).range Try.underlying97 rfl size30 ?_)
            exact In5.step hp e1 e4 h8 (by omega) h2 (Below.refl _ _) (by exact rfl) rfl
          | 4, _ =>
            have d1 : l.getD 3 false = true := by simpa [Region.binds] using h3
            have q1 : u 27 = .agg (lyA ly) := EA 3 (by omega) d1
            refine wpOp_wp rfl rfl (wp_buildLyO _ rfl ly q1 ?_)
            exact In5.step hp e1 e4 h8 (by omega) h2 (fresh_alloc y _) (by exact ⟨_, rfl, Blk.new y 97 (lyA ly)⟩) rfl
          | 5, _ =>
            refine wpOp_wp rfl rfl ?_
            unfold Oper.wp
            simp only [execOp, go_sem]
            exact In5.step hp e1 e4 h8 (by omega) h2 (fresh_alloc y _) (by exact ⟨_, rfl, zr_new y 2⟩) rfl
          | 6, _ =>
            have dd : l.getD 0 false = true ∧ l.getD 2 false = true ∧ l.getD 4 false = true ∧ l.getD 5 false = true := by simpa [Region.binds, and_assoc] using h3
            obtain ⟨d0, d2, d4, d5⟩ := dd
            have q0 : u 24 = .agg cfV := EA 0 (by omega) d0
            obtain ⟨c1, q1, z1⟩ : ∃ c, u 26 = .slice (some ⟨c, 0, none⟩) 1 1 ∧ Blk y c 99 trV := EA 2 (by omega) d2
            obtain ⟨c2, q2, z2⟩ : ∃ c, u 28 = .slice (some ⟨c, 0, none⟩) 1 1 ∧ Blk y c 97 (lyA ly) := EA 4 (by omega) d4
            obtain ⟨c3, q3, z3⟩ : ∃ c, u 29 = .slice (some ⟨c, 0, none⟩) 2 2 ∧ Zr y c 2 := EA 5 (by omega) d5
            refine wpOp_wp rfl rfl (wp_build_of 31 _ rfl (wtA (plW ly c1 c2 c3)) ?_ ?_)
            · show Try.prog.built 31 [(0, u 24), (2, u 26), (3, u 28), (4, u 29)] = _
              rw [q0, q1, q2, q3]
              exact built_w ly c1 c2 c3
            · exact In5.step hp e1 e4 h8 (by omega) h2 (Below.refl _ _) (by exact ⟨c1, c2, c3, rfl, z1, z2, z3⟩) rfl
          | 7, _ =>
            refine wpOp_wp rfl rfl ?_
            unfold Oper.wp
            simp only [execOp, go_sem]
            exact In5.step hp e1 e4 h8 (by omega) h2 (fresh_alloc y _) (by exact ⟨_, rfl, hp.low.size, _, Blk.new y 31 #[.int .i64 0, .int .i64 0, .int .i64 0, .int .i64 0, .int .i64 0, .int .i64 0, .int .i64 0, .int .i64 0, .int .i64 0, .int .i64 0, .slice none 0 0, .slice none 0 0, .slice none 0 0, .slice none 0 0, .int .i64 0, .int .i64 0, .slice none 0 0, .slice none 0 0], rfl⟩) rfl
          | 8, _ =>
            have dd : l.getD 7 false = true ∧ l.getD 6 false = true ∧ l.getD 0 false = true ∧ l.getD 1 false = true ∧ l.getD 2 false = true ∧ l.getD 3 false = true ∧ l.getD 4 false = true ∧ l.getD 5 false = true ∧ l.getD 6 false = true ∧ l.getD 7 false = true := by simpa [Region.binds, and_assoc] using h3
            obtain ⟨g7, g6, g0, g1, g2, g3, g4, g5, _, _⟩ := dd
            obtain ⟨c1, c2, c3, q6, z1, z2, z3⟩ : ∃ c1 c2 c3, u 30 = .agg (wtA (plW ly c1 c2 c3)) ∧ Blk y c1 99 trV ∧ Blk y c2 97 (lyA ly) ∧ Zr y c3 2 := EA 6 (by omega) g6
            obtain ⟨c, q7, hb, old, ho, hs⟩ : ∃ c, u 5 = .pointer (some ⟨c, 0, none⟩) ∧ z.heap.size ≤ c ∧ ∃ old, Blk y c 31 old ∧ old.size = 18 := EA 7 (by omega) g7
            refine wpOp_wp rfl rfl (wp_store_row 31 _ _ rfl c (wtA (plW ly c1 c2 c3)) q7 q6 31 old ho sizeW hs (wtA_one _) ?_)
            refine .inr ⟨fun j hj => ?_, u, c, c1, c2, c3, rfl, e1, q7, ho.set _, hb, Blk.off z1 _ (Blk.ne z1 ho (by decide)), Blk.off z2 _ (Blk.ne z2 ho (by decide)), Blk.off z3 _ (Blk.ne z3 ho (by decide)), hp.low.grown (row := some c) ⟨rfl, rfl, rfl, by simp [World.setRow], fun k _ hk => setRow_other _ _ _ _ (fun e => hk (by rw [e]))⟩ hp.low.size (fun k e => by cases e; exact hb)⟩
            rw [getD_set l 8 j (by rw [hp.sz]; omega)]
            by_cases ej : j = 8
            · rw [if_pos ej]
            · rw [if_neg ej]
              refine (getD_tf (by rw [hp.sz]; omega) true).2 ?_
              match j, (show j < 8 by omega) with
              | 0, _ => exact g0
              | 1, _ => exact g1
              | 2, _ => exact g2
              | 3, _ => exact g3
              | 4, _ => exact g4
              | 5, _ => exact g5
              | 6, _ => exact g6
              | 7, _ => exact g7
        · obtain ⟨h1, h2, _⟩ := ready_of hi
          exact absurd (hf.1 i h1) (by rw [h2]; simp)
      · rintro l a y (⟨h8, u, rfl, e1, e4, hp⟩ | hf) hr
        · exfalso
          have tf : ∀ j, j < 9 → l.getD j true = true → l.getD j false = true := fun j hj h => (getD_tf (by rw [hp.sz]; exact hj) true).1 h
          have q0 := tf 0 (by omega) (not_ready hr (by decide) (by simp))
          have q1 := tf 1 (by omega) (not_ready hr (by decide) (by simp))
          have q3 := tf 3 (by omega) (not_ready hr (by decide) (by simp))
          have q5 := tf 5 (by omega) (not_ready hr (by decide) (by simp))
          have q7 := tf 7 (by omega) (not_ready hr (by decide) (by simp))
          have q2 := tf 2 (by omega) (not_ready hr (by decide) (by simp only [Array.getD_eq_getD_getElem?] at q1; simp [Region.binds, q1]))
          have q4 := tf 4 (by omega) (not_ready hr (by decide) (by simp only [Array.getD_eq_getD_getElem?] at q3; simp [Region.binds, q3]))
          have q6 := tf 6 (by omega) (not_ready hr (by decide) (by simp only [Array.getD_eq_getD_getElem?] at q0 q2 q4 q5; simp [Region.binds, q0, q2, q4, q5]))
          have q8 : l.getD 8 true = true := not_ready hr (by decide) (by simp only [Array.getD_eq_getD_getElem?] at q0 q1 q2 q3 q4 q5 q6 q7; simp [Region.binds, q0, q1, q2, q3, q4, q5, q6, q7])
          rw [h8] at q8
          cases q8
        · obtain ⟨_, u, c, c1, c2, c3, rfl, e1, e5, HW, hcb, z1, z2, z3, hlow⟩ := hf
          have HP := hidd (plain_end HW hcb z1 z2 z3 hlow)
          have HX : Hid (∀ (y9 : World) (x9 : WtD) (d1 d2 : Nat), PE z y9 c c1 c2 c3 ly x9 → Blk y9 d1 51 ([.int .i8 2, .int .i8 0, .int .i8 1, .int .i8 0, .int .i8 3, .int .i8 0] : List Value).toArray → Blk y9 d2 26 ([.int .i64 3, .int .i64 2, .slice (some ⟨d1, 0, none⟩) 6 6] : List Value).toArray → Calls Try.prog 28 #[.agg (wtA (plX ly b0 c1 c2 c3 d1 d2))] y9 fun e w' => ∃ x' g, e = .returned (.tuple #[.pointer (some ⟨g, 0, none⟩), .int .i64 0]) ∧ PlP w' x' g ∧ Below y9.heap.size y9 w') := by
            intro y9 x9 d1 d2 h1 h2 h3
            refine (new_ok (plX_rd h1 HLR.out.1 HLR.out.2.2 h2 h3) (plX_may _ _ _ _ _ _ _) (plX_fits HLR.out.2.1 _ _ _ _ _ _)).mono ?_
            rintro e w' ⟨x', g, h4, h5, h6, h7⟩
            exact ⟨plX ly b0 c1 c2 c3 d1 d2, g, h4, ⟨x', h5, plX_may _ _ _ _ _ _ _, plX_fits HLR.out.2.1 _ _ _ _ _ _, rfl, rfl, rfl, fun _ => rfl⟩, h7⟩
          have HFW : Hid (∀ y9, Below z.heap.size z y9 → Below b0 w y9) := fun y9 h9 => FZ.out.trans (h9.mono (by have := FZ.out.size; have := HB0.out; omega))
          clear HLR HW z1 z2 z3 hlow FZ HLY hcb hr
          unfold frB
          rw [e1, e5]
          clear e1 e5
          have fz : ∀ j, y.frozen? ⟨c, j, none⟩ = false := HP.out.row.frozen
          have s8 := HP.out.row.cell (i := 8) (by decide)
          have s9 := HP.out.row.cell (i := 9) (by decide)
          have s10 := HP.out.row.cell (i := 10) (by decide)
          go_upto_region 7 with fail
          have HP1 := hidd (HP.out.put3 8 9 10 _ _ _ (putw_E HP.out.row (plM 3 2 b0 6)))
          clear fz s8 s9 s10 HP
          change Hid (PE z (((y.setCell ⟨c, 8, none⟩ (.int .i64 3)).setCell ⟨c, 9, none⟩ (.int .i64 2)).setCell ⟨c, 10, none⟩ (.slice (some ⟨b0, 0, none⟩) 6 6)) c c1 c2 c3 ly { plW ly c1 c2 c3 with E := plM 3 2 b0 6 }) at HP1
          generalize ((y.setCell ⟨c, 8, none⟩ (.int .i64 3)).setCell ⟨c, 9, none⟩ (.int .i64 2)).setCell ⟨c, 10, none⟩ (.slice (some ⟨b0, 0, none⟩) 6 6) = y1 at *
          have fz : ∀ j, y1.frozen? ⟨c, j, none⟩ = false := HP1.out.row.frozen
          have s8 : y1.cell? ⟨c, 8, none⟩ = some (.int .i64 3) := HP1.out.row.cell (i := 8) (by decide)
          have s9 : y1.cell? ⟨c, 9, none⟩ = some (.int .i64 2) := HP1.out.row.cell (i := 9) (by decide)
          have s10 : y1.cell? ⟨c, 10, none⟩ = some (.slice (some ⟨b0, 0, none⟩) 6 6) := HP1.out.row.cell (i := 10) (by decide)
          have s14 := HP1.out.row.cell (i := 14) (by decide)
          have s15 := HP1.out.row.cell (i := 15) (by decide)
          have s16 := HP1.out.row.cell (i := 16) (by decide)
          go_upto_region 8 with fail
          have HP2 := hidd (HP1.out.put3 14 15 16 _ _ _ (putw_Q HP1.out.row (plM 3 2 b0 6)))
          clear fz s8 s9 s10 s14 s15 s16 HP1
          change Hid (PE z (((y1.setCell ⟨c, 14, none⟩ (.int .i64 3)).setCell ⟨c, 15, none⟩ (.int .i64 2)).setCell ⟨c, 16, none⟩ (.slice (some ⟨b0, 0, none⟩) 6 6)) c c1 c2 c3 ly { plW ly c1 c2 c3 with E := plM 3 2 b0 6, Q := plM 3 2 b0 6 }) at HP2
          generalize ((y1.setCell ⟨c, 14, none⟩ (.int .i64 3)).setCell ⟨c, 15, none⟩ (.int .i64 2)).setCell ⟨c, 16, none⟩ (.slice (some ⟨b0, 0, none⟩) 6 6) = y2 at *
          have HP3 := hidd ((HP2.out.fresh (fresh_alloc y2 (.cells #[.int .i8 2, .int .i8 0, .int .i8 1, .int .i8 0, .int .i8 3, .int .i8 0] 51))).fresh (fresh_alloc _ (.cells #[.int .i64 3, .int .i64 2, .slice (some ⟨y2.heap.size, 0, none⟩) 6 6] 26)))
          have HM1 := hidd ((Blk.new y2 51 #[.int .i8 2, .int .i8 0, .int .i8 1, .int .i8 0, .int .i8 3, .int .i8 0]).fresh (fresh_alloc _ (.cells #[.int .i64 3, .int .i64 2, .slice (some ⟨y2.heap.size, 0, none⟩) 6 6] 26)))
          have HM2 : Hid (Blk ((y2.alloc (.cells #[.int .i8 2, .int .i8 0, .int .i8 1, .int .i8 0, .int .i8 3, .int .i8 0] 51)).alloc (.cells #[.int .i64 3, .int .i64 2, .slice (some ⟨y2.heap.size, 0, none⟩) 6 6] 26)) (y2.heap.size + 1) 26 #[.int .i64 3, .int .i64 2, .slice (some ⟨y2.heap.size, 0, none⟩) 6 6]) := by
            have := Blk.new (y2.alloc (.cells #[.int .i8 2, .int .i8 0, .int .i8 1, .int .i8 0, .int .i8 3, .int .i8 0] 51)) 26 #[.int .i64 3, .int .i64 2, .slice (some ⟨y2.heap.size, 0, none⟩) 6 6]
            simp only [World.size_alloc] at this
            exact this
          have fz : ∀ j, ((y2.alloc (.cells #[.int .i8 2, .int .i8 0, .int .i8 1, .int .i8 0, .int .i8 3, .int .i8 0] 51)).alloc (.cells #[.int .i64 3, .int .i64 2, .slice (some ⟨y2.heap.size, 0, none⟩) 6 6] 26)).frozen? ⟨c, j, none⟩ = false := HP3.out.row.frozen
          have s17 : ((y2.alloc (.cells #[.int .i8 2, .int .i8 0, .int .i8 1, .int .i8 0, .int .i8 3, .int .i8 0] 51)).alloc (.cells #[.int .i64 3, .int .i64 2, .slice (some ⟨y2.heap.size, 0, none⟩) 6 6] 26)).cell? ⟨c, 17, none⟩ = some (.slice none 0 0) := HP3.out.row.cell (i := 17) (by decide)
          go_upto_region 9 with fail
          have hne1 : y2.heap.size ≠ c := by have := HP2.out.row.lt; omega
          have hne2 : y2.heap.size + 1 ≠ c := by have := HP2.out.row.lt; omega
          have HP4 := hidd (HP3.out.put1 17 _ (putw_M HP3.out.row (some ⟨y2.heap.size + 1, 0, none⟩) 1 1 (fun _ => ⟨3, 2, some ⟨y2.heap.size, 0, none⟩, 6, 6, hdF⟩)))
          have HN1 := hidd (HM1.out.setc (c := c) 17 (.slice (some ⟨y2.heap.size + 1, 0, none⟩) 1 1) hne1)
          have HN2 := hidd (HM2.out.setc (c := c) 17 (.slice (some ⟨y2.heap.size + 1, 0, none⟩) 1 1) hne2)
          clear fz s17 HP3 HM1 HM2 HP2
          generalize ((y2.alloc (.cells #[.int .i8 2, .int .i8 0, .int .i8 1, .int .i8 0, .int .i8 3, .int .i8 0] 51)).alloc (.cells #[.int .i64 3, .int .i64 2, .slice (some ⟨y2.heap.size, 0, none⟩) 6 6] 26)).setCell ⟨c, 17, none⟩ (.slice (some ⟨y2.heap.size + 1, 0, none⟩) 1 1) = y4 at *
          have HCN := hidd (HX.out y4 _ y2.heap.size (y2.heap.size + 1) HP4.out HN1.out HN2.out)
          have F4 := hidd (HFW.out y4 HP4.out.low)
          obtain ⟨T, hT⟩ : ∃ T, T = wtA (plX ly b0 c1 c2 c3 y2.heap.size (y2.heap.size + 1)) := ⟨_, rfl⟩
          have RG : Hid (y4.rangeAt c 0 T.toList) := by rw [hT]; exact row_range HP4.out.row rfl
          have SL : Hid ((Try.prog.info? 31).map (·.size) = some T.toList.length) := by rw [hT]; exact sizeW
          rw [← hT] at HCN
          clear hT HX HFW HN1 HN2 HP4
          go_wp2_with (refine wpList_load_mid rfl 31 _ rfl c 0 rfl T.toList _ RG.out Try.underlying31 rfl SL.out ?_)
          refine HCN.out.mono ?_
          rintro e w9 ⟨x', g, rfl, hx', f9⟩
          have HX9 := hidd hx'
          have F9 := hidd (F4.out.trans (f9.mono (by have := F4.out.size; have := HB0.out; omega)))
          clear hx' f9 HCN RG SL F4
          go_wp2
          go_ret
          exact ⟨x', g, rfl, HX9.out, (by rw [HB0.out]; exact F9.out)⟩
end Go.Proofs.Ytjjnfpeeipainaa
