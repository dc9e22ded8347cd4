import Derived.Test.YtaalinlggjimcaaOwn
import Derived.Lib.LazyBuf
import Derived.Lib.SliceRun
import Derived.Laws.IdiomCopy
import Derived.Deep.RegionLaw
namespace Go.Proofs.Ytaalinlggjimcaa
open Go.RowKit
/-! The pool in memory: its block, its counts, its numbers; what calls may change; copy and clear on rows. -/
/-- What a call may have changed among the blocks that were there: those of S alone. -/
structure Chg (w w' : World) (S : Nat → Prop) : Prop where
  low : Below 0 w w'
  block : ∀ b, b < w.heap.size → ¬ S b → w'.heap[b]? = w.heap[b]?
theorem Chg.size {w w' : World} {S : Nat → Prop} (h : Chg w w' S) : w.heap.size ≤ w'.heap.size := h.low.size
theorem Chg.trans {a b c : World} {S T : Nat → Prop} (h : Chg a b S) (k : Chg b c T) (hT : ∀ x, x < a.heap.size → T x → S x) : Chg a c S :=
  ⟨h.low.trans k.low, fun x hx hS => (k.block x (Nat.lt_of_lt_of_le hx h.low.size) (fun t => hS (hT x hx t))).trans (h.block x hx hS)⟩
theorem Chg.of_below {w w' : World} (S : Nat → Prop) (f : Below w.heap.size w w') : Chg w w' S := ⟨⟨f.os, f.tape, f.output, f.size, fun _ h => absurd h (by omega)⟩, fun b hb _ => f.block b hb⟩
theorem Chg.of_app {w w' : World} {v v' : Value} (h : App w w' v v') : Chg w w' (fun b => v.ownBlock = some b) := ⟨⟨h.grown.os, h.grown.tape, h.grown.output, h.grown.size, fun _ h => absurd h (by omega)⟩, fun b hb hS => h.grown.block b hb (fun e => hS e.symm)⟩
theorem Chg.of_set (w : World) (g j : Nat) (x : Value) : Chg w (w.setCell ⟨g, j, none⟩ x) (fun b => b = g) := ⟨(Below.refl 0 w).setCell (Nat.zero_le _) _, fun _ _ hS => Below.heap_setCell _ _ _ _ hS⟩
theorem Chg.refl (w : World) (S : Nat → Prop) : Chg w w S := Chg.of_below S (Below.refl _ _)
theorem Chg.imp {w w' : World} {S T : Nat → Prop} (h : Chg w w' S) (k : ∀ b, b < w.heap.size → S b → T b) : Chg w w' T := ⟨h.low, fun b hb hT => h.block b hb (fun s => hT (k b hb s))⟩
theorem Chg.pre {a b c : World} {S : Nat → Prop} (f : Below a.heap.size a b) (h : Chg b c S) : Chg a c S := (Chg.of_below S f).trans h (fun _ _ t => t)
theorem Chg.post {a b c : World} {S : Nat → Prop} (h : Chg a b S) (f : Below b.heap.size b c) : Chg a c S := h.trans (Chg.of_below (fun _ => False) f) (fun _ _ t => t.elim)
theorem Chg.row {w w' : World} {S : Nat → Prop} (h : Chg w w' S) {b n : Nat} {t : TypeId} {F : Nat → Value} (hr : w.rowIs b t n F) (hb : ¬ S b) : w'.rowIs b t n F := hr.of_block (h.block b hr.lt hb)
theorem Chg.of_setCells (g : Nat) : ∀ (vs : List Value) (o : Nat) (w : World), Chg w (w.setCells g o vs) (fun b => b = g)
  | [], _, w => Chg.refl w _
  | v :: r, o, w => (Chg.of_set w g o v).trans (Chg.of_setCells g r (o + 1) _) (fun _ _ t => t)
theorem Chg.below {w w' : World} {S : Nat → Prop} (h : Chg w w' S) {B : Nat} {a : World} (hb : Below B a w) (hB : B ≤ w.heap.size) (hS : ∀ x, S x → B ≤ x) : Below B a w' :=
  hb.trans ⟨h.low.os, h.low.tape, h.low.output, h.low.size, fun k hk => h.block k (by omega) (fun s => by have := hS k s; omega)⟩
/-- 'Own' is kept where the list's block is. -/
theorem Own.chg {w w' : World} {S : Nat → Prop} (c : Chg w w' S) {base : Nat} {e : TypeId} {sz : Nat} {v : Value} {n : Nat} {cs : Nat → Value} (h : Own w base e sz v n cs) (hS : ∀ b, v.ownBlock = some b → ¬ S b) : Own w' base e sz v n cs := by
  refine ⟨h.1, ?_⟩
  rcases h.2 with hn | ⟨g, cap, cur, rfl, hb, hgg, rest⟩
  · exact .inl hn
  · refine .inr ⟨g, cap, cur, rfl, hb, ?_, rest⟩
    rw [c.block g (Array.getElem?_eq_some_iff.1 hgg).1 (hS g (by simp [Value.ownBlock]))]; exact hgg
/-- 'copy' onto a row. -/
theorem setCells_cells {w : World} {g : Nat} {t : TypeId} {n : Nat} {f : Nat → Value} (hr : w.rowIs g t n f) (off k : Nat) (v : Nat → Value) :
    (w.setCells g off ((List.range k).map v)).rowIs g t n (fun j => if off ≤ j ∧ j < off + k then v (j - off) else f j) :=
  (rowIs_setCells ((List.range k).map v) off w f hr).congr (fun j _ => by
    by_cases h : off ≤ j ∧ j < off + k
    · have : j - off < k := by omega
      simp [h, this]
    · simp [h])
theorem copy_run {P : Program} {w : World} (dT sT ty elem : TypeId) (hu : P.underlying dT = some (.slice elem)) (hsz : (P.info? elem).map (·.size) = some 1)
    {g off dLen dCap sb so sLen sCap k : Nat} (hk : k = Nat.min sLen dLen) {t : TypeId} {n : Nat} {f : Nat → Value} (hr : w.rowIs g t n f) (hfit : off + k ≤ n) (v : Nat → Value) (hv : ∀ j, j < k → w.cell? ⟨sb, so + j, none⟩ = some (v j)) (h1 : ∀ j, j < k → (v j).oneCell' = true) :
    (Builtin.copy_ #[dT, sT] ty #[.slice (some ⟨g, off, none⟩) dLen dCap, .slice (some ⟨sb, so, none⟩) sLen sCap]).run P w = .ok (goInt k) (w.setCells g off ((List.range k).map v)) := by
  have := run_copy_cells (P := P) w dT sT ty elem g off dLen dCap ⟨sb, so, none⟩ sLen sCap ((List.range k).map v) hu hsz (by simpa using hk)
    (fun j u hj => by
      by_cases hjk : j < k
      · simp [hjk] at hj
        have e : (⟨sb, so, none⟩ : Addr).add j = ⟨sb, so + j, none⟩ := by unfold Addr.add; split <;> simp_all
        rw [e, hv j hjk, hj]
      · simp [hjk] at hj)
    (fun j hj => by simp at hj; rw [hr.cell (by omega)]; rfl) (fun j _ => hr.frozen _) (fun u hu => by
      obtain ⟨j, hj, rfl⟩ := List.mem_map.1 hu
      exact h1 j (List.mem_range.1 hj))
  simpa using this
theorem wpList_copyR {P : Program} {w : World} {ops : Array Oper} {rest : List Oper} {o : Oper} {a : Act} {Q : Exit → Act → World → Prop} (hgd : o.guard = none) (d s : Operand) (dT sT : TypeId)
    (ho : o.op = .call { callee := .builtin .copy, args := #[d, s], argTypes := #[dT, sT] }) (elem : TypeId) (hu : P.underlying dT = some (.slice elem)) (hsz : (P.info? elem).map (·.size) = some 1)
    (g off dLen dCap sb so sLen sCap k : Nat) (hd : a.eval d = .slice (some ⟨g, off, none⟩) dLen dCap) (hs : a.eval s = .slice (some ⟨sb, so, none⟩) sLen sCap) (hk : k = Nat.min sLen dLen)
    (t : TypeId) (n : Nat) (f : Nat → Value) (hr : w.rowIs g t n f) (hfit : off + k ≤ n) (v : Nat → Value) (hv : ∀ j, j < k → w.cell? ⟨sb, so + j, none⟩ = some (v j)) (h1 : ∀ j, j < k → (v j).oneCell' = true)
    (h : ∀ w', w'.rowIs g t n (fun j => if off ≤ j ∧ j < off + k then v (j - off) else f j) → Chg w w' (fun b => b = g) → wpList P ops Q rest (a.put o.dst (goInt k)) w') : wpList P ops Q (o :: rest) a w := by
  refine wpList_plain hgd fun K hK => ?_
  have hrun := copy_run (P := P) (w := w) dT sT o.type elem hu hsz (dCap := dCap) (sCap := sCap) hk hr hfit v hv h1
  unfold Oper.wp
  simp [execOp, ho, resolve, invoke, builtin, hd, hs, hrun, Result.andThen]
  exact hK _ _ (h _ (setCells_cells hr off k v) (Chg.of_setCells g _ _ _))
theorem step_copyR {P : Program} {ops : Array Oper} {o : Oper} {a : Act} {w : World} {K : Act → World → Prop} {Q : Exit → Act → World → Prop} {E : Prop} (hgd : o.guard = none) (d s : Operand) (dT sT : TypeId)
    (ho : o.op = .call { callee := .builtin .copy, args := #[d, s], argTypes := #[dT, sT] }) (elem : TypeId) (hu : P.underlying dT = some (.slice elem)) (hsz : (P.info? elem).map (·.size) = some 1)
    (g off dLen dCap sb so sLen sCap k : Nat) (hd : a.eval d = .slice (some ⟨g, off, none⟩) dLen dCap) (hs : a.eval s = .slice (some ⟨sb, so, none⟩) sLen sCap) (hk : k = Nat.min sLen dLen)
    (t : TypeId) (n : Nat) (f : Nat → Value) (hr : w.rowIs g t n f) (hfit : off + k ≤ n) (v : Nat → Value) (hv : ∀ j, j < k → w.cell? ⟨sb, so + j, none⟩ = some (v j)) (h1 : ∀ j, j < k → (v j).oneCell' = true)
    (h : ∀ w', w'.rowIs g t n (fun j => if off ≤ j ∧ j < off + k then v (j - off) else f j) → Chg w w' (fun b => b = g) → K (a.put o.dst (goInt k)) w') :
    if Region.wanted o (yielded ops a.tmps) = true then Oper.wp P o a w K Q else E := by
  have hw : Region.wanted o (yielded ops a.tmps) = true := by simp [Region.wanted, hgd]
  rw [if_pos hw]
  have hrun := copy_run (P := P) (w := w) dT sT o.type elem hu hsz (dCap := dCap) (sCap := sCap) hk hr hfit v hv h1
  unfold Oper.wp
  simp [execOp, ho, resolve, invoke, builtin, hd, hs, hrun, Result.andThen]
  exact h _ (setCells_cells hr off k v) (Chg.of_setCells g _ _ _)
/-- 'clear' of a piece of a row. -/
theorem wpList_clearR {P : Program} {w : World} {ops : Array Oper} {rest : List Oper} {o : Oper} {a : Act} {Q : Exit → Act → World → Prop} (hgd : o.guard = none) (d : Operand) (dT : TypeId)
    (ho : o.op = .call { callee := .builtin .clear, args := #[d], argTypes := #[dT] }) (elem : TypeId) (hu : P.underlying dT = some (.slice elem)) (z : Value) (hz : ∀ w, (zeroValue elem).run P w = .ok z w) (hz1 : z.cells = #[z]) (hz2 : z.oneCell' = true)
    (g off k c : Nat) (hd : a.eval d = .slice (some ⟨g, off, none⟩) k c) (hk : 0 < k) (t : TypeId) (n : Nat) (f : Nat → Value) (hr : w.rowIs g t n f) (hfit : off + k ≤ n)
    (h : ∀ w', w'.rowIs g t n (fun j => if off ≤ j ∧ j < off + k then z else f j) → Chg w w' (fun b => b = g) → wpList P ops Q rest (a.put o.dst (.tuple #[])) w') : wpList P ops Q (o :: rest) a w := by
  refine wpList_plain hgd fun K hK => ?_
  have hrun := Lib.run_clear_slice (P := P) w dT elem o.type z hu hz hz1 hz2 g off k c hk (fun j hj => by rw [hr.cell (by omega)]; rfl) (fun j _ => hr.frozen _)
  unfold Oper.wp
  simp [execOp, ho, resolve, invoke, builtin, hd, hrun, Result.andThen]
  refine hK _ _ (h _ ?_ (Chg.of_setCells g _ _ _))
  refine (rowIs_setCells (List.replicate k z) off w f hr).congr (fun j _ => ?_)
  by_cases hj : off ≤ j ∧ j < off + k
  · have : j - off < k := by omega
    simp [hj, this]
  · simp [hj]
/-! how many are free -/
def freeN (cnt : Nat → Nat) : Nat → Nat
  | 0 => 0
  | n + 1 => freeN cnt n + (if cnt n = 0 then 1 else 0)
def updN (f : Nat → Nat) (b x : Nat) : Nat → Nat := fun i => if i = b then x else f i
theorem updN_at (f : Nat → Nat) (b x : Nat) : updN f b x b = x := if_pos rfl
theorem updN_ne (f : Nat → Nat) {b i : Nat} (x : Nat) (h : i ≠ b) : updN f b x i = f i := if_neg h
theorem freeN_le (cnt : Nat → Nat) : ∀ n, freeN cnt n ≤ n
  | 0 => Nat.le_refl _
  | n + 1 => by have := freeN_le cnt n; unfold freeN; split <;> omega
theorem freeN_congr {f g : Nat → Nat} : ∀ n, (∀ i, i < n → (f i = 0 ↔ g i = 0)) → freeN f n = freeN g n
  | 0, _ => rfl
  | n + 1, h => by
    unfold freeN
    rw [freeN_congr n (fun i hi => h i (by omega))]
    have := h n (by omega)
    by_cases e : f n = 0
    · rw [if_pos e, if_pos (this.1 e)]
    · rw [if_neg e, if_neg (fun k => e (this.2 k))]
theorem freeN_pos {cnt : Nat → Nat} : ∀ {n : Nat}, 0 < freeN cnt n → ∃ b, b < n ∧ cnt b = 0
  | 0, h => absurd h (by simp [freeN])
  | n + 1, h => by
    by_cases e : cnt n = 0
    · exact ⟨n, by omega, e⟩
    · unfold freeN at h
      rw [if_neg e] at h
      obtain ⟨b, hb, hc⟩ := freeN_pos (n := n) h
      exact ⟨b, by omega, hc⟩
theorem freeN_upd {cnt : Nat → Nat} {b : Nat} (x : Nat) : ∀ {n : Nat}, b < n → freeN (updN cnt b x) n + (if cnt b = 0 then 1 else 0) = freeN cnt n + (if x = 0 then 1 else 0)
  | 0, h => absurd h (by omega)
  | n + 1, h => by
    unfold freeN
    by_cases e : b = n
    · subst e
      rw [freeN_congr b (fun i hi => by rw [updN_ne _ _ (by omega)]), updN_at]
      omega
    · have := freeN_upd (cnt := cnt) x (n := n) (b := b) (by omega)
      rw [updN_ne _ _ (by omega : n ≠ b)]
      omega
theorem freeN_take {cnt : Nat → Nat} {b x n : Nat} (hb : b < n) (h0 : cnt b = 0) (hx : x ≠ 0) : freeN (updN cnt b x) n + 1 = freeN cnt n := by
  have := freeN_upd (cnt := cnt) x hb
  rw [if_pos h0, if_neg hx] at this
  omega
theorem freeN_zero : ∀ n, freeN (fun _ => 0) n = n
  | 0 => rfl
  | n + 1 => by unfold freeN; rw [freeN_zero n]; simp
theorem freeN_none {cnt : Nat → Nat} : ∀ {n : Nat}, (∀ b, b < n → cnt b ≠ 0) → freeN cnt n = 0
  | 0, _ => rfl
  | n + 1, h => by unfold freeN; rw [freeN_none (fun b hb => h b (by omega)), if_neg (h n (by omega))]
/-- the pool's block -/
def five (a b c d e : Value) : Nat → Value := fun i => match i with | 0 => a | 1 => b | 2 => c | 3 => d | _ => e
structure PoolAt (w : World) (g cb nb L W B S : Nat) (cnt : Nat → Nat) (num : Nat → Int) : Prop where
  row : w.rowIs g 92 5 (five (.int .i64 L) (.int .i64 W) (.int .i64 S) (.slice (some ⟨cb, 0, none⟩) B B) (.slice (some ⟨nb, 0, none⟩) (B * S * (L * 2 * W)) (B * S * (L * 2 * W))))
  cnts : w.rowIs cb 3 B (fun i => .int .i64 (cnt i))
  nums : w.rowIs nb 118 (B * S * (L * 2 * W)) (fun i => .int .i8 (num i))
  gc : g ≠ cb
  gn : g ≠ nb
  cn : cb ≠ nb
  hL : 1 ≤ L ∧ L ≤ 4
  hW : 1 ≤ W ∧ W ≤ 32
  hB : 1 ≤ B ∧ B ≤ 256
  hS : 1 ≤ S ∧ S ≤ 16
theorem PoolAt.chg {w w' : World} {g cb nb L W B S : Nat} {cnt : Nat → Nat} {num : Nat → Int} (h : PoolAt w g cb nb L W B S cnt num) {T : Nat → Prop} (c : Chg w w' T) (h1 : ¬ T g) (h2 : ¬ T cb) (h3 : ¬ T nb) : PoolAt w' g cb nb L W B S cnt num :=
  ⟨c.row h.row h1, c.row h.cnts h2, c.row h.nums h3, h.gc, h.gn, h.cn, h.hL, h.hW, h.hB, h.hS⟩
theorem PoolAt.fresh {w w' : World} {g cb nb L W B S : Nat} {cnt : Nat → Nat} {num : Nat → Int} (h : PoolAt w g cb nb L W B S cnt num) (f : Below w.heap.size w w') : PoolAt w' g cb nb L W B S cnt num := h.chg (Chg.of_below (fun _ => False) f) id id id
theorem PoolAt.cells {w : World} {g cb nb L W B S : Nat} {cnt : Nat → Nat} {num : Nat → Int} (h : PoolAt w g cb nb L W B S cnt num) :
    w.cell? ⟨g, 0, none⟩ = some (.int .i64 L) ∧ w.cell? ⟨g, 1, none⟩ = some (.int .i64 W) ∧ w.cell? ⟨g, 2, none⟩ = some (.int .i64 S) ∧ w.cell? ⟨g, 3, none⟩ = some (.slice (some ⟨cb, 0, none⟩) B B) ∧ w.cell? ⟨g, 4, none⟩ = some (.slice (some ⟨nb, 0, none⟩) (B * S * (L * 2 * W)) (B * S * (L * 2 * W))) :=
  ⟨h.row.cell (i := 0) (by decide), h.row.cell (i := 1) (by decide), h.row.cell (i := 2) (by decide), h.row.cell (i := 3) (by decide), h.row.cell (i := 4) (by decide)⟩
end Go.Proofs.Ytaalinlggjimcaa
