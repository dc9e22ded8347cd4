import Derived.Test.YtmhjpfjhppcfoaaGreatDoorMA
import Derived.Lib.LazyBuf
import Derived.Lib.SliceRun
import Derived.Laws.IdiomCopy
import Derived.Deep.RegionLaw
import Derived.Deep.RegionHeld3
import Derived.Deep.DrawnRows
namespace Go.Proofs.YtmhjpfjhppcfoaaGreatDoor
open Go.RowKit
/-! The pool in memory: its block, its counts, its numbers; what calls may change; copy and clear on rows. -/
/-- What a call may have changed among the blocks that were there: those of S alone. -/
structure Chg (w w' : World) (S : Nat → Prop) : Prop where
  low : Below 0 w w'
  block : ∀ b, b < w.heap.size → ¬ S b → w'.heap[b]? = w.heap[b]?
theorem Chg.size {w w' : World} {S : Nat → Prop} (h : Chg w w' S) : w.heap.size ≤ w'.heap.size := h.low.size
theorem Chg.trans {a b c : World} {S T : Nat → Prop} (h : Chg a b S) (k : Chg b c T) (hT : ∀ x, x < a.heap.size → T x → S x) : Chg a c S :=
  ⟨h.low.trans k.low, fun x hx hS => (k.block x (Nat.lt_of_lt_of_le hx h.low.size) (fun t => hS (hT x hx t))).trans (h.block x hx hS)⟩
theorem Chg.of_below {w w' : World} (S : Nat → Prop) (f : Below w.heap.size w w') : Chg w w' S := ⟨⟨f.os, f.tape, f.output, f.size, fun _ h => absurd h (by omega)⟩, fun b hb _ => f.block b hb⟩
theorem Chg.of_app {w w' : World} {v v' : Value} (h : App w w' v v') : Chg w w' (fun b => v.ownBlock = some b) := ⟨⟨h.grown.os, h.grown.tape, h.grown.output, h.grown.size, fun _ h => absurd h (by omega)⟩, fun b hb hS => h.grown.block b hb (fun e => hS e.symm)⟩
theorem Chg.of_set (w : World) (g j : Nat) (x : Value) : Chg w (w.setCell ⟨g, j, none⟩ x) (fun b => b = g) := ⟨(Below.refl 0 w).setCell (Nat.zero_le _) _, fun _ _ hS => Below.heap_setCell _ _ _ _ hS⟩
theorem Chg.refl (w : World) (S : Nat → Prop) : Chg w w S := Chg.of_below S (Below.refl _ _)
theorem Chg.imp {w w' : World} {S T : Nat → Prop} (h : Chg w w' S) (k : ∀ b, b < w.heap.size → S b → T b) : Chg w w' T := ⟨h.low, fun b hb hT => h.block b hb (fun s => hT (k b hb s))⟩
theorem Chg.pre {a b c : World} {S : Nat → Prop} (f : Below a.heap.size a b) (h : Chg b c S) : Chg a c S := (Chg.of_below S f).trans h (fun _ _ t => t)
theorem Chg.post {a b c : World} {S : Nat → Prop} (h : Chg a b S) (f : Below b.heap.size b c) : Chg a c S := h.trans (Chg.of_below (fun _ => False) f) (fun _ _ t => t.elim)
theorem Chg.row {w w' : World} {S : Nat → Prop} (h : Chg w w' S) {b n : Nat} {t : TypeId} {F : Nat → Value} (hr : w.rowIs b t n F) (hb : ¬ S b) : w'.rowIs b t n F := hr.of_block (h.block b hr.lt hb)
theorem Chg.of_setCells (g : Nat) : ∀ (vs : List Value) (o : Nat) (w : World), Chg w (w.setCells g o vs) (fun b => b = g)
  | [], _, w => Chg.refl w _
  | v :: r, o, w => (Chg.of_set w g o v).trans (Chg.of_setCells g r (o + 1) _) (fun _ _ t => t)
theorem Chg.below {w w' : World} {S : Nat → Prop} (h : Chg w w' S) {B : Nat} {a : World} (hb : Below B a w) (hB : B ≤ w.heap.size) (hS : ∀ x, S x → B ≤ x) : Below B a w' :=
  hb.trans ⟨h.low.os, h.low.tape, h.low.output, h.low.size, fun k hk => h.block k (by omega) (fun s => by have := hS k s; omega)⟩
/-- 'Own' is kept where the list's block is. -/
theorem Own.chg {w w' : World} {S : Nat → Prop} (c : Chg w w' S) {base : Nat} {e : TypeId} {sz : Nat} {v : Value} {n : Nat} {cs : Nat → Value} (h : Own w base e sz v n cs) (hS : ∀ b, v.ownBlock = some b → ¬ S b) : Own w' base e sz v n cs := by
  refine ⟨h.1, ?_⟩
  rcases h.2 with hn | ⟨g, cap, cur, rfl, hb, hgg, rest⟩
  · exact .inl hn
  · refine .inr ⟨g, cap, cur, rfl, hb, ?_, rest⟩
    rw [c.block g (Array.getElem?_eq_some_iff.1 hgg).1 (hS g (by simp [Value.ownBlock]))]; exact hgg
/-- 'copy' onto a row. -/
theorem setCells_cells {w : World} {g : Nat} {t : TypeId} {n : Nat} {f : Nat → Value} (hr : w.rowIs g t n f) (off k : Nat) (v : Nat → Value) :
    (w.setCells g off ((List.range k).map v)).rowIs g t n (fun j => if off ≤ j ∧ j < off + k then v (j - off) else f j) :=
  (rowIs_setCells ((List.range k).map v) off w f hr).congr (fun j _ => by
    by_cases h : off ≤ j ∧ j < off + k
    · have : j - off < k := by omega
      simp [h, this]
    · simp [h])
theorem copy_run {P : Program} {w : World} (dT sT ty elem : TypeId) (hu : P.underlying dT = some (.slice elem)) (hsz : (P.info? elem).map (·.size) = some 1)
    {g off dLen dCap sb so sLen sCap k : Nat} (hk : k = Nat.min sLen dLen) {t : TypeId} {n : Nat} {f : Nat → Value} (hr : w.rowIs g t n f) (hfit : off + k ≤ n) (v : Nat → Value) (hv : ∀ j, j < k → w.cell? ⟨sb, so + j, none⟩ = some (v j)) (h1 : ∀ j, j < k → (v j).oneCell' = true) :
    (Builtin.copy_ #[dT, sT] ty #[.slice (some ⟨g, off, none⟩) dLen dCap, .slice (some ⟨sb, so, none⟩) sLen sCap]).run P w = .ok (goInt k) (w.setCells g off ((List.range k).map v)) := by
  have := run_copy_cells (P := P) w dT sT ty elem g off dLen dCap ⟨sb, so, none⟩ sLen sCap ((List.range k).map v) hu hsz (by simpa using hk)
    (fun j u hj => by
      by_cases hjk : j < k
      · simp [hjk] at hj
        have e : (⟨sb, so, none⟩ : Addr).add j = ⟨sb, so + j, none⟩ := by unfold Addr.add; split <;> simp_all
        rw [e, hv j hjk, hj]
      · simp [hjk] at hj)
    (fun j hj => by simp at hj; rw [hr.cell (by omega)]; rfl) (fun j _ => hr.frozen _) (fun u hu => by
      obtain ⟨j, hj, rfl⟩ := List.mem_map.1 hu
      exact h1 j (List.mem_range.1 hj))
  simpa using this
theorem wpList_copyR {P : Program} {w : World} {ops : Array Oper} {rest : List Oper} {o : Oper} {a : Act} {Q : Exit → Act → World → Prop} (hgd : o.guard = none) (d s : Operand) (dT sT : TypeId)
    (ho : o.op = .call { callee := .builtin .copy, args := #[d, s], argTypes := #[dT, sT] }) (elem : TypeId) (hu : P.underlying dT = some (.slice elem)) (hsz : (P.info? elem).map (·.size) = some 1)
    (g off dLen dCap sb so sLen sCap k : Nat) (hd : a.eval d = .slice (some ⟨g, off, none⟩) dLen dCap) (hs : a.eval s = .slice (some ⟨sb, so, none⟩) sLen sCap) (hk : k = Nat.min sLen dLen)
    (t : TypeId) (n : Nat) (f : Nat → Value) (hr : w.rowIs g t n f) (hfit : off + k ≤ n) (v : Nat → Value) (hv : ∀ j, j < k → w.cell? ⟨sb, so + j, none⟩ = some (v j)) (h1 : ∀ j, j < k → (v j).oneCell' = true)
    (h : ∀ w', w'.rowIs g t n (fun j => if off ≤ j ∧ j < off + k then v (j - off) else f j) → Chg w w' (fun b => b = g) → wpList P ops Q rest (a.put o.dst (goInt k)) w') : wpList P ops Q (o :: rest) a w := by
  refine wpList_plain hgd fun K hK => ?_
  have hrun := copy_run (P := P) (w := w) dT sT o.type elem hu hsz (dCap := dCap) (sCap := sCap) hk hr hfit v hv h1
  unfold Oper.wp
  simp [execOp, ho, resolve, invoke, builtin, hd, hs, hrun, Result.andThen]
  exact hK _ _ (h _ (setCells_cells hr off k v) (Chg.of_setCells g _ _ _))
theorem step_copyR {P : Program} {ops : Array Oper} {o : Oper} {a : Act} {w : World} {K : Act → World → Prop} {Q : Exit → Act → World → Prop} {E : Prop} (hgd : o.guard = none) (d s : Operand) (dT sT : TypeId)
    (ho : o.op = .call { callee := .builtin .copy, args := #[d, s], argTypes := #[dT, sT] }) (elem : TypeId) (hu : P.underlying dT = some (.slice elem)) (hsz : (P.info? elem).map (·.size) = some 1)
    (g off dLen dCap sb so sLen sCap k : Nat) (hd : a.eval d = .slice (some ⟨g, off, none⟩) dLen dCap) (hs : a.eval s = .slice (some ⟨sb, so, none⟩) sLen sCap) (hk : k = Nat.min sLen dLen)
    (t : TypeId) (n : Nat) (f : Nat → Value) (hr : w.rowIs g t n f) (hfit : off + k ≤ n) (v : Nat → Value) (hv : ∀ j, j < k → w.cell? ⟨sb, so + j, none⟩ = some (v j)) (h1 : ∀ j, j < k → (v j).oneCell' = true)
    (h : ∀ w', w'.rowIs g t n (fun j => if off ≤ j ∧ j < off + k then v (j - off) else f j) → Chg w w' (fun b => b = g) → K (a.put o.dst (goInt k)) w') :
    if Region.wanted o (yielded ops a.tmps) = true then Oper.wp P o a w K Q else E := by
  have hw : Region.wanted o (yielded ops a.tmps) = true := by simp [Region.wanted, hgd]
  rw [if_pos hw]
  have hrun := copy_run (P := P) (w := w) dT sT o.type elem hu hsz (dCap := dCap) (sCap := sCap) hk hr hfit v hv h1
  unfold Oper.wp
  simp [execOp, ho, resolve, invoke, builtin, hd, hs, hrun, Result.andThen]
  exact h _ (setCells_cells hr off k v) (Chg.of_setCells g _ _ _)
/-- 'clear' of a piece of a row. -/
theorem wpList_clearR {P : Program} {w : World} {ops : Array Oper} {rest : List Oper} {o : Oper} {a : Act} {Q : Exit → Act → World → Prop} (hgd : o.guard = none) (d : Operand) (dT : TypeId)
    (ho : o.op = .call { callee := .builtin .clear, args := #[d], argTypes := #[dT] }) (elem : TypeId) (hu : P.underlying dT = some (.slice elem)) (z : Value) (hz : ∀ w, (zeroValue elem).run P w = .ok z w) (hz1 : z.cells = #[z]) (hz2 : z.oneCell' = true)
    (g off k c : Nat) (hd : a.eval d = .slice (some ⟨g, off, none⟩) k c) (hk : 0 < k) (t : TypeId) (n : Nat) (f : Nat → Value) (hr : w.rowIs g t n f) (hfit : off + k ≤ n)
    (h : ∀ w', w'.rowIs g t n (fun j => if off ≤ j ∧ j < off + k then z else f j) → Chg w w' (fun b => b = g) → wpList P ops Q rest (a.put o.dst (.tuple #[])) w') : wpList P ops Q (o :: rest) a w := by
  refine wpList_plain hgd fun K hK => ?_
  have hrun := Lib.run_clear_slice (P := P) w dT elem o.type z hu hz hz1 hz2 g off k c hk (fun j hj => by rw [hr.cell (by omega)]; rfl) (fun j _ => hr.frozen _)
  unfold Oper.wp
  simp [execOp, ho, resolve, invoke, builtin, hd, hrun, Result.andThen]
  refine hK _ _ (h _ ?_ (Chg.of_setCells g _ _ _))
  refine (rowIs_setCells (List.replicate k z) off w f hr).congr (fun j _ => ?_)
  by_cases hj : off ≤ j ∧ j < off + k
  · have : j - off < k := by omega
    simp [hj, this]
  · simp [hj]
/-! how many are free -/
def freeN (cnt : Nat → Nat) : Nat → Nat
  | 0 => 0
  | n + 1 => freeN cnt n + (if cnt n = 0 then 1 else 0)
def updN (f : Nat → Nat) (b x : Nat) : Nat → Nat := fun i => if i = b then x else f i
theorem updN_at (f : Nat → Nat) (b x : Nat) : updN f b x b = x := if_pos rfl
theorem updN_ne (f : Nat → Nat) {b i : Nat} (x : Nat) (h : i ≠ b) : updN f b x i = f i := if_neg h
theorem freeN_le (cnt : Nat → Nat) : ∀ n, freeN cnt n ≤ n
  | 0 => Nat.le_refl _
  | n + 1 => by have := freeN_le cnt n; unfold freeN; split <;> omega
theorem freeN_congr {f g : Nat → Nat} : ∀ n, (∀ i, i < n → (f i = 0 ↔ g i = 0)) → freeN f n = freeN g n
  | 0, _ => rfl
  | n + 1, h => by
    unfold freeN
    rw [freeN_congr n (fun i hi => h i (by omega))]
    have := h n (by omega)
    by_cases e : f n = 0
    · rw [if_pos e, if_pos (this.1 e)]
    · rw [if_neg e, if_neg (fun k => e (this.2 k))]
theorem freeN_pos {cnt : Nat → Nat} : ∀ {n : Nat}, 0 < freeN cnt n → ∃ b, b < n ∧ cnt b = 0
  | 0, h => absurd h (by simp [freeN])
  | n + 1, h => by
    by_cases e : cnt n = 0
    · exact ⟨n, by omega, e⟩
    · unfold freeN at h
      rw [if_neg e] at h
      obtain ⟨b, hb, hc⟩ := freeN_pos (n := n) h
      exact ⟨b, by omega, hc⟩
theorem freeN_upd {cnt : Nat → Nat} {b : Nat} (x : Nat) : ∀ {n : Nat}, b < n → freeN (updN cnt b x) n + (if cnt b = 0 then 1 else 0) = freeN cnt n + (if x = 0 then 1 else 0)
  | 0, h => absurd h (by omega)
  | n + 1, h => by
    unfold freeN
    by_cases e : b = n
    · subst e
      rw [freeN_congr b (fun i hi => by rw [updN_ne _ _ (by omega)]), updN_at]
      omega
    · have := freeN_upd (cnt := cnt) x (n := n) (b := b) (by omega)
      rw [updN_ne _ _ (by omega : n ≠ b)]
      omega
theorem freeN_take {cnt : Nat → Nat} {b x n : Nat} (hb : b < n) (h0 : cnt b = 0) (hx : x ≠ 0) : freeN (updN cnt b x) n + 1 = freeN cnt n := by
  have := freeN_upd (cnt := cnt) x hb
  rw [if_pos h0, if_neg hx] at this
  omega
theorem freeN_zero : ∀ n, freeN (fun _ => 0) n = n
  | 0 => rfl
  | n + 1 => by unfold freeN; rw [freeN_zero n]; simp
theorem freeN_none {cnt : Nat → Nat} : ∀ {n : Nat}, (∀ b, b < n → cnt b ≠ 0) → freeN cnt n = 0
  | 0, _ => rfl
  | n + 1, h => by unfold freeN; rw [freeN_none (fun b hb => h b (by omega)), if_neg (h n (by omega))]
/-- the pool's block -/
def five (a b c d e : Value) : Nat → Value := fun i => match i with | 0 => a | 1 => b | 2 => c | 3 => d | _ => e
structure PoolAt (w : World) (g cb nb L W B S : Nat) (cnt : Nat → Nat) (num : Nat → Int) : Prop where
  row : w.rowIs g 178 5 (five (.int .i64 L) (.int .i64 W) (.int .i64 S) (.slice (some ⟨cb, 0, none⟩) B B) (.slice (some ⟨nb, 0, none⟩) (B * S * (L * 2 * W)) (B * S * (L * 2 * W))))
  cnts : w.rowIs cb 3 B (fun i => .int .i64 (cnt i))
  nums : w.rowIs nb 295 (B * S * (L * 2 * W)) (fun i => .int .i8 (num i))
  gc : g ≠ cb
  gn : g ≠ nb
  cn : cb ≠ nb
  hL : 1 ≤ L ∧ L ≤ 4
  hW : 1 ≤ W ∧ W ≤ 32
  hB : 1 ≤ B ∧ B ≤ 256
  hS : 1 ≤ S ∧ S ≤ 16
theorem PoolAt.chg {w w' : World} {g cb nb L W B S : Nat} {cnt : Nat → Nat} {num : Nat → Int} (h : PoolAt w g cb nb L W B S cnt num) {T : Nat → Prop} (c : Chg w w' T) (h1 : ¬ T g) (h2 : ¬ T cb) (h3 : ¬ T nb) : PoolAt w' g cb nb L W B S cnt num :=
  ⟨c.row h.row h1, c.row h.cnts h2, c.row h.nums h3, h.gc, h.gn, h.cn, h.hL, h.hW, h.hB, h.hS⟩
theorem PoolAt.fresh {w w' : World} {g cb nb L W B S : Nat} {cnt : Nat → Nat} {num : Nat → Int} (h : PoolAt w g cb nb L W B S cnt num) (f : Below w.heap.size w w') : PoolAt w' g cb nb L W B S cnt num := h.chg (Chg.of_below (fun _ => False) f) id id id
theorem PoolAt.cells {w : World} {g cb nb L W B S : Nat} {cnt : Nat → Nat} {num : Nat → Int} (h : PoolAt w g cb nb L W B S cnt num) :
    w.cell? ⟨g, 0, none⟩ = some (.int .i64 L) ∧ w.cell? ⟨g, 1, none⟩ = some (.int .i64 W) ∧ w.cell? ⟨g, 2, none⟩ = some (.int .i64 S) ∧ w.cell? ⟨g, 3, none⟩ = some (.slice (some ⟨cb, 0, none⟩) B B) ∧ w.cell? ⟨g, 4, none⟩ = some (.slice (some ⟨nb, 0, none⟩) (B * S * (L * 2 * W)) (B * S * (L * 2 * W))) :=
  ⟨h.row.cell (i := 0) (by decide), h.row.cell (i := 1) (by decide), h.row.cell (i := 2) (by decide), h.row.cell (i := 3) (by decide), h.row.cell (i := 4) (by decide)⟩
end Go.Proofs.YtmhjpfjhppcfoaaGreatDoor
namespace Go.Proofs.YtmhjpfjhppcfoaaGreatDoor
end Go.Proofs.YtmhjpfjhppcfoaaGreatDoor
namespace Go.Proofs.YtmhjpfjhppcfoaaGreatDoor
open Go.RowKit
/-! The pool's small calls. -/
set_option maxHeartbeats 400000 in
theorem isMeasure_in (n : Nat) (m : Int) (w : World) (h : 1 ≤ n ∧ (n : Int) ≤ m) : Calls Tryz.prog 110 #[.int .i64 n, .int .i64 m] w fun e w' => e = .returned (.bool true) ∧ w' = w := by
  have a1 : (1 : Int) ≤ (n : Int) := by omega
  have a2 : (n : Int) ≤ m := h.2
  go_enter Tryz.func110, Tryz.ntmps110
  go_wp2
  go_ret
  exact ⟨rfl, rfl⟩
set_option maxHeartbeats 400000 in
theorem ofSlot_at {w : World} {g L W : Nat} (c0 : w.cell? ⟨g, 0, none⟩ = some (.int .i64 L)) (c1 : w.cell? ⟨g, 1, none⟩ = some (.int .i64 W)) (hL : 1 ≤ L ∧ L ≤ 4) (hW : 1 ≤ W ∧ W ≤ 32) :
    Calls Tryz.prog 111 #[.pointer (some ⟨g, 0, none⟩)] w fun e w' => e = .returned (.int .i64 ((L * 2 * W : Nat) : Int)) ∧ Below w.heap.size w w' := by
  have hb : L * 2 * W ≤ 256 := by
    have := Nat.mul_le_mul (Nat.mul_le_mul hL.2 (Nat.le_refl 2)) hW.2
    omega
  have h2 : ((L * 2 * W : Nat) : Int) = (L : Int) * 2 * (W : Int) := by push_cast; rfl
  have H2 := hidd h2
  obtain ⟨hL1, hL2⟩ := hL
  obtain ⟨hW1, hW2⟩ := hW
  have hb' : (L : Int) * 2 * (W : Int) ≤ 256 := by omega
  have hb0 : 0 ≤ (L : Int) * 2 * (W : Int) := by omega
  clear h2 hb
  go_enter Tryz.func111, Tryz.ntmps111
  go_wp2
  go_quiet (fail)
  go_wp2
  go_ret
  refine ⟨ret_int ?_, ?_⟩
  · exact H2.out.symm
  · exact below_drewN (Below.refl _ _) _
set_option maxHeartbeats 800000 in
theorem left_any {w : World} {g cb nb L W B S : Nat} {cnt : Nat → Nat} {num : Nat → Int} (h : PoolAt w g cb nb L W B S cnt num) :
    Calls Tryz.prog 37 #[.pointer (some ⟨g, 0, none⟩)] w fun e w' => e = .returned (.int .i64 (freeN cnt B : Nat)) ∧ w' = w := by
  obtain ⟨_, _, _, c3, _⟩ := h.cells
  have hB := h.hB
  have HC := hidd (fun i hi => h.cnts.cell (i := i) hi)
  clear h
  go_enter Tryz.func37, Tryz.ntmps37
  go_wp2
  go_loopw [3, 13] (fun v i wr => ∃ k : Nat, k ≤ B ∧ i = .int .i64 k ∧ v = .int .i64 (freeN cnt k : Nat) ∧ wr = w) (fun _ i _ => B - (intOf i).toNat)
  case atStart => exact ⟨0, by omega, rfl, rfl, rfl⟩
  case round =>
    obtain ⟨k, hk, rfl, rfl, rfl⟩ := hrel
    have hle := freeN_le cnt k
    by_cases hlt : k < B
    · have d := HC.out k hlt
      have hs : Hid (freeN cnt (k + 1) = freeN cnt k + (if cnt k = 0 then 1 else 0)) := rfl
      generalize hq : cnt k = q at *
      clear hq
      by_cases h0 : q = 0
      · subst h0
        go_wp2
        go_roundw
        case rel => exact ⟨k + 1, by omega, by go_num, by rw [hs.out]; simp, trivial⟩
        case measure => simp [intOf]; omega
      · have hb : ((q : Int) == 0) = false := by simp [h0]
        go_wp2
        go_roundw
        case rel => exact ⟨k + 1, by omega, by go_num, by rw [hs.out]; simp [h0], trivial⟩
        case measure => simp [intOf]; omega
    · obtain rfl : k = B := by omega
      go_wp2
      go_ret
      exact ⟨rfl, rfl⟩
set_option maxHeartbeats 800000 in
theorem index_any {w : World} {cb B : Nat} {cnt : Nat → Nat} (hc : w.rowIs cb 3 B (fun i => .int .i64 (cnt i))) (hB : B ≤ 256) :
    Calls Tryz.prog 133 #[.slice (some ⟨cb, 0, none⟩) B B, .int .i64 0] w fun e w' => w' = w ∧ ((∃ b, b < B ∧ cnt b = 0 ∧ (∀ j, j < b → cnt j ≠ 0) ∧ e = .returned (.int .i64 b)) ∨ ((∀ j, j < B → cnt j ≠ 0) ∧ e = .returned (.int .i64 (-1)))) := by
  have HC := hidd (fun i hi => hc.cell (i := i) hi)
  clear hc
  go_enter Tryz.func133, Tryz.ntmps133
  go_wp2
  go_loopw [5, 8] (fun _ i wr => ∃ k : Nat, k ≤ B ∧ i = .int .i64 k ∧ Hid (∀ j, j < k → cnt j ≠ 0) ∧ wr = w) (fun _ i _ => B - (intOf i).toNat)
  case atStart => exact ⟨0, by omega, rfl, fun j hj => absurd hj (by omega), rfl⟩
  case round =>
    obtain ⟨k, hk, rfl, hn, rfl⟩ := hrel
    by_cases hlt : k < B
    · have d := HC.out k hlt
      by_cases h0 : cnt k = 0
      · have H0 := hidd h0
        rw [h0] at d
        clear h0
        go_wp2
        go_ret
        exact ⟨rfl, .inl ⟨k, hlt, H0.out, hn.out, rfl⟩⟩
      · have H0 := hidd h0
        have hb : ((0 : Int) == (cnt k : Int)) = false := by simp; omega
        have hb2 : ¬ (0 : Int) = (cnt k : Int) := by omega
        clear h0
        generalize hq : cnt k = q at d hb hb2
        clear hq
        go_wp2
        go_roundw
        case rel => exact ⟨k + 1, by omega, by go_num, fun j hj => (if e : j = k then e ▸ H0.out else hn.out j (by omega)), trivial⟩
        case measure => simp [intOf]; omega
    · obtain rfl : k = B := by omega
      go_wp2
      go_ret
      exact ⟨rfl, .inr ⟨hn.out, rfl⟩⟩
end Go.Proofs.YtmhjpfjhppcfoaaGreatDoor
namespace Go.Proofs.YtmhjpfjhppcfoaaGreatDoor
end Go.Proofs.YtmhjpfjhppcfoaaGreatDoor
namespace Go.Proofs.YtmhjpfjhppcfoaaGreatDoor
open Go.RowKit
/-! The pool's blocks and slots: where they lie; New, Take, NewTable. -/
/-- a product of three and its parts -/
theorem part_le {b B n T : Nat} (hb : b < B) (hT : T = B * n) : b * n + n ≤ T := by
  subst hT
  have := Nat.mul_le_mul_right n (show b + 1 ≤ B from hb)
  rw [Nat.succ_mul] at this
  exact this
structure Geo (L W B S q n T : Nat) : Prop where
  eq : q = L * 2 * W
  en : n = S * q
  eT : T = B * S * q
  q1 : 2 ≤ q
  q2 : q ≤ 256
  n1 : 2 ≤ n
  n2 : n ≤ 4096
  T2 : T ≤ 1048576
theorem geo {L W B S : Nat} (hL : 1 ≤ L ∧ L ≤ 4) (hW : 1 ≤ W ∧ W ≤ 32) (hB : 1 ≤ B ∧ B ≤ 256) (hS : 1 ≤ S ∧ S ≤ 16) : ∃ q n T, Geo L W B S q n T := by
  refine ⟨L * 2 * W, S * (L * 2 * W), B * S * (L * 2 * W), rfl, rfl, rfl, ?_, ?_, ?_, ?_, ?_⟩
  · have := Nat.mul_le_mul (Nat.mul_le_mul hL.1 (Nat.le_refl 2)) hW.1; omega
  · have := Nat.mul_le_mul (Nat.mul_le_mul hL.2 (Nat.le_refl 2)) hW.2; omega
  · have := Nat.mul_le_mul hS.1 (Nat.mul_le_mul (Nat.mul_le_mul hL.1 (Nat.le_refl 2)) hW.1); omega
  · have := Nat.mul_le_mul hS.2 (Nat.mul_le_mul (Nat.mul_le_mul hL.2 (Nat.le_refl 2)) hW.2); omega
  · have := Nat.mul_le_mul (Nat.mul_le_mul hB.2 hS.2) (Nat.mul_le_mul (Nat.mul_le_mul hL.2 (Nat.le_refl 2)) hW.2); omega
theorem PoolAt.geo {w : World} {g cb nb L W B S : Nat} {cnt : Nat → Nat} {num : Nat → Int} (h : PoolAt w g cb nb L W B S cnt num) : ∃ q n T, Geo L W B S q n T := YtmhjpfjhppcfoaaGreatDoor.geo h.hL h.hW h.hB h.hS
theorem Geo.tot {L W B S q n T : Nat} (h : Geo L W B S q n T) : T = B * n := by rw [h.eT, h.en, Nat.mul_assoc]
set_option maxHeartbeats 800000 in
theorem block_any {w : World} {g cb nb L W B S q n T b : Nat} {cnt : Nat → Nat} {num : Nat → Int} (h : PoolAt w g cb nb L W B S cnt num) (G : Geo L W B S q n T) (hb : b < B) :
    Calls Tryz.prog 260 #[.pointer (some ⟨g, 0, none⟩), .int .i64 b] w fun e w' => e = .returned (.slice (some ⟨nb, b * n, none⟩) n (T - b * n)) ∧ Below w.heap.size w w' := by
  obtain ⟨c0, c1, c2, c3, c4⟩ := h.cells
  rw [← G.eq, ← G.eT] at c4
  have HO : Hid (∀ x : Later w, Calls Tryz.prog 111 #[.pointer (some ⟨g, 0, none⟩)] x.val fun e w' => e = .returned (.int .i64 (q : Int)) ∧ Below x.val.heap.size x.val w') := fun x => by rw [G.eq]; exact ofSlot_at (later_cell c0 x) (later_cell c1 x) h.hL h.hW
  have k2 := later_cell c2
  have hne := later_some w
  have K4 := hidd c4
  have hp := part_le hb G.tot
  have e1 : (S : Int) * (q : Int) = (n : Int) := by rw [G.en]; push_cast; rfl
  obtain ⟨o, ho⟩ : ∃ o, o = b * n := ⟨_, rfl⟩
  rw [← ho] at hp ⊢
  have e2 : (b : Int) * (n : Int) = (o : Int) := by rw [ho]; push_cast; rfl
  have hT := G.T2
  have hn1 := G.n1
  have hn2 := G.n2
  have hB := h.hB
  have hS := h.hS
  have hq2 := G.q2
  clear ho G h c0 c1 c2 c3 c4
  go_enter Tryz.func260, Tryz.ntmps260
  go_wp2
  refine wp_region_later (by kernel_rfl) (by kernel_rfl) ?_
  repeat (go_big_quiet_step (fail))
  go_big_quiet_step (exact later_of (HO.out _))
  repeat (go_big_quiet_step (fail))
  refine wpQuiet_nil ?_
  rintro _ ⟨z, rfl⟩
  have hz := z.fresh
  have c4 := fresh_cell hz K4.out
  clear k2 HO K4 hne
  generalize z.val = w1 at *
  go_wp2
  go_ret
  refine ⟨?_, hz⟩
  simp
end Go.Proofs.YtmhjpfjhppcfoaaGreatDoor
namespace Go.Proofs.YtmhjpfjhppcfoaaGreatDoor
open Go.RowKit
/-! New. -/
theorem made_row {w : World} {z : Value} {n : Nat} {t : TypeId} {c : Array Value} (hc : c = madeCells #[z] n) : (w.alloc (.cells c t)).rowIs w.heap.size t n (fun _ => z) := by rw [hc]; exact World.rowIs_made w z n t
theorem row5_new (w : World) (t : TypeId) (a b c d e : Value) : (w.alloc (.cells #[a, b, c, d, e] t)).rowIs w.heap.size t 5 (five a b c d e) :=
  World.rowIs_alloc w #[a, b, c, d, e] t _ (fun i hi => by
    match i, hi with
    | 0, _ => rfl
    | 1, _ => rfl
    | 2, _ => rfl
    | 3, _ => rfl
    | 4, _ => rfl)
set_option maxRecDepth 20000 in
set_option maxHeartbeats 1600000 in
theorem new_any {L W B S : Nat} (w : World) (hL : 1 ≤ L ∧ L ≤ 4) (hW : 1 ≤ W ∧ W ≤ 32) (hB : 1 ≤ B ∧ B ≤ 256) (hS : 1 ≤ S ∧ S ≤ 16) :
    Calls Tryz.prog 56 #[.int .i64 L, .int .i64 W, .int .i64 B, .int .i64 S] w fun e w' => ∃ g cb nb, e = .returned (.tuple #[.pointer (some ⟨g, 0, none⟩), .int .i64 0]) ∧ PoolAt w' g cb nb L W B S (fun _ => 0) (fun _ => 0) ∧ (w.heap.size ≤ g ∧ w.heap.size ≤ cb ∧ w.heap.size ≤ nb) ∧ Below w.heap.size w w' := by
  obtain ⟨q, n, T, G⟩ := geo hL hW hB hS
  obtain ⟨s, hs⟩ : ∃ s, s = B * S := ⟨_, rfl⟩
  have e1 : (B : Int) * (S : Int) = (s : Int) := by rw [hs]; push_cast; rfl
  have e2 : (s : Int) * (q : Int) = (T : Int) := by rw [hs, G.eT]; push_cast; rfl
  have hT := G.T2
  have hT0 : s ≤ 4096 := by rw [hs]; have := Nat.mul_le_mul hB.2 hS.2; omega
  have hq := G.q2
  have HO : Hid (∀ (w : World) (g : Nat), w.cell? ⟨g, 0, none⟩ = some (.int .i64 L) → w.cell? ⟨g, 1, none⟩ = some (.int .i64 W) → Calls Tryz.prog 111 #[.pointer (some ⟨g, 0, none⟩)] w fun e w' => e = .returned (.int .i64 (q : Int)) ∧ Below w.heap.size w w') := fun w g h1 h2 => by rw [G.eq]; exact ofSlot_at h1 h2 hL hW
  clear hs
  obtain ⟨hB1, hB2⟩ := hB
  obtain ⟨hL1, hL2⟩ := hL
  obtain ⟨hW1, hW2⟩ := hW
  obtain ⟨hS1, hS2⟩ := hS
  obtain ⟨iI, hiI, zI0, zI1, zI2⟩ := info_parts infoI
  obtain ⟨i8, hi8, z80, z81, z82⟩ := info_parts infoI8
  have hmk1 : ∀ w, (Instr.makeSlice 40 (.int .i64 (B : Int)) (.int .i64 (B : Int))).run Tryz.prog w = .ok (.slice (some ⟨w.heap.size, 0, none⟩) B B) (w.alloc (.cells (madeCells #[.int .i64 0] B) 3)) := run_make_row 40 3 iI (.int .i64 0) Tryz.underlying40 hiI zI0 zI1 rfl .i64 .i64 B (by rw [zI2]; omega) (by omega)
  have hmk2 : ∀ w, (Instr.makeSlice 24 (.int .i64 (T : Int)) (.int .i64 (T : Int))).run Tryz.prog w = .ok (.slice (some ⟨w.heap.size, 0, none⟩) T T) (w.alloc (.cells (madeCells #[.int .i8 0] T) 295)) := run_make_row 24 295 i8 (.int .i8 0) Tryz.underlying24 hi8 z80 z81 rfl .i64 .i64 T (by rw [z82]; omega) (by omega)
  clear hiI zI0 zI1 zI2 hi8 z80 z81 z82
  go_enter Tryz.func56, Tryz.ntmps56
  have R0' : (((w.alloc (.cells (madeCells #[.int .i64 0] B) 3)).alloc (.cells #[.int .i64 L, .int .i64 W, .int .i64 S, .slice (some ⟨w.heap.size, 0, none⟩) B B, .slice none 0 0] 178)).rowIs (w.heap.size + 1) 178 5 (five (.int .i64 L) (.int .i64 W) (.int .i64 S) (.slice (some ⟨w.heap.size, 0, none⟩) B B) (.slice none 0 0))) := by
    have := row5_new (w.alloc (.cells (madeCells #[.int .i64 0] B) 3)) 178 (.int .i64 L) (.int .i64 W) (.int .i64 S) (.slice (some ⟨w.heap.size, 0, none⟩) B B) (.slice none 0 0)
    simpa using this
  have R0 := hidd R0'
  clear R0'
  go_wp2_with (first
    | (go_at_call 110; refine (isMeasure_in _ _ _ (by constructor <;> omega)).mono ?_; rintro e w9 ⟨rfl, h9⟩; rw [h9]; clear h9)
    | (go_at_call 111; refine (HO.out _ _ (by simp) (by simp)).mono ?_; rintro e w9 ⟨rfl, hf9⟩; have r9 := R0.out.of_block (hf9.block _ (by simp)); have c9 := fresh_cell (fresh_alloc w9 (.cells (madeCells #[.int .i8 0] T) 295)) (r9.cell (i := 4) (by decide)); simp only [five] at c9; have z9 := (r9.alloc (.cells (madeCells #[.int .i8 0] T) 295)).frozen))
  have hs9 : w.heap.size + 2 ≤ w9.heap.size := by have := hf9.size; simpa using this
  have fr : Below w.heap.size w w9 := ((Below.refl w.heap.size w).alloc (Nat.le_refl _) _).alloc (by simp) _ |>.trans (hf9.mono (by simp; omega))
  go_ret2
  refine ⟨w.heap.size + 1, w.heap.size, w9.heap.size, rfl, ⟨?_, ?_, ?_, by omega, by omega, by omega, ⟨hL1, hL2⟩, ⟨hW1, hW2⟩, ⟨hB1, hB2⟩, ⟨hS1, hS2⟩⟩, ⟨by omega, by omega, by omega⟩, ?_⟩
  · rw [← G.eq, ← G.eT]
    exact ((r9.alloc _).set 4 _).congr (fun i hi => by
      match i, hi with
      | 0, _ => rfl
      | 1, _ => rfl
      | 2, _ => rfl
      | 3, _ => rfl
      | 4, _ => rfl)
  · refine World.rowIs.setOther ?_ (by simp) _
    refine World.rowIs.alloc ?_ _
    refine World.rowIs.of_block (w := (w.alloc (.cells (madeCells #[.int .i64 0] B) 3)).alloc (.cells #[.int .i64 L, .int .i64 W, .int .i64 S, .slice (some ⟨w.heap.size, 0, none⟩) B B, .slice none 0 0] 178)) ?_ (hf9.block _ (by simp; omega))
    exact World.rowIs.alloc (World.rowIs_made w (.int .i64 0) B 3) _
  · rw [← G.eq, ← G.eT]
    refine World.rowIs.setOther ?_ (by simp; omega) _
    exact World.rowIs_made w9 (.int .i8 0) T 295
  · exact ((fr.alloc (by omega) _).setCell (by simp) _)
end Go.Proofs.YtmhjpfjhppcfoaaGreatDoor
