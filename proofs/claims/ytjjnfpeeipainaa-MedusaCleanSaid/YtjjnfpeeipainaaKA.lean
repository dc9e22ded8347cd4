import Derived.WalkKit
import Derived.WalkSpells
import Derived.WalkSmall
import Derived.WalkLawsBesides
import Derived.Handy
import Derived.BigQuiet
import Derived.OwnWalk
import Derived.ArgAppend
import Derived.Deep.OwnRows
import Derived.Test.YtjjnfpeeipainaaRows
import Derived.RangeFuncRecord
import Derived.Deep.RegionHeld3
namespace Go.Proofs.Ytjjnfpeeipainaa.Cl
open Go.RowKit
/-! Lists that are read, and lists that a call makes: small facts that all walks want. -/
theorem ret_int {k : IntKind} {a b : Int} (h : a = b) : Ending.returned (.int k a) = .returned (.int k b) := by rw [h]
theorem ret_bool {a b : Bool} (h : a = b) : Ending.returned (.bool a) = .returned (.bool b) := by rw [h]
theorem hidd {p : Prop} (h : p) : Hid p := h
theorem lt_of_cell {w : World} {b o : Nat} {v : Value} (h : w.cell? ⟨b, o, none⟩ = some v) : b < w.heap.size := World.block_lt_of_cell? w ⟨b, o, none⟩ h
/-- What was there is as it was. -/
theorem fresh_trans {a b c : World} (h : Below a.heap.size a b) (k : Below b.heap.size b c) : Below a.heap.size a c := h.trans (k.mono h.size)
theorem fresh_cell {a b : World} (h : Below a.heap.size a b) {k o : Nat} {v : Value} (e : a.cell? ⟨k, o, none⟩ = some v) : b.cell? ⟨k, o, none⟩ = some v := by
  rw [h.cell (p := ⟨k, o, none⟩) (lt_of_cell e), e]
theorem fresh_drewN (w : World) (n : Nat) : Below w.heap.size w (w.drewN n) := below_drewN (Below.refl _ _) n
theorem fresh_alloc (w : World) (o : Obj) : Below w.heap.size w (w.alloc o) := (Below.refl _ _).alloc (Nat.le_refl _) o
/-- A slice that is read: n elements of sz cells each. -/
structure RdA (w : World) (ao : Option Addr) (sz n cap : Nat) (cs : Nat → Value) : Prop where
  le : n ≤ cap
  top : cap ≤ maxLen
  at_ : 0 < n → ∃ b off, ao = some ⟨b, off, none⟩ ∧ ∀ j, j < n * sz → w.cell? ⟨b, off + j, none⟩ = some (cs j)
def Rd (w : World) (v : Value) (sz n : Nat) (cs : Nat → Value) : Prop := ∃ ao cap, v = .slice ao n cap ∧ RdA w ao sz n cap cs
theorem RdA.fresh {w w' : World} {ao : Option Addr} {sz n cap : Nat} {cs : Nat → Value} (h : RdA w ao sz n cap cs) (f : Below w.heap.size w w') : RdA w' ao sz n cap cs := by
  refine ⟨h.le, h.top, fun hn => ?_⟩
  obtain ⟨b, off, rfl, hc⟩ := h.at_ hn
  exact ⟨b, off, rfl, fun j hj => fresh_cell f (hc j hj)⟩
theorem Rd.fresh {w w' : World} {v : Value} {sz n : Nat} {cs : Nat → Value} (h : Rd w v sz n cs) (f : Below w.heap.size w w') : Rd w' v sz n cs := by
  obtain ⟨ao, cap, rfl, h⟩ := h
  exact ⟨ao, cap, rfl, h.fresh f⟩
theorem RdA.congr {w : World} {ao : Option Addr} {sz n cap : Nat} {cs cs' : Nat → Value} (h : RdA w ao sz n cap cs) (e : ∀ j, j < n * sz → cs j = cs' j) : RdA w ao sz n cap cs' := by
  refine ⟨h.le, h.top, fun hn => ?_⟩
  obtain ⟨b, off, rfl, hc⟩ := h.at_ hn
  exact ⟨b, off, rfl, fun j hj => by rw [← e j hj]; exact hc j hj⟩
theorem Rd.congr {w : World} {v : Value} {sz n : Nat} {cs cs' : Nat → Value} (h : Rd w v sz n cs) (e : ∀ j, j < n * sz → cs j = cs' j) : Rd w v sz n cs' := by
  obtain ⟨ao, cap, rfl, h⟩ := h
  exact ⟨ao, cap, rfl, h.congr e⟩
/-- What one element of one cell is. -/
theorem RdA.one {w : World} {ao : Option Addr} {n cap : Nat} {cs : Nat → Value} (h : RdA w ao 1 n cap cs) (hn : 0 < n) : ∃ b off, ao = some ⟨b, off, none⟩ ∧ ∀ j, j < n → w.cell? ⟨b, off + j, none⟩ = some (cs j) := by
  obtain ⟨b, off, rfl, hc⟩ := h.at_ hn
  exact ⟨b, off, rfl, fun j hj => hc j (by omega)⟩
/-- A list that the call makes. -/
def Own (w : World) (base : Nat) (e : TypeId) (sz : Nat) (v : Value) (n : Nat) (cs : Nat → Value) : Prop := w.ownsRow base e sz v n ((List.range (n * sz)).map cs)
theorem own_nil (w : World) (base : Nat) (e : TypeId) (sz : Nat) (cs : Nat → Value) : Own w base e sz (.slice none 0 0) 0 cs := by
  unfold Own; simpa using World.ownsRow_nil w base e sz
theorem Own.congr {w : World} {base : Nat} {e : TypeId} {sz : Nat} {v : Value} {n : Nat} {cs cs' : Nat → Value} (h : Own w base e sz v n cs) (k : ∀ j, j < n * sz → cs j = cs' j) : Own w base e sz v n cs' := by
  unfold Own at *
  rwa [List.map_congr_left (fun j hj => (k j (List.mem_range.1 hj)).symm)]
theorem Own.rd {w : World} {base : Nat} {e : TypeId} {sz : Nat} {v : Value} {n : Nat} {cs : Nat → Value} (h : Own w base e sz v n cs) : Rd w v sz n cs := by
  rcases h.2 with ⟨rfl, rfl⟩ | ⟨g, cap, cur, rfl, hb, hg, hnc, hcm, hcs, htake⟩
  · exact ⟨none, 0, rfl, Nat.le_refl _, Nat.zero_le _, fun h => absurd h (by omega)⟩
  · refine ⟨_, cap, rfl, hnc, hcm, fun _ => ⟨g, 0, rfl, fun j hj => ?_⟩⟩
    have := World.ownsRow.cells h (g := g) rfl j (cs j) (by simp [hj])
    have hadd : (⟨g, 0, none⟩ : Addr).add j = ⟨g, j, none⟩ := by unfold Addr.add; split <;> simp_all
    rw [hadd] at this
    simpa using this
theorem Own.lt {w : World} {base : Nat} {e : TypeId} {sz : Nat} {v : Value} {n : Nat} {cs : Nat → Value} (h : Own w base e sz v n cs) : ∀ k, v.ownBlock = some k → base ≤ k ∧ k < w.heap.size := World.ownsRow.lt h
theorem Own.kept {w w' : World} {base : Nat} {e : TypeId} {sz : Nat} {v : Value} {n : Nat} {cs : Nat → Value} (h : Own w base e sz v n cs) (f : Below w.heap.size w w') : Own w' base e sz v n cs := by
  refine ⟨h.1, ?_⟩
  rcases h.2 with hn | ⟨g, cap, cur, rfl, hb, hgg, rest⟩
  · exact .inl hn
  · refine .inr ⟨g, cap, cur, rfl, hb, ?_, rest⟩
    rw [f.block g (Array.getElem?_eq_some_iff.1 hgg).1]; exact hgg
theorem Own.weaken {w : World} {base base' : Nat} {e : TypeId} {sz : Nat} {v : Value} {n : Nat} {cs : Nat → Value} (h : Own w base e sz v n cs) (k : base' ≤ base) : Own w base' e sz v n cs := by
  refine ⟨h.1, ?_⟩
  rcases h.2 with hn | ⟨g, cap, cur, rfl, hb, rest⟩
  · exact .inl hn
  · exact .inr ⟨g, cap, cur, rfl, Nat.le_trans k hb, rest⟩
/-- What an append leaves. -/
structure App (w w' : World) (v v' : Value) : Prop where
  grown : w.grownBy w' v.ownBlock
  blk : ∀ k, v'.ownBlock = some k → v.ownBlock = some k ∨ w.heap.size ≤ k
/-- Two lists that share no block. -/
def Off (v u : Value) : Prop := ∀ k, v.ownBlock = some k → u.ownBlock ≠ some k
theorem Off.symm {v u : Value} (h : Off v u) : Off u v := fun k hu hv => h k hv hu
theorem off_nil (u : Value) : Off (.slice none 0 0) u := fun _ h => by simp [Value.ownBlock] at h
theorem App.below {w w' a : World} {v v' : Value} {base B : Nat} {e : TypeId} {sz n : Nat} {cs : Nat → Value} (h : App w w' v v') (hb : Below B a w) (ho : Own w base e sz v n cs) (hB : B ≤ base) (hs : B ≤ w.heap.size) : Below B a w' :=
  hb.grown h.grown hs (fun k hk => Nat.le_trans hB (ho.lt k hk).1)
theorem App.own {w w' : World} {v v' u : Value} {base : Nat} {e : TypeId} {sz n : Nat} {cs : Nat → Value} (h : App w w' v v') (ho : Own w base e sz u n cs) (ha : Off v u) : Own w' base e sz u n cs :=
  World.ownsRow.kept ho h.grown (by
    cases hu : u.ownBlock with
    | none => exact .inl rfl
    | some k => exact .inr (fun e => ha k e.symm hu))
theorem App.off {w w' : World} {v v' u : Value} {base : Nat} {e : TypeId} {sz n : Nat} {cs : Nat → Value} (h : App w w' v v') (ho : Own w base e sz u n cs) (ha : Off v u) : Off v' u := fun k hk hu => by
  rcases h.blk k hk with e | e
  · exact ha k e hu
  · have := (ho.lt k hu).2; omega
theorem news_len (n m sz : Nat) (cs : Nat → Value) : (List.range (n * sz)).map cs ++ (List.range (m * sz)).map (fun j => cs (n * sz + j)) = (List.range ((n + m) * sz)).map cs := by
  rw [Nat.add_mul, List.range_add, List.map_append, List.map_map]; rfl
theorem add_lit0 (g j : Nat) : (⟨g, 0, none⟩ : Addr).add j = ⟨g, j, none⟩ := by unfold Addr.add; split <;> simp_all
theorem wpList_app {P : Program} (w : World) {ops : Array Oper} {rest : List Oper} {o : Oper} {a : Act} {Q : Exit → Act → World → Prop}
    (hg : o.guard = none) (s x : Operand) (t : TypeId) (hop : o.op = Op.call { callee := Callee.builtin Builtin.append, args := #[s, x], argTypes := #[t, t] })
    (base : Nat) (e : TypeId) (z : Value) (sz bytes : Nat) (h1 : P.underlying t = some (.slice e)) (hinfo : (P.info? e).map (fun i => (i.zero, i.size, i.bytes)) = some (some z, sz, bytes)) (h6 : z.cells.size = sz) (h7 : 0 < sz)
    (v : Value) (n : Nat) (cs : Nat → Value) (hs : a.eval s = v) (hown : Own w base e sz v n cs)
    (g m c : Nat) (hx : a.eval x = .slice (some ⟨g, 0, none⟩) m c) (hc : ∀ j, j < m * sz → w.cell? ⟨g, j, none⟩ = some (cs (n * sz + j))) (h1c : ∀ j, j < m * sz → (cs (n * sz + j)).oneCell' = true)
    (hm : 0 < m) (b1 : n + m ≤ maxLen) (b2 : (n + m) * bytes ≤ 140737488355328) (hb : base ≤ w.heap.size)
    (hK : ∀ v' w', Own w' base e sz v' (n + m) cs → App w w' v v' → wpList P ops Q rest (a.put o.dst v') w') : wpList P ops Q (o :: rest) a w := by
  obtain ⟨i, hi, hz0, hz1, hz2⟩ := info_parts hinfo
  have hn : ((List.range (m * sz)).map (fun j => cs (n * sz + j))).length = m * sz := by simp
  have hc' : ∀ j u, ((List.range (m * sz)).map (fun j => cs (n * sz + j)))[j]? = some u → w.cell? ((⟨g, 0, none⟩ : Addr).add j) = some u := by
    intro j u hu
    rw [add_lit0]
    by_cases hj : j < m * sz
    · simp [hj] at hu; rw [hc j hj, hu]
    · simp [hj] at hu
  have h1c' : ∀ u ∈ (List.range (m * sz)).map (fun j => cs (n * sz + j)), u.oneCell' = true := by
    intro u hu
    obtain ⟨j, hj, rfl⟩ := List.mem_map.1 hu
    exact h1c j (List.mem_range.1 hj)
  rcases hown.2 with ⟨rfl, rfl⟩ | ⟨k, cap, cur, rfl, hbg, hgg, hnc, hcm, hcs, htake⟩
  · refine wpList_append_grows w hg s x t hop e i z sz bytes h1 hi hz0 hz1 hz2 h6 h7 none 0 0 [] hs (fun _ => ⟨rfl, rfl⟩) (by simp) (fun b hb => by cases hb) ⟨g, 0, none⟩ m c _ hx hn hc' h1c' (by omega) b1 b2 ?_
    intro v' w' ho hgr
    refine hK v' w' ?_ ⟨hgr, fun k hk => .inr (World.ownsRow.lt ho k hk).1⟩
    have hx' := Own.weaken (cs := cs) (base' := base) (n := 0 + m) (by unfold Own; rw [← news_len 0 m sz cs]; simpa using ho) hb
    exact hx'
  · by_cases hroom : n + m ≤ cap
    · refine wpList_plain hg fun K hK' => ?_
      obtain ⟨w', hr, ho, hgr⟩ := run_append_fits (P := P) w base t o.type e i sz h1 hi hz1 k n cap _ hown ⟨g, 0, none⟩ m c _ hn hc' h1c' hroom
      unfold Oper.wp execOp
      simp only [hop, resolve, invoke, builtin, Sem.run_bind, Sem.run_pure, Result.andThen_ok, List.map_toArray, List.map_cons, List.map_nil, hs, hx, hr]
      exact hK' _ _ (hK _ w' (by unfold Own; rw [← news_len n m sz cs]; exact ho) ⟨hgr, fun k hk => .inl hk⟩)
    · refine wpList_append_grows w hg s x t hop e i z sz bytes h1 hi hz0 hz1 hz2 h6 h7 (some ⟨k, 0, none⟩) n cap ((List.range (n * sz)).map cs) hs (fun h => by cases h) hown.1 (fun b hb => by cases hb; exact World.ownsRow.cells hown (g := k) rfl) ⟨g, 0, none⟩ m c _ hx hn hc' h1c' (by omega) b1 b2 ?_
      intro v' w' ho hgr
      refine hK v' w' ?_ ⟨⟨hgr.os, hgr.tape, hgr.output, hgr.size, fun k hk _ => hgr.block k hk (by simp)⟩, fun k hk => .inr (World.ownsRow.lt ho k hk).1⟩
      exact Own.weaken (cs := cs) (base' := base) (n := n + m) (by unfold Own; rw [← news_len n m sz cs]; exact ho) hb
/-- The new block that the appended element lies in. -/
theorem new_cell (w : World) (x : Value) (t : TypeId) : (w.alloc (.cells #[x] t)).cell? ⟨w.heap.size, 0, none⟩ = some x := by simp
theorem new_int (w : World) {k : IntKind} {x y : Int} (t : TypeId) (h : y = x) : (w.alloc (.cells #[.int k x] t)).cell? ⟨w.heap.size, 0, none⟩ = some (.int k y) := by simp [h]
/-- One element of one cell more. -/
theorem wpList_app1 {P : Program} (w : World) {ops : Array Oper} {rest : List Oper} {o : Oper} {a : Act} {Q : Exit → Act → World → Prop}
    (hg : o.guard = none) (s x : Operand) (t : TypeId) (hop : o.op = Op.call { callee := Callee.builtin Builtin.append, args := #[s, x], argTypes := #[t, t] })
    (base : Nat) (e : TypeId) (z : Value) (bytes : Nat) (h1 : P.underlying t = some (.slice e)) (hinfo : (P.info? e).map (fun i => (i.zero, i.size, i.bytes)) = some (some z, 1, bytes)) (h6 : z.cells.size = 1)
    (v : Value) (n : Nat) (cs : Nat → Value) (hs : a.eval s = v) (hown : Own w base e 1 v n cs)
    (g c : Nat) (hx : a.eval x = .slice (some ⟨g, 0, none⟩) 1 c) (hc : w.cell? ⟨g, 0, none⟩ = some (cs n)) (h1c : (cs n).oneCell' = true)
    (b1 : n < 9223372036854775807) (b2 : (n + 1) * bytes ≤ 140737488355328) (hb : base ≤ w.heap.size)
    (hK : ∀ v' w', Own w' base e 1 v' (n + 1) cs → App w w' v v' → wpList P ops Q rest (a.put o.dst v') w') : wpList P ops Q (o :: rest) a w :=
  wpList_app w hg s x t hop base e z 1 bytes h1 hinfo h6 (by decide) v n cs hs hown g 1 c hx
    (fun j hj => by obtain rfl : j = 0 := by omega
                    simpa using hc) (fun j hj => by obtain rfl : j = 0 := by omega
                                                    simpa using h1c) (by decide) (by unfold maxLen; omega) b2 hb hK
/-- A row that 'make' laid, read as a list. -/
theorem rowIs_rd {w : World} {b n : Nat} {t : TypeId} {f : Nat → Value} (h : w.rowIs b t n f) (hn : n ≤ maxLen) : RdA w (some ⟨b, 0, none⟩) 1 n n f :=
  ⟨Nat.le_refl _, hn, fun _ => ⟨b, 0, rfl, fun j hj => by simpa using h.cell (i := j) (by omega)⟩⟩
end Go.Proofs.Ytjjnfpeeipainaa.Cl
namespace Go.Proofs.Ytjjnfpeeipainaa.Cl
open Go.RowKit
/-- A region that draws its order and whose calls lay new blocks alone: one walk, in the order of the text; the class of worlds: w with new blocks behind it. -/
structure Later (w : World) where
  val : World
  fresh : Below w.heap.size w val
theorem later_some (w : World) : Nonempty (Later w) := ⟨⟨w, Below.refl _ _⟩⟩
theorem wp_region_later {P : Program} {id : Nat} {Q : Exit → Act → World → Prop} {a : Act} {w : World} {l : List Oper} (hm : P.follows .mixedOrders = true) (hB : Region.lexB .any l.toArray = true)
    (h : wpQuiet P l.toArray (fun w' => ∃ x : Later w, w' = x.val) (fun a' => ∀ w', (∃ x : Later w, w' = x.val) → Q .normal a' w') l a) : (Code.region id l.toArray true).wp P Q a w :=
  wp_region_quiet (C := fun w' => ∃ x : Later w, w' = x.val) hm hB ⟨⟨w.drew, (Below.refl _ _).drew⟩, rfl⟩ (by simpa using h)
theorem later_of {P : Program} {f : FuncId} {args : Array Value} {w : World} {x : Later w} {v : Value} (h : Calls P f args x.val fun e w' => e = .returned v ∧ Below x.val.heap.size x.val w') :
    Calls P f args x.val fun e w'' => e = .returned v ∧ ∃ y : Later w, w'' = y.val :=
  h.mono fun _ w' ⟨he, hf⟩ => ⟨he, ⟨w', fresh_trans x.fresh hf⟩, rfl⟩
theorem later_same {P : Program} {f : FuncId} {args : Array Value} {w : World} {x : Later w} {v : Value} (h : Calls P f args x.val fun e w' => e = .returned v ∧ w' = x.val) :
    Calls P f args x.val fun e w'' => e = .returned v ∧ ∃ y : Later w, w'' = y.val :=
  h.mono fun _ _ ⟨he, hf⟩ => ⟨he, x, hf⟩
theorem later_cell {w : World} {b o : Nat} {v : Value} (h : w.cell? ⟨b, o, none⟩ = some v) (x : Later w) : x.val.cell? ⟨b, o, none⟩ = some v := fresh_cell x.fresh h
end Go.Proofs.Ytjjnfpeeipainaa.Cl
namespace Go.Proofs.Ytjjnfpeeipainaa.Cl
open Go.RowKit
/-! Nodes in memory; EqNodes, CopyNodes, spareNodes, nodesStay. -/
theorem infoN : (Try.prog.info? 61).map (fun i => (i.zero, i.size, i.bytes)) = some (some (.agg #[.int .i64 0, .int .i64 0, .int .i64 0]), 3, 24) := by kernel_rfl
def nds (P T D : Nat → Int) : Nat → Value := fun j => if j % 3 = 0 then .int .i64 (P (j / 3)) else if j % 3 = 1 then .int .i64 (T (j / 3)) else .int .i64 (D (j / 3))
theorem nds_0 (P T D : Nat → Int) (i : Nat) : nds P T D (i * 3) = .int .i64 (P i) := by
  unfold nds
  rw [if_pos (by omega), show i * 3 / 3 = i by omega]
theorem nds_1 (P T D : Nat → Int) (i : Nat) : nds P T D (i * 3 + 1) = .int .i64 (T i) := by
  unfold nds
  rw [if_neg (by omega), if_pos (by omega), show (i * 3 + 1) / 3 = i by omega]
theorem nds_2 (P T D : Nat → Int) (i : Nat) : nds P T D (i * 3 + 2) = .int .i64 (D i) := by
  unfold nds
  rw [if_neg (by omega), if_neg (by omega), show (i * 3 + 2) / 3 = i by omega]
theorem nds_one (P T D : Nat → Int) (j : Nat) : (nds P T D j).oneCell' = true := by
  unfold nds
  split
  · rfl
  · split <;> rfl
theorem nds_congr {P T D P' T' D' : Nat → Int} {n : Nat} (h : ∀ i, i < n → P i = P' i ∧ T i = T' i ∧ D i = D' i) {j : Nat} (hj : j < n * 3) : nds P T D j = nds P' T' D' j := by
  obtain ⟨h1, h2, h3⟩ := h (j / 3) (by omega)
  unfold nds
  rw [h1, h2, h3]
theorem own_rda {w : World} {base : Nat} {e : TypeId} {sz : Nat} {u : Option Addr} {m c n : Nat} {cs : Nat → Value} (h : Own w base e sz (.slice u m c) n cs) : RdA w u sz n c cs := by
  obtain ⟨u', c', e', hr⟩ := h.rd
  cases e'
  exact hr
theorem RdA.node {w : World} {ao : Option Addr} {n cap : Nat} {P T D : Nat → Int} (h : RdA w ao 3 n cap (nds P T D)) (hn : 0 < n) : ∃ b o, ao = some ⟨b, o, none⟩ ∧ ∀ i, i < n → w.cell? ⟨b, o + i * 3, none⟩ = some (.int .i64 (P i)) ∧ w.cell? ⟨b, o + i * 3 + 1, none⟩ = some (.int .i64 (T i)) ∧ w.cell? ⟨b, o + i * 3 + 2, none⟩ = some (.int .i64 (D i)) := by
  obtain ⟨b, o, e, hc⟩ := h.at_ hn
  refine ⟨b, o, e, fun i hi => ?_⟩
  have c0 := hc (i * 3) (by omega)
  have c1 := hc (i * 3 + 1) (by omega)
  have c2 := hc (i * 3 + 2) (by omega)
  rw [nds_0] at c0
  rw [nds_1, ← Nat.add_assoc] at c1
  rw [nds_2, ← Nat.add_assoc] at c2
  exact ⟨c0, c1, c2⟩
theorem RdA.firsts {w : World} {ao : Option Addr} {sz n m cap : Nat} {cs : Nat → Value} (h : RdA w ao sz n cap cs) (hm : m ≤ n) : RdA w ao sz m cap cs :=
  ⟨by have := h.le; omega, h.top, fun h0 => by
    obtain ⟨b, off, e, hc⟩ := h.at_ (by omega)
    exact ⟨b, off, e, fun j hj => hc j (Nat.lt_of_lt_of_le hj (Nat.mul_le_mul_right sz hm))⟩⟩
/-- the nodes with a mark behind them -/
def mkN (n : Nat) (f : Nat → Int) (x : Int) : Nat → Int := fun i => if i < n then f i else x
theorem mkN_lt {n i : Nat} (f : Nat → Int) (x : Int) (h : i < n) : mkN n f x i = f i := if_pos h
theorem mkN_at (n : Nat) (f : Nat → Int) (x : Int) : mkN n f x n = x := if_neg (by omega)
def mkd (n : Nat) (P T D : Nat → Int) : Nat → Value := nds (mkN n P (-75)) (mkN n T (-76)) (mkN n D (-77))
theorem mkd_lt (n : Nat) (P T D : Nat → Int) {j : Nat} (h : j < n * 3) : mkd n P T D j = nds P T D j := nds_congr (n := n) (fun _ hi => ⟨mkN_lt P _ hi, mkN_lt T _ hi, mkN_lt D _ hi⟩) h
/-- a marked tree -/
structure Mkd (w w' : World) (u : Option Addr) (c n : Nat) (P T D : Nat → Int) : Prop where
  own : Own w' w.heap.size 61 3 (.slice u (n + 1) c) (n + 1) (mkd n P T D)
  low : Below w.heap.size w w'
theorem Mkd.all {w w' : World} {u : Option Addr} {c n : Nat} {P T D : Nat → Int} (h : Mkd w w' u c n P T D) : RdA w' u 3 (n + 1) c (mkd n P T D) := own_rda h.own
theorem Mkd.rd {w w' : World} {u : Option Addr} {c n : Nat} {P T D : Nat → Int} (h : Mkd w w' u c n P T D) : RdA w' u 3 n c (nds P T D) := (h.all.firsts (Nat.le_succ n)).congr (fun _ hj => mkd_lt n P T D hj)
end Go.Proofs.Ytjjnfpeeipainaa.Cl
namespace Go.Proofs.Ytjjnfpeeipainaa.Cl
open Go.RowKit
/-! Raw nodes in memory; EqRaw, CopyRaw, spareRaw, rawStays. -/
theorem infoR : (Try.prog.info? 48).map (fun i => (i.zero, i.size, i.bytes)) = some (some (.agg #[.int .i64 0, .int .i64 0]), 2, 16) := by kernel_rfl
def rwF (R : List (Int × Int)) : Nat → Value := fun j => if j % 2 = 0 then .int .i64 (R.getD (j / 2) (0, 0)).1 else .int .i64 (R.getD (j / 2) (0, 0)).2
theorem rwF_app (R : List (Int × Int)) (x : Int × Int) (j : Nat) (h : j < R.length * 2) : rwF R j = rwF (R ++ [x]) j := by
  unfold rwF
  rw [List.getD_eq_getElem?_getD, List.getD_eq_getElem?_getD, List.getElem?_append_left (by omega)]
theorem rwF_fst (R : List (Int × Int)) (x : Int × Int) : rwF (R ++ [x]) (R.length * 2) = .int .i64 x.1 := by
  unfold rwF
  rw [if_pos (by omega), show R.length * 2 / 2 = R.length by omega]
  simp
theorem rwF_snd (R : List (Int × Int)) (x : Int × Int) : rwF (R ++ [x]) (R.length * 2 + 1) = .int .i64 x.2 := by
  unfold rwF
  rw [if_neg (by omega), show (R.length * 2 + 1) / 2 = R.length by omega]
  simp
theorem rwF_one (R : List (Int × Int)) (j : Nat) : (rwF R j).oneCell' = true := by
  unfold rwF
  split <;> rfl
theorem rwF_1 (R : List (Int × Int)) (k : Nat) : rwF R (k * 2) = .int .i64 (R.getD k (0, 0)).1 := by
  unfold rwF
  rw [if_pos (by omega), show k * 2 / 2 = k by omega]
theorem rwF_2 (R : List (Int × Int)) (k : Nat) : rwF R (k * 2 + 1) = .int .i64 (R.getD k (0, 0)).2 := by
  unfold rwF
  rw [if_neg (by omega), show (k * 2 + 1) / 2 = k by omega]
set_option maxRecDepth 20000 in
set_option maxHeartbeats 1600000 in
theorem eqRaw_same {w : World} {ao bo : Option Addr} {ca cb : Nat} {R : List (Int × Int)} (ha : RdA w ao 2 R.length ca (rwF R)) (hb : RdA w bo 2 R.length cb (rwF R)) :
    Calls Try.prog 15 #[.slice ao R.length ca, .slice bo R.length cb] w fun e w' => e = .returned (.bool true) ∧ Below w.heap.size w w' := by
  obtain ⟨n, hnl⟩ : ∃ n, n = R.length := ⟨_, rfl⟩
  rw [← hnl] at ha hb ⊢
  have hn : n ≤ 9223372036854775807 := by have := ha.le; have := ha.top; unfold maxLen at this; omega
  go_enter Try.func15, Try.ntmps15
  go_wp2
  go_loopw [5] (fun i wr => ∃ k : Nat, k ≤ n ∧ i = .int .i64 k ∧ Below w.heap.size w wr) (fun i _ => n - (intOf i).toNat)
  case atStart => exact ⟨0, by omega, rfl, Below.refl _ _⟩
  case round =>
    obtain ⟨k, hk, rfl, hf⟩ := hrel
    by_cases hlt : k < n
    · obtain ⟨b1, o1, rfl, h1⟩ := (ha.fresh hf).at_ (by omega)
      obtain ⟨b2, o2, rfl, h2⟩ := (hb.fresh hf).at_ (by omega)
      have c1 := h1 (k * 2) (by omega)
      have d1 := h1 (k * 2 + 1) (by omega)
      have c2 := h2 (k * 2) (by omega)
      have d2 := h2 (k * 2 + 1) (by omega)
      rw [rwF_1] at c1 c2
      rw [rwF_2, ← Nat.add_assoc] at d1 d2
      generalize (R.getD k (0, 0)).1 = y1 at c1 c2
      generalize (R.getD k (0, 0)).2 = y2 at d1 d2
      clear h1 h2
      go_wp2
      go_quiet (fail)
      go_wp2
      go_roundw
      case rel => exact ⟨k + 1, by omega, by go_num, below_drewN hf _⟩
      case measure => simp [intOf]; omega
    · obtain rfl : n = k := by omega
      go_wp2
      go_ret
      exact ⟨rfl, hf⟩
theorem rwF_pre {R S : List (Int × Int)} (h : R <+: S) {j : Nat} (hj : j < R.length * 2) : rwF R j = rwF S j := by
  obtain ⟨r, rfl⟩ := h
  unfold rwF
  rw [List.getD_eq_getElem?_getD, List.getD_eq_getElem?_getD, List.getElem?_append_left (by omega)]
theorem RdA.raw {w : World} {ao : Option Addr} {cap : Nat} {R : List (Int × Int)} {n : Nat} (hn' : n = R.length) (h : RdA w ao 2 n cap (rwF R)) (hn : 0 < n) : ∃ b o, ao = some ⟨b, o, none⟩ ∧ ∀ i, i < n → w.cell? ⟨b, o + i * 2, none⟩ = some (.int .i64 (R.getD i (0, 0)).1) ∧ w.cell? ⟨b, o + i * 2 + 1, none⟩ = some (.int .i64 (R.getD i (0, 0)).2) := by
  obtain ⟨b, o, e, hc⟩ := h.at_ hn
  refine ⟨b, o, e, fun i hi => ?_⟩
  have c0 := hc (i * 2) (by omega)
  have c1 := hc (i * 2 + 1) (by omega)
  rw [rwF_1] at c0
  rw [rwF_2, ← Nat.add_assoc] at c1
  exact ⟨c0, c1⟩
theorem rw_cells (w : World) (R : List (Int × Int)) (p t : Int) {n : Nat} (hn : n = R.length) : ∀ j, j < 1 * 2 → (w.alloc (.cells #[.int .i64 p, .int .i64 t] 48)).cell? ⟨w.heap.size, j, none⟩ = some (rwF (R ++ [(p, t)]) (n * 2 + j)) := fun j hj => by
  subst hn
  unfold World.cell?
  rw [World.alloc_heap_new]
  match j, hj with
  | 0, _ => rw [Nat.add_zero, rwF_fst]; rfl
  | 1, _ => rw [rwF_snd]; rfl
theorem take_app (R : List (Int × Int)) {k : Nat} (h : k < R.length) : R.take (k + 1) = R.take k ++ [((R.getD k (0, 0)).1, (R.getD k (0, 0)).2)] := by
  rw [List.take_succ_eq_append_getElem h, List.getD_eq_getElem?_getD, List.getElem?_eq_getElem h]
  rfl
set_option maxRecDepth 20000 in
set_option maxHeartbeats 1600000 in
theorem copyR_any {w : World} {ao : Option Addr} {cap : Nat} {R : List (Int × Int)} (h : RdA w ao 2 R.length cap (rwF R)) (hn : R.length ≤ 1048576) :
    Calls Try.prog 24 #[.slice ao R.length cap] w fun e w' => ∃ u uc, e = .returned (.slice u R.length uc) ∧ Own w' w.heap.size 48 2 (.slice u R.length uc) R.length (rwF R) ∧ Below w.heap.size w w' := by
  obtain ⟨n, HN⟩ : ∃ n, Hid (n = R.length) := ⟨_, rfl⟩
  rw [← HN.out] at h hn ⊢
  have HH := hidd h
  clear h
  go_enter Try.func24, Try.ntmps24
  go_wp2
  go_loopw [3, 4] (fun v i wr => ∃ k : Nat, k ≤ n ∧ i = .int .i64 k ∧ Hid (Own wr w.heap.size 48 2 v k (rwF (R.take k))) ∧ Hid (Below w.heap.size w wr)) (fun _ i _ => n - (intOf i).toNat)
  case atStart => exact ⟨0, by omega, rfl, own_nil _ _ _ _ _, Below.refl _ _⟩
  case round =>
    obtain ⟨k, hk, rfl, HO, HF⟩ := hrel
    have hsz := HF.out.size
    by_cases hlt : k < n
    · obtain ⟨b1, o1, hu, h1⟩ := (HH.out.fresh HF.out).raw HN.out (by omega)
      subst hu
      obtain ⟨c1, c2⟩ := h1 k hlt
      have hR : k < R.length := by have := HN.out; omega
      have HX := hidd (rw_cells wr (R.take k) (R.getD k (0, 0)).1 (R.getD k (0, 0)).2 (n := k) (by rw [List.length_take]; omega))
      rw [← take_app R hR] at HX
      have HO2 : Hid (Own wr w.heap.size 48 2 u3 k (rwF (R.take (k + 1)))) := HO.out.congr (fun j hj => rwF_pre (by rw [take_app R hR]; exact List.prefix_append _ _) (by rw [List.length_take]; omega))
      have g1 : (k : Int) < (n : Int) := by omega
      clear h1 hR
      generalize (R.getD k (0, 0)).1 = y1 at c1 HX
      generalize (R.getD k (0, 0)).2 = y2 at c2 HX
      go_wp2_with (at_builtin; refine wpList_app _ rfl _ _ 38 rfl w.heap.size 48 (.agg #[.int .i64 0, .int .i64 0]) 2 16 Try.underlying38 infoR rfl (by decide) _ k (rwF (R.take (k + 1))) rfl (HO2.out.kept (fresh_alloc _ _)) _ 1 1 rfl HX.out (fun j _ => rwF_one _ _) (by decide) (by unfold maxLen; omega) (by omega) (by simp; omega) ?_)
      intro v' w1 hown' happ
      have HF1 := hidd (happ.below (HF.out.alloc hsz _) (HO2.out.kept (fresh_alloc _ _)) (Nat.le_refl _) (by simp; omega))
      have HO1 := hidd hown'
      clear happ hown'
      go_wp2
      go_roundw
      case rel => exact ⟨k + 1, by omega, by go_num, HO1, HF1⟩
      case measure => simp [intOf]; omega
    · obtain rfl : k = n := by omega
      have HO3 : Hid (Own wr w.heap.size 48 2 u3 k (rwF R)) := by have := HO.out; rw [List.take_of_length_le (by have := HN.out; omega)] at this; exact this
      obtain ⟨u, uc, rfl, _⟩ := HO3.out.rd
      go_wp2
      go_ret
      exact ⟨u, uc, rfl, HO3.out, HF.out⟩
/-- the list with its marks -/
def mkR (R : List (Int × Int)) : List (Int × Int) := R ++ [(-71, -72), (-73, -74)]
theorem mkR_len (R : List (Int × Int)) : (mkR R).length = R.length + 2 := by unfold mkR; simp
structure Mkr (w w' : World) (u : Option Addr) (c : Nat) (R : List (Int × Int)) : Prop where
  own : Own w' w.heap.size 48 2 (.slice u (R.length + 2) c) (R.length + 2) (rwF (mkR R))
  low : Below w.heap.size w w'
theorem Mkr.all {w w' : World} {u : Option Addr} {c : Nat} {R : List (Int × Int)} (h : Mkr w w' u c R) : RdA w' u 2 (R.length + 2) c (rwF (mkR R)) := own_rda h.own
theorem mkR_rd {w : World} {u : Option Addr} {c : Nat} {R : List (Int × Int)} (h : RdA w u 2 (R.length + 2) c (rwF (mkR R))) : RdA w u 2 R.length c (rwF R) := (h.firsts (by omega)).congr (fun _ hj => (rwF_pre (List.prefix_append _ _) hj).symm)
end Go.Proofs.Ytjjnfpeeipainaa.Cl
namespace Go.Proofs.Ytjjnfpeeipainaa.Cl
open Go.RowKit
/-! The reference's ways of raw nodes, as lists of tokens. -/
def gdW (p t v : Int) (i : Nat) : Prop := 1 ≤ t ∧ t < v ∧ -1 ≤ p ∧ p < (i : Int)
instance (p t v : Int) (i : Nat) : Decidable (gdW p t v i) := by unfold gdW; infer_instance
def wlF (p t : Nat → Int) (v : Int) : Nat → Nat → Option (List Int)
  | 0, _ => none
  | f + 1, i => if gdW (p i) (t i) v i then (if p i = -1 then some [t i] else (wlF p t v f (p i).toNat).map (· ++ [t i])) else none
theorem wlF_eq (p t : Nat → Int) (v : Int) : ∀ i f, i < f → wlF p t v f i = wlF p t v (i + 1) i := by
  intro i
  induction i using Nat.strongRecOn with
  | ind i ih =>
    intro f hf
    obtain ⟨g, rfl⟩ : ∃ g, f = g + 1 := ⟨f - 1, by omega⟩
    unfold wlF
    by_cases hg : gdW (p i) (t i) v i
    · rw [if_pos hg, if_pos hg]
      by_cases hp : p i = -1
      · rw [if_pos hp, if_pos hp]
      · have h4 := hg.2.2.2
        have h3 := hg.2.2.1
        rw [if_neg hp, if_neg hp, ih (p i).toNat (by omega) g (by omega), ih (p i).toNat (by omega) i (by omega)]
    · rw [if_neg hg, if_neg hg]
/-- the tokens of a node's way, if it is good -/
def wl (p t : Nat → Int) (v : Int) (i : Nat) : Option (List Int) := wlF p t v (i + 1) i
theorem wl_bad {p t : Nat → Int} {v : Int} {i : Nat} (h : ¬ gdW (p i) (t i) v i) : wl p t v i = none := by
  unfold wl wlF
  rw [if_neg h]
theorem wl_one {p t : Nat → Int} {v : Int} {i : Nat} (h : gdW (p i) (t i) v i) (hp : p i = -1) : wl p t v i = some [t i] := by
  unfold wl wlF
  rw [if_pos h, if_pos hp]
theorem wl_up {p t : Nat → Int} {v : Int} {i : Nat} (h : gdW (p i) (t i) v i) (hp : ¬ p i = -1) : wl p t v i = (wl p t v (p i).toNat).map (· ++ [t i]) := by
  have h4 := h.2.2.2
  have h3 := h.2.2.1
  unfold wl
  rw [wlF, if_pos h, if_neg hp, wlF_eq p t v (p i).toNat i (by omega)]
theorem wl_len {p t : Nat → Int} {v : Int} : ∀ i L, wl p t v i = some L → 1 ≤ L.length ∧ L.length ≤ i + 1 ∧ ∀ x ∈ L, 1 ≤ x ∧ x < v := by
  intro i
  induction i using Nat.strongRecOn with
  | ind i ih =>
    intro L e
    by_cases hg : gdW (p i) (t i) v i
    · by_cases hp : p i = -1
      · rw [wl_one hg hp] at e
        cases e
        refine ⟨by simp, by simp, fun x hx => ?_⟩
        rw [List.mem_singleton.1 hx]
        exact ⟨hg.1, hg.2.1⟩
      · rw [wl_up hg hp] at e
        obtain ⟨M, e1, rfl⟩ := Option.map_eq_some_iff.1 e
        have h4 := hg.2.2.2
        have h3 := hg.2.2.1
        obtain ⟨a1, a2, a3⟩ := ih (p i).toNat (by omega) M e1
        refine ⟨by simp, by simp; omega, fun x hx => ?_⟩
        rcases List.mem_append.1 hx with hx | hx
        · exact a3 x hx
        · rw [List.mem_singleton.1 hx]
          exact ⟨hg.1, hg.2.1⟩
    · rw [wl_bad hg] at e
      cases e
/-- a way's beginning is a way, at an earlier node -/
theorem wl_pre {p t : Nat → Int} {v : Int} {i : Nat} {L : List Int} (e : wl p t v i = some L) (h : 1 < L.length) : ∃ j, j < i ∧ wl p t v j = some L.dropLast := by
  by_cases hg : gdW (p i) (t i) v i
  · by_cases hp : p i = -1
    · rw [wl_one hg hp] at e
      cases e
      simp at h
    · rw [wl_up hg hp] at e
      obtain ⟨M, e1, rfl⟩ := Option.map_eq_some_iff.1 e
      have h4 := hg.2.2.2
      have h3 := hg.2.2.1
      exact ⟨(p i).toNat, by omega, by rw [e1]; simp⟩
  · rw [wl_bad hg] at e
    cases e
/-- one node of the search for ways -/
def wsN (p t : Nat → Int) (v : Int) (d : Nat) (WS : List (List Int)) (i : Nat) : List (List Int) :=
  match wl p t v i with
  | some L => if L.length = d ∧ L ∉ WS then WS ++ [L] else WS
  | none => WS
def wsR (p t : Nat → Int) (v : Int) (d : Nat) (WS : List (List Int)) : Nat → List (List Int)
  | 0 => WS
  | i + 1 => wsN p t v d (wsR p t v d WS i) i
/-- the ways of depths 1 to d -/
def wsD (p t : Nat → Int) (v : Int) (n : Nat) : Nat → List (List Int)
  | 0 => []
  | d + 1 => wsR p t v (d + 1) (wsD p t v n d) n
theorem wsN_new {p t : Nat → Int} {v : Int} {d : Nat} {WS : List (List Int)} {i : Nat} {L : List Int} (e : wl p t v i = some L) (h1 : L.length = d) (h2 : L ∉ WS) : wsN p t v d WS i = WS ++ [L] := by
  unfold wsN
  rw [e]
  exact if_pos ⟨h1, h2⟩
theorem wsN_old {p t : Nat → Int} {v : Int} {d : Nat} {WS : List (List Int)} {i : Nat} (h : ∀ L, wl p t v i = some L → L.length = d → L ∈ WS) : wsN p t v d WS i = WS := by
  unfold wsN
  cases e : wl p t v i with
  | none => rfl
  | some L =>
    show (if _ then _ else _) = _
    rw [if_neg]
    rintro ⟨h1, h2⟩
    exact h2 (h L e h1)
/-- what a list of ways keeps while depth d is gathered -/
structure WsOk (p t : Nat → Int) (v : Int) (n d : Nat) (WS : List (List Int)) : Prop where
  some_ : ∀ L ∈ WS, ∃ i, i < n ∧ wl p t v i = some L
  le : ∀ L ∈ WS, L.length ≤ d
  nodup : WS.Nodup
  up : WS.Pairwise (fun a b => a.length ≤ b.length)
  all : ∀ i, i < n → ∀ L, wl p t v i = some L → L.length < d → L ∈ WS
  pre : ∀ k (h : k < WS.length), 1 < (WS[k]).length → ∃ j, ∃ h' : j < k, (WS[j]'(by omega)) = (WS[k]).dropLast
theorem WsOk.next {p t : Nat → Int} {v : Int} {n d : Nat} {WS : List (List Int)} (h : WsOk p t v n d WS) {i : Nat} (hi : i < n) : WsOk p t v n d (wsN p t v d WS i) := by
  cases e : wl p t v i with
  | none => rw [wsN_old (fun L q => by rw [e] at q; cases q)]; exact h
  | some L =>
    by_cases hc : L.length = d ∧ L ∉ WS
    · rw [wsN_new e hc.1 hc.2]
      refine ⟨fun M hM => ?_, fun M hM => ?_, ?_, ?_, fun j hj M q hl => List.mem_append_left _ (h.all j hj M q hl), fun k hk hl => ?_⟩
      · rcases List.mem_append.1 hM with hM | hM
        · exact h.some_ M hM
        · rw [List.mem_singleton.1 hM]; exact ⟨i, hi, e⟩
      · rcases List.mem_append.1 hM with hM | hM
        · exact h.le M hM
        · rw [List.mem_singleton.1 hM]; omega
      · rw [List.nodup_append]
        refine ⟨h.nodup, by simp, fun a ha b hb q => ?_⟩
        rw [List.mem_singleton.1 hb] at q
        exact hc.2 (q ▸ ha)
      · rw [List.pairwise_append]
        refine ⟨h.up, by simp, fun a ha b hb => ?_⟩
        rw [List.mem_singleton.1 hb, hc.1]
        exact h.le a ha
      · by_cases hkk : k < WS.length
        · rw [List.getElem_append_left hkk] at hl ⊢
          obtain ⟨j, hj, q⟩ := h.pre k hkk hl
          exact ⟨j, hj, by rw [List.getElem_append_left (by omega)]; exact q⟩
        · have hk2 : k = WS.length := by simp at hk; omega
          subst hk2
          have e9 : (WS ++ [L])[WS.length] = L := by simp
          rw [e9] at hl ⊢
          obtain ⟨j, hj, q⟩ := wl_pre e hl
          have hm := h.all j (by omega) L.dropLast q (by simp; omega)
          obtain ⟨z, hz, qz⟩ := List.getElem_of_mem hm
          exact ⟨z, hz, by rw [List.getElem_append_left hz]; exact qz⟩
    · rw [wsN_old (fun M q hl => by rw [e] at q; cases q; exact Classical.byContradiction fun hn => hc ⟨hl, hn⟩)]
      exact h
theorem wsR_mono {p t : Nat → Int} {v : Int} {d : Nat} {WS : List (List Int)} {L : List Int} : ∀ i, L ∈ wsN p t v d WS i ∨ L ∉ WS := by
  intro i
  by_cases h : L ∈ WS
  · left
    unfold wsN
    cases wl p t v i with
    | none => exact h
    | some M =>
      show L ∈ (if _ then _ else _)
      split
      · exact List.mem_append_left _ h
      · exact h
  · exact .inr h
theorem wsR_ok {p t : Nat → Int} {v : Int} {n d : Nat} {WS : List (List Int)} (h : WsOk p t v n d WS) : ∀ i, i ≤ n → WsOk p t v n d (wsR p t v d WS i) ∧ ∀ j, j < i → ∀ L, wl p t v j = some L → L.length = d → L ∈ wsR p t v d WS i := by
  intro i
  induction i with
  | zero => intro _; exact ⟨h, fun j hj => absurd hj (by omega)⟩
  | succ i ih =>
    intro hi
    obtain ⟨a, b⟩ := ih (by omega)
    refine ⟨a.next (by omega), fun j hj L q hl => ?_⟩
    show L ∈ wsN p t v d (wsR p t v d WS i) i
    by_cases e : j = i
    · subst e
      by_cases hm : L ∈ wsR p t v d WS j
      · exact (wsR_mono j).resolve_right (fun q => q hm)
      · rw [wsN_new q hl hm]; simp
    · exact (wsR_mono i).resolve_right (fun q' => q' (b j (by omega) L q hl))
theorem wsD_ok (p t : Nat → Int) (v : Int) (n : Nat) : ∀ d, WsOk p t v n (d + 1) (wsD p t v n d) := by
  intro d
  induction d with
  | zero => exact ⟨fun L h => absurd h (by simp [wsD]), fun L h => absurd h (by simp [wsD]), List.nodup_nil, List.Pairwise.nil, fun i _ L q hl => absurd hl (by have := (wl_len i L q).1; omega), fun k h => absurd h (by simp [wsD])⟩
  | succ d ih =>
    obtain ⟨a, b⟩ := wsR_ok ih n (Nat.le_refl _)
    refine ⟨a.some_, fun L hL => Nat.le_succ_of_le (a.le L hL), a.nodup, a.up, fun i hi L q hl => ?_, a.pre⟩
    by_cases e : L.length = d + 1
    · exact b i hi L q e
    · exact a.all i hi L q (by omega)
end Go.Proofs.Ytjjnfpeeipainaa.Cl
namespace Go.Proofs.Ytjjnfpeeipainaa.Cl
open Go.RowKit
/-! A stable sort: what its steps do to a row of numbers, and its order. -/
/-- by key, then by number -/
def ltK (K : Nat → Int) (x y : Nat) : Prop := K x < K y ∨ (K x = K y ∧ x < y)
theorem ltK.trans {K : Nat → Int} {x y z : Nat} (h : ltK K x y) (k : ltK K y z) : ltK K x z := by
  unfold ltK at *
  rcases h with h | ⟨h1, h2⟩ <;> rcases k with k | ⟨k1, k2⟩
  · exact .inl (by omega)
  · exact .inl (by omega)
  · exact .inl (by omega)
  · exact .inr ⟨by omega, by omega⟩
theorem ltK_of {K : Nat → Int} {x y : Nat} (hxy : x < y) (h : ¬ K y < K x) : ltK K x y := by
  unfold ltK
  by_cases e : K x = K y
  · exact .inr ⟨e, hxy⟩
  · exact .inl (by omega)
/-- in order from i to j -/
def Srt (K : Nat → Int) (d : Nat → Nat) (i j : Nat) : Prop := ∀ u v, i ≤ u → u < v → v < j → ltK K (d u) (d v)
theorem Srt.sub {K : Nat → Int} {d : Nat → Nat} {i j i' j' : Nat} (h : Srt K d i j) (hi : i ≤ i') (hj : j' ≤ j) : Srt K d i' j' := fun u v h1 h2 h3 => h u v (by omega) h2 (by omega)
theorem Srt.congr {K : Nat → Int} {d d' : Nat → Nat} {i j : Nat} (h : Srt K d i j) (e : ∀ u, i ≤ u → u < j → d' u = d u) : Srt K d' i j := fun u v h1 h2 h3 => by
  rw [e u h1 (by omega), e v (by omega) h3]
  exact h u v h1 h2 h3
/-- moved within a to b alone -/
structure Fr (d d' : Nat → Nat) (a b : Nat) : Prop where
  out : ∀ i, i < a ∨ b ≤ i → d' i = d i
  inn : ∀ i, a ≤ i → i < b → ∃ j, a ≤ j ∧ j < b ∧ d' i = d j
theorem Fr.refl (d : Nat → Nat) (a b : Nat) : Fr d d a b := ⟨fun _ _ => rfl, fun i h1 h2 => ⟨i, h1, h2, rfl⟩⟩
theorem Fr.trans {d e f : Nat → Nat} {a b : Nat} (h : Fr d e a b) (k : Fr e f a b) : Fr d f a b :=
  ⟨fun i hi => (k.out i hi).trans (h.out i hi), fun i h1 h2 => by
    obtain ⟨j, j1, j2, ej⟩ := k.inn i h1 h2
    obtain ⟨l, l1, l2, el⟩ := h.inn j j1 j2
    exact ⟨l, l1, l2, ej.trans el⟩⟩
theorem Fr.wide {d e : Nat → Nat} {a b a' b' : Nat} (h : Fr d e a b) (ha : a' ≤ a) (hb : b ≤ b') : Fr d e a' b' :=
  ⟨fun i hi => h.out i (by omega), fun i h1 h2 => by
    by_cases hi : a ≤ i ∧ i < b
    · obtain ⟨j, j1, j2, ej⟩ := h.inn i hi.1 hi.2
      exact ⟨j, by omega, by omega, ej⟩
    · exact ⟨i, h1, h2, h.out i (by omega)⟩⟩
/-- two stretches of n change places -/
def swp (d : Nat → Nat) (a b n : Nat) : Nat → Nat := fun i => if a ≤ i ∧ i < a + n then d (b + (i - a)) else if b ≤ i ∧ i < b + n then d (a + (i - b)) else d i
/-- two stretches side by side change places -/
def rot (d : Nat → Nat) (a m b : Nat) : Nat → Nat := fun i => if a ≤ i ∧ i < a + (b - m) then d (m + (i - a)) else if a + (b - m) ≤ i ∧ i < b then d (i - (b - m)) else d i
theorem swp_zero (d : Nat → Nat) (a b : Nat) : swp d a b 0 = d := by
  funext i
  unfold swp
  rw [if_neg (by omega), if_neg (by omega)]
theorem swp_step (d : Nat → Nat) {a b k : Nat} (h : a + k < b) (i : Nat) : (if i = b + k then swp d a b k (a + k) else if i = a + k then swp d a b k (b + k) else swp d a b k i) = swp d a b (k + 1) i := by
  have e1 : swp d a b k (a + k) = d (a + k) := by unfold swp; rw [if_neg (by omega), if_neg (by omega)]
  have e2 : swp d a b k (b + k) = d (b + k) := by unfold swp; rw [if_neg (by omega), if_neg (by omega)]
  rw [e1, e2]
  unfold swp
  repeat' split
  all_goals first | rfl | (congr 1; omega) | (exfalso; omega) | omega
theorem rot_more (d : Nat → Nat) {m i j : Nat} (hi : i ≤ m) (h : j < i) : rot (swp d (m - i) m j) (m - (i - j)) m (m + j) = rot d (m - i) m (m + j) := by
  funext t
  unfold rot swp
  repeat' split
  all_goals first | (congr 1; omega) | omega | rfl
theorem rot_less (d : Nat → Nat) {m i j : Nat} (hi : i ≤ m) (h : i < j) : rot (swp d (m - i) (m + j - i) i) (m - i) m (m + (j - i)) = rot d (m - i) m (m + j) := by
  funext t
  unfold rot swp
  repeat' split
  all_goals first | (congr 1; omega) | omega | rfl
theorem rot_same (d : Nat → Nat) {m i : Nat} (hi : i ≤ m) : swp d (m - i) m i = rot d (m - i) m (m + i) := by
  funext t
  unfold rot swp
  repeat' split
  all_goals first | (congr 1; omega) | omega | rfl
theorem rot_fr (d : Nat → Nat) {a m b : Nat} (h1 : a ≤ m) (h2 : m ≤ b) : Fr d (rot d a m b) a b := by
  refine ⟨fun i hi => ?_, fun i hi1 hi2 => ?_⟩
  · unfold rot
    rw [if_neg (by omega), if_neg (by omega)]
  · unfold rot
    by_cases h3 : a ≤ i ∧ i < a + (b - m)
    · rw [if_pos h3]; exact ⟨_, by omega, by omega, rfl⟩
    · rw [if_neg h3, if_pos (by omega)]; exact ⟨_, by omega, by omega, rfl⟩
/-- what symMerge's search finds -/
structure Cut (K : Nat → Int) (d : Nat → Nat) (a m b mid s : Nat) : Prop where
  ge : a ≤ s
  sm : s ≤ m
  smid : s ≤ mid
  eb : mid + m - s ≤ b
  lo : a < s → mid + m - s < b → ltK K (d (s - 1)) (d (mid + m - s))
  hi : s < m → s < mid → ltK K (d (mid + m - 1 - s)) (d s)
theorem Cut.parts {K : Nat → Int} {d : Nat → Nat} {a m b mid s : Nat} (h : Cut K d a m b mid s) (hm1 : a ≤ mid) (hm2 : mid ≤ b) (hL : Srt K d a m) (hR : Srt K d m b) :
    Srt K (rot d s m (mid + m - s)) a s ∧ Srt K (rot d s m (mid + m - s)) s mid ∧ Srt K (rot d s m (mid + m - s)) mid (mid + m - s) ∧ Srt K (rot d s m (mid + m - s)) (mid + m - s) b ∧ ∀ u v, a ≤ u → u < mid → mid ≤ v → v < b → ltK K (rot d s m (mid + m - s) u) (rot d s m (mid + m - s) v) := by
  obtain ⟨h1, h2, h3, h4, h5, h6⟩ := h
  have r1 : ∀ u, u < s → rot d s m (mid + m - s) u = d u := fun u hu => by unfold rot; rw [if_neg (by omega), if_neg (by omega)]
  have r2 : ∀ u, s ≤ u → u < mid → rot d s m (mid + m - s) u = d (m + (u - s)) := fun u hu hu2 => by unfold rot; rw [if_pos (by omega)]
  have r3 : ∀ u, mid ≤ u → u < mid + m - s → rot d s m (mid + m - s) u = d (u - (mid - s)) := fun u hu hu2 => by unfold rot; rw [if_neg (by omega), if_pos (by omega)]; congr 1; omega
  have r4 : ∀ u, mid + m - s ≤ u → rot d s m (mid + m - s) u = d u := fun u hu => by unfold rot; rw [if_neg (by omega), if_neg (by omega)]
  -- every left one below s is ahead of every right one from the end on
  have c1 : ∀ u v, a ≤ u → u < s → mid + m - s ≤ v → v < b → ltK K (d u) (d v) := fun u v hu hu2 hv hv2 => by
    have k1 := h5 (by omega) (by omega)
    have k2 : u = s - 1 ∨ ltK K (d u) (d (s - 1)) := by
      by_cases e : u = s - 1
      · exact .inl e
      · exact .inr (hL u (s - 1) hu (by omega) (by omega))
    have k3 : v = mid + m - s ∨ ltK K (d (mid + m - s)) (d v) := by
      by_cases e : v = mid + m - s
      · exact .inl e
      · exact .inr (hR (mid + m - s) v (by omega) (by omega) hv2)
    rcases k2 with rfl | k2 <;> rcases k3 with rfl | k3
    · exact k1
    · exact k1.trans k3
    · exact k2.trans k1
    · exact (k2.trans k1).trans k3
  have c2 : ∀ u v, m ≤ u → u < mid + m - s → s ≤ v → v < m → ltK K (d u) (d v) := fun u v hu hu2 hv hv2 => by
    have k1 := h6 (by omega) (by omega)
    have k2 : u = mid + m - 1 - s ∨ ltK K (d u) (d (mid + m - 1 - s)) := by
      by_cases e : u = mid + m - 1 - s
      · exact .inl e
      · exact .inr (hR u (mid + m - 1 - s) hu (by omega) (by omega))
    have k3 : v = s ∨ ltK K (d s) (d v) := by
      by_cases e : v = s
      · exact .inl e
      · exact .inr (hL s v h1 (by omega) hv2)
    rcases k2 with rfl | k2 <;> rcases k3 with rfl | k3
    · exact k1
    · exact k1.trans k3
    · exact k2.trans k1
    · exact (k2.trans k1).trans k3
  refine ⟨fun u v hu huv hv => ?_, fun u v hu huv hv => ?_, fun u v hu huv hv => ?_, fun u v hu huv hv => ?_, fun u v hu hu2 hv hv2 => ?_⟩
  · rw [r1 u (by omega), r1 v hv]; exact hL u v hu huv (by omega)
  · rw [r2 u hu (by omega), r2 v (by omega) hv]; exact hR _ _ (by omega) (by omega) (by omega)
  · rw [r3 u hu (by omega), r3 v (by omega) hv]; exact hL _ _ (by omega) (by omega) (by omega)
  · rw [r4 u hu, r4 v (by omega)]; exact hR u v (by omega) huv hv
  · by_cases q1 : u < s
    · rw [r1 u q1]
      by_cases q2 : v < mid + m - s
      · rw [r3 v hv q2]; exact hL _ _ hu (by omega) (by omega)
      · rw [r4 v (by omega)]; exact c1 u v hu q1 (by omega) hv2
    · rw [r2 u (by omega) hu2]
      by_cases q2 : v < mid + m - s
      · rw [r3 v hv q2]; exact c2 _ _ (by omega) (by omega) (by omega) (by omega)
      · rw [r4 v (by omega)]; exact hR _ _ (by omega) (by omega) hv2
/-- two sorted halves, all of the one ahead of all of the other -/
theorem Srt.join {K : Nat → Int} {d : Nat → Nat} {a mid b : Nat} (h1 : Srt K d a mid) (h2 : Srt K d mid b) (hx : ∀ u v, a ≤ u → u < mid → mid ≤ v → v < b → ltK K (d u) (d v)) : Srt K d a b := fun u v hu huv hv => by
  by_cases q1 : v < mid
  · exact h1 u v hu huv q1
  · by_cases q2 : u < mid
    · exact hx u v hu q2 (by omega) hv
    · exact h2 u v (by omega) huv hv
/-- the first one goes up to the place i - 1 -/
def upD (d : Nat → Nat) (a k : Nat) : Nat → Nat := fun t => if a ≤ t ∧ t < k then d (t + 1) else if t = k then d a else d t
theorem upD_zero (d : Nat → Nat) (a : Nat) : upD d a a = d := by
  funext t
  unfold upD
  rw [if_neg (by omega)]
  split
  · rename_i h; rw [h]
  · rfl
theorem upD_step (d : Nat → Nat) {a k : Nat} (h : a ≤ k) (t : Nat) : (if t = k + 1 then upD d a k k else if t = k then upD d a k (k + 1) else upD d a k t) = upD d a (k + 1) t := by
  have e1 : upD d a k k = d a := by unfold upD; rw [if_neg (by omega), if_pos rfl]
  have e2 : upD d a k (k + 1) = d (k + 1) := by unfold upD; rw [if_neg (by omega), if_neg (by omega)]
  rw [e1, e2]
  unfold upD
  repeat' split
  all_goals first | rfl | (congr 1; omega) | (exfalso; omega) | omega
theorem upD_fr (d : Nat → Nat) {a k b : Nat} (h1 : a ≤ k) (h2 : k < b) : Fr d (upD d a k) a b := by
  refine ⟨fun i hi => ?_, fun i hi1 hi2 => ?_⟩
  · unfold upD; rw [if_neg (by omega), if_neg (by omega)]
  · unfold upD
    by_cases h3 : a ≤ i ∧ i < k
    · rw [if_pos h3]; exact ⟨_, by omega, by omega, rfl⟩
    · rw [if_neg h3]
      by_cases h4 : i = k
      · rw [if_pos h4]; exact ⟨a, by omega, by omega, rfl⟩
      · rw [if_neg h4]; exact ⟨i, hi1, hi2, rfl⟩
theorem upD_srt {K : Nat → Int} {d : Nat → Nat} {a b i : Nat} (hi : a + 1 ≤ i) (hib : i ≤ b) (hR : Srt K d (a + 1) b) (h1 : ∀ h, a + 1 ≤ h → h < i → ltK K (d h) (d a)) (h2 : ∀ h, i ≤ h → h < b → ltK K (d a) (d h)) : Srt K (upD d a (i - 1)) a b := fun u v hu huv hv => by
  unfold upD
  by_cases q1 : a ≤ u ∧ u < i - 1
  · rw [if_pos q1]
    by_cases q2 : a ≤ v ∧ v < i - 1
    · rw [if_pos q2]; exact hR _ _ (by omega) (by omega) (by omega)
    · rw [if_neg q2]
      by_cases q3 : v = i - 1
      · rw [if_pos q3]; exact h1 _ (by omega) (by omega)
      · rw [if_neg q3]; exact hR _ _ (by omega) (by omega) hv
  · rw [if_neg q1, if_neg (by omega : ¬ (a ≤ v ∧ v < i - 1))]
    by_cases q3 : u = i - 1
    · rw [if_pos q3, if_neg (by omega)]; exact h2 _ (by omega) hv
    · rw [if_neg q3, if_neg (by omega)]; exact hR _ _ (by omega) huv hv
/-- the last one goes down to the place k -/
def dnD (d : Nat → Nat) (k m : Nat) : Nat → Nat := fun t => if k < t ∧ t ≤ m then d (t - 1) else if t = k then d m else d t
theorem dnD_zero (d : Nat → Nat) (m : Nat) : dnD d m m = d := by
  funext t
  unfold dnD
  rw [if_neg (by omega)]
  split
  · rename_i h; rw [h]
  · rfl
theorem dnD_step (d : Nat → Nat) {k m : Nat} (h : k + 1 ≤ m) (t : Nat) : (if t = k then dnD d (k + 1) m (k + 1) else if t = k + 1 then dnD d (k + 1) m k else dnD d (k + 1) m t) = dnD d k m t := by
  have e1 : dnD d (k + 1) m (k + 1) = d m := by unfold dnD; rw [if_neg (by omega), if_pos rfl]
  have e2 : dnD d (k + 1) m k = d k := by unfold dnD; rw [if_neg (by omega), if_neg (by omega)]
  rw [e1, e2]
  unfold dnD
  repeat' split
  all_goals first | rfl | (congr 1; omega) | (exfalso; omega) | omega
theorem dnD_fr (d : Nat → Nat) {a k m b : Nat} (h0 : a ≤ k) (h1 : k ≤ m) (h2 : m < b) : Fr d (dnD d k m) a b := by
  refine ⟨fun i hi => ?_, fun i hi1 hi2 => ?_⟩
  · unfold dnD; rw [if_neg (by omega), if_neg (by omega)]
  · unfold dnD
    by_cases h3 : k < i ∧ i ≤ m
    · rw [if_pos h3]; exact ⟨_, by omega, by omega, rfl⟩
    · rw [if_neg h3]
      by_cases h4 : i = k
      · rw [if_pos h4]; exact ⟨m, by omega, by omega, rfl⟩
      · rw [if_neg h4]; exact ⟨i, hi1, hi2, rfl⟩
theorem dnD_srt {K : Nat → Int} {d : Nat → Nat} {a m i : Nat} (hi : a ≤ i) (him : i ≤ m) (hL : Srt K d a m) (h1 : ∀ h, a ≤ h → h < i → ltK K (d h) (d m)) (h2 : ∀ h, i ≤ h → h < m → ltK K (d m) (d h)) : Srt K (dnD d i m) a (m + 1) := fun u v hu huv hv => by
  unfold dnD
  by_cases q1 : i < v ∧ v ≤ m
  · rw [if_pos q1]
    by_cases q2 : i < u ∧ u ≤ m
    · rw [if_pos q2]; exact hL _ _ (by omega) (by omega) (by omega)
    · rw [if_neg q2]
      by_cases q3 : u = i
      · rw [if_pos q3]; exact h2 _ (by omega) (by omega)
      · rw [if_neg q3]; exact hL _ _ hu (by omega) (by omega)
  · rw [if_neg q1, if_neg (by omega : ¬ (i < u ∧ u ≤ m))]
    by_cases q3 : v = i
    · rw [if_pos q3, if_neg (by omega)]; exact h1 _ hu (by omega)
    · rw [if_neg q3, if_neg (by omega)]; exact hL _ _ hu huv (by omega)
end Go.Proofs.Ytjjnfpeeipainaa.Cl
namespace Go.Proofs.Ytjjnfpeeipainaa.Cl
open Go.RowKit
/-! The row that is sorted; swapRange. -/
/-- but for the row g all is as it was, and the row holds d -/
structure Rw (w : World) (g n : Nat) (d : Nat → Nat) (wr : World) : Prop where
  row : wr.rowIs g 3 n (fun i => .int .i64 ((d i : Nat) : Int))
  blk : ∀ k, k ≠ g → wr.heap[k]? = w.heap[k]?
  size : wr.heap.size = w.heap.size
  os : wr.os = w.os
  tape : wr.tape = w.tape
  output : wr.output = w.output
theorem Rw.start {w : World} {g n : Nat} {d : Nat → Nat} (h : w.rowIs g 3 n (fun i => .int .i64 ((d i : Nat) : Int))) : Rw w g n d w := ⟨h, fun _ _ => rfl, rfl, rfl, rfl, rfl⟩
theorem Rw.trans {w x y : World} {g n : Nat} {d e : Nat → Nat} (h : Rw w g n d x) (k : Rw x g n e y) : Rw w g n e y := ⟨k.row, fun i hi => (k.blk i hi).trans (h.blk i hi), k.size.trans h.size, k.os.trans h.os, k.tape.trans h.tape, k.output.trans h.output⟩
theorem Rw.congr {w x : World} {g n : Nat} {d e : Nat → Nat} (h : Rw w g n d x) (he : ∀ i, i < n → d i = e i) : Rw w g n e x := ⟨h.row.congr (fun i hi => by rw [he i hi]), h.blk, h.size, h.os, h.tape, h.output⟩
theorem Rw.drewN {w x : World} {g n : Nat} {d : Nat → Nat} (h : Rw w g n d x) (q : Nat) : Rw w g n d (x.drewN q) := by
  have f := fresh_drewN x q
  refine ⟨h.row.of_block (f.block _ h.row.lt), fun k hk => ?_, ?_, f.os.trans h.os, f.tape.trans h.tape, f.output.trans h.output⟩
  · rw [← h.blk k hk]; rfl
  · rw [← h.size]; rfl
theorem Rw.set {w x : World} {g n : Nat} {d : Nat → Nat} (h : Rw w g n d x) (i v : Nat) : Rw w g n (fun j => if j = i then v else d j) (x.setCell ⟨g, i, none⟩ (.int .i64 (v : Int))) := by
  refine ⟨(h.row.set i (.int .i64 (v : Int))).congr (fun j _ => by split <;> rfl), fun k hk => (Below.heap_setCell _ _ _ _ (by show ¬ (_ = g); exact hk)).trans (h.blk k hk), ?_, h.os, h.tape, h.output⟩
  rw [← h.size]; simp
theorem Rw.drew {w x : World} {g n : Nat} {d : Nat → Nat} (h : Rw w g n d x) : Rw w g n d x.drew := h.drewN 1
theorem Rw.swap {w x : World} {g n : Nat} {d e : Nat → Nat} (h : Rw w g n d x) {i j u v : Nat} (hu : d i = u) (hv : d j = v) (he : ∀ t, (if t = j then d i else if t = i then d j else d t) = e t) : Rw w g n e ((x.setCell ⟨g, i, none⟩ (.int .i64 (v : Int))).setCell ⟨g, j, none⟩ (.int .i64 (u : Int))).drew := by
  subst hu hv
  exact (((h.set i (d j)).set j (d i)).congr (fun t _ => he t)).drew
theorem Rw.low {w x : World} {g n : Nat} {d : Nat → Nat} (h : Rw w g n d x) {B : Nat} (hB : B ≤ g) : Below B w x := ⟨h.os, h.tape, h.output, Nat.le_of_eq h.size.symm, fun k hk => h.blk k (by omega)⟩
set_option maxRecDepth 20000 in
set_option maxHeartbeats 4000000 in
theorem swapR_any {w : World} {g N c : Nat} {d : Nat → Nat} {a b n : Nat} (h : w.rowIs g 3 N (fun i => .int .i64 ((d i : Nat) : Int))) (hN : N ≤ 1048576) (h1 : a + n ≤ b) (h2 : b + n ≤ N) (cv : Value) :
    Calls Try.prog 116 #[.slice (some ⟨g, 0, none⟩) N c, .int .i64 (a : Int), .int .i64 (b : Int), .int .i64 (n : Int), cv] w fun e w' => e = .returned (.tuple #[]) ∧ Rw w g N (swp d a b n) w' := by
  have H0 := hidd (Rw.start h)
  clear h
  go_enter Try.func116, Try.ntmps116
  go_wp2
  go_loopw [10] (fun vi wr => ∃ k : Nat, k ≤ n ∧ vi = .int .i64 (k : Int) ∧ Hid (Rw w g N (swp d a b k) wr)) (fun vi _ => n - (intOf vi).toNat)
  case atStart => exact ⟨0, Nat.zero_le _, by simp, by rw [swp_zero]; exact H0⟩
  case round =>
    obtain ⟨k, hk, rfl, HR⟩ := hrel
    by_cases hlt : k < n
    · have i1 : (k : Int) < (n : Int) := by omega
      have c1 := HR.out.row.cell (i := a + k) (by omega)
      have c2 := HR.out.row.cell (i := b + k) (by omega)
      have fr := HR.out.row.frozen
      have e1 : IntKind.i64.wrap ((a : Int) + (k : Int)) = ((a + k : Nat) : Int) := by rw [IntKind.wrap_i64]; omega
      have e2 : IntKind.i64.wrap ((b : Int) + (k : Int)) = ((b + k : Nat) : Int) := by rw [IntKind.wrap_i64]; omega
      obtain ⟨p, HP⟩ : ∃ p, Hid (p = a + k) := ⟨_, rfl⟩
      obtain ⟨q, HQ⟩ : ∃ q, Hid (q = b + k) := ⟨_, rfl⟩
      rw [← HP.out] at c1 e1
      rw [← HQ.out] at c2 e2
      have g1 : (0 : Int) ≤ (p : Int) := by omega
      have g2 : (p : Int) < (N : Int) := by have := HP.out; omega
      have g3 : (0 : Int) ≤ (q : Int) := by omega
      have g4 : (q : Int) < (N : Int) := by have := HQ.out; omega
      have hpq : p ≠ q := by have := HP.out; have := HQ.out; omega
      generalize hx : swp d a b k p = x at c1
      generalize hy : swp d a b k q = y at c2
      have HX := hidd hx
      have HY := hidd hy
      clear hx hy
      go_wp2
      go_region
      all_goals
        go_wp2
        go_roundw
        case rel => exact ⟨k + 1, by omega, by go_num, HR.out.swap HX.out HY.out (fun t => by rw [HP.out, HQ.out]; exact swp_step d (by omega) t)⟩
        case measure => simp [intOf]; omega
    · obtain rfl : k = n := by omega
      have hnl : ¬ ((k : Int) < (k : Int)) := by omega
      go_wp2
      go_end0
      exact ⟨rfl, HR.out⟩
set_option maxRecDepth 20000 in
set_option maxHeartbeats 4000000 in
theorem rotate_any {w : World} {g N c : Nat} {d : Nat → Nat} {a m b : Nat} (h : w.rowIs g 3 N (fun i => .int .i64 ((d i : Nat) : Int))) (hN : N ≤ 1048576) (h1 : a < m) (h2 : m < b) (h3 : b ≤ N) (cv : Value) :
    Calls Try.prog 110 #[.slice (some ⟨g, 0, none⟩) N c, .int .i64 (a : Int), .int .i64 (m : Int), .int .i64 (b : Int), cv] w fun e w' => e = .returned (.tuple #[]) ∧ Rw w g N (rot d a m b) w' := by
  have H0 := hidd (Rw.start h)
  obtain ⟨i0, HI0⟩ : ∃ i0, Hid (i0 = m - a) := ⟨_, rfl⟩
  obtain ⟨j0, HJ0⟩ : ∃ j0, Hid (j0 = b - m) := ⟨_, rfl⟩
  have e1 : IntKind.i64.wrap ((m : Int) - (a : Int)) = (i0 : Int) := by rw [IntKind.wrap_i64]; have := HI0.out; omega
  have e2 : IntKind.i64.wrap ((b : Int) - (m : Int)) = (j0 : Int) := by rw [IntKind.wrap_i64]; have := HJ0.out; omega
  have HE : Hid (rot d (m - i0) m (m + j0) = rot d a m b) := by show _ = _; rw [HI0.out, HJ0.out]; congr 1 <;> omega
  clear h
  go_enter Try.func110, Try.ntmps110
  go_wp2
  go_loopw [10, 11] (fun vi vj wr => ∃ (i j : Nat) (f : Nat → Nat), vi = .int .i64 (i : Int) ∧ vj = .int .i64 (j : Int) ∧ 0 < i ∧ 0 < j ∧ i ≤ m ∧ m + j ≤ N ∧ Hid (rot f (m - i) m (m + j) = rot d a m b) ∧ Hid (Rw w g N f wr)) (fun vi vj _ => (intOf vi).toNat + (intOf vj).toNat)
  case atStart => exact ⟨i0, j0, d, rfl, rfl, by have := HI0.out; omega, by have := HJ0.out; omega, by have := HI0.out; omega, by have := HJ0.out; omega, HE, H0⟩
  case round =>
    obtain ⟨i, j, f, rfl, rfl, hi, hj, him, hjn, HF, HR⟩ := hrel
    have s1 : IntKind.i64.wrap ((m : Int) - (i : Int)) = ((m - i : Nat) : Int) := by rw [IntKind.wrap_i64]; omega
    obtain ⟨p, HP⟩ : ∃ p, Hid (p = m - i) := ⟨_, rfl⟩
    rw [← HP.out] at s1
    by_cases hij : i = j
    · have HIJ := hidd hij
      subst hij
      have HSW := hidd (swapR_any (c := c) (a := p) (b := m) (n := i) HR.out.row hN (by have := HP.out; omega) (by omega) cv)
      have HEND : Hid (swp f p m i = rot d a m b) := by show _ = _; rw [← HF.out, HP.out]; exact rot_same f him
      clear HF
      go_wp2_with fail
      refine HSW.out.mono ?_
      rintro e w2 ⟨rfl, h2'⟩
      have HR2 := hidd (HR.out.trans h2')
      rw [HEND.out] at HR2
      clear h2' HSW
      go_wp2
      go_end0
      exact ⟨rfl, HR2.out⟩
    · have x1 : decide ((i : Int) = (j : Int)) = false := decide_eq_false (by omega)
      have x2 : ¬ ((i : Int) = (j : Int)) := by omega
      by_cases hgt : j < i
      · have d1 : decide ((j : Int) < (i : Int)) = true := decide_eq_true (by omega)
        have d2 : decide (j < i) = true := decide_eq_true hgt
        have HSW := hidd (swapR_any (c := c) (a := p) (b := m) (n := j) HR.out.row hN (by have := HP.out; omega) hjn cv)
        have s2 : IntKind.i64.wrap ((i : Int) - (j : Int)) = ((i - j : Nat) : Int) := by rw [IntKind.wrap_i64]; omega
        obtain ⟨i', HI⟩ : ∃ i', Hid (i' = i - j) := ⟨_, rfl⟩
        rw [← HI.out] at s2
        have HF2 : Hid (rot (swp f p m j) (m - i') m (m + j) = rot d a m b) := by show _ = _; rw [← HF.out, HP.out, HI.out]; exact rot_more f him hgt
        go_wp2_with fail
        refine HSW.out.mono ?_
        rintro e w2 ⟨rfl, h2'⟩
        have HR2 := hidd (HR.out.trans h2')
        clear h2' HSW HR
        go_wp2
        go_roundw
        case rel => exact ⟨i', j, _, rfl, rfl, by have := HI.out; omega, hj, by have := HI.out; omega, hjn, HF2, HR2⟩
        case measure => simp [intOf]; have := HI.out; omega
      · have d1 : decide ((j : Int) < (i : Int)) = false := decide_eq_false (by omega)
        have d2 : decide (j < i) = false := decide_eq_false hgt
        have s3 : IntKind.i64.wrap ((m : Int) + (j : Int)) = ((m + j : Nat) : Int) := by rw [IntKind.wrap_i64]; omega
        obtain ⟨mj, HMJ⟩ : ∃ mj, Hid (mj = m + j) := ⟨_, rfl⟩
        rw [← HMJ.out] at s3
        obtain ⟨q, HQ⟩ : ∃ q, Hid (q = m + j - i) := ⟨_, rfl⟩
        have s4 : IntKind.i64.wrap ((mj : Int) - (i : Int)) = (q : Int) := by rw [IntKind.wrap_i64]; have := HMJ.out; have := HQ.out; omega
        have s2 : IntKind.i64.wrap ((j : Int) - (i : Int)) = ((j - i : Nat) : Int) := by rw [IntKind.wrap_i64]; omega
        obtain ⟨j', HJ⟩ : ∃ j', Hid (j' = j - i) := ⟨_, rfl⟩
        rw [← HJ.out] at s2
        have HSW := hidd (swapR_any (c := c) (a := p) (b := q) (n := i) HR.out.row hN (by have := HP.out; have := HQ.out; omega) (by have := HQ.out; omega) cv)
        have HF2 : Hid (rot (swp f p q i) (m - i) m (m + j') = rot d a m b) := by show _ = _; rw [← HF.out, HP.out, HQ.out, HJ.out]; exact rot_less f him (by omega)
        go_wp2_with fail
        refine HSW.out.mono ?_
        rintro e w2 ⟨rfl, h2'⟩
        have HR2 := hidd (HR.out.trans h2')
        clear h2' HSW HR
        go_wp2
        go_roundw
        case rel => exact ⟨i, j', _, rfl, rfl, hi, by have := HJ.out; omega, him, by have := HJ.out; omega, HF2, HR2⟩
        case measure => simp [intOf]; have := HJ.out; omega
end Go.Proofs.Ytjjnfpeeipainaa.Cl
namespace Go.Proofs.Ytjjnfpeeipainaa.Cl
open Go.RowKit
/-! The comparison of two nodes by depth. -/
def cmpV (a b : Int) : Int := if a < b then -1 else if b < a then 1 else 0
theorem cmpV_neg (a b : Int) : (cmpV a b < 0) ↔ a < b := by unfold cmpV; repeat' split <;> omega
set_option maxRecDepth 20000 in
theorem isNaN_any (w : World) (a : Int) : Calls Try.prog 80 #[.int .i64 a] w fun e w' => e = .returned (.bool false) ∧ w' = w := by
  go_enter Try.func80, Try.ntmps80
  go_wp2
  go_ret
  exact ⟨rfl, rfl⟩
set_option maxRecDepth 20000 in
set_option maxHeartbeats 1600000 in
theorem compare_any (w : World) (a b : Int) : Calls Try.prog 62 #[.int .i64 a, .int .i64 b] w fun e w' => e = .returned (.int .i64 (cmpV a b)) ∧ w' = w := by
  have HN := hidd (isNaN_any w)
  unfold cmpV
  by_cases h1 : a < b
  · have d1 : decide (a < b) = true := decide_eq_true h1
    rw [if_pos h1]
    go_enter Try.func62, Try.ntmps62
    go_wp2_with (go_at_call 80; with_reducible refine (HN.out _).mono ?_; rintro e w2 ⟨rfl, h2⟩; rw [h2]; clear h2)
    go_ret
    exact ⟨rfl, rfl⟩
  · have d1 : decide (a < b) = false := decide_eq_false h1
    rw [if_neg h1]
    by_cases h2 : b < a
    · have d2 : decide (b < a) = true := decide_eq_true h2
      rw [if_pos h2]
      go_enter Try.func62, Try.ntmps62
      go_wp2_with (go_at_call 80; with_reducible refine (HN.out _).mono ?_; rintro e w2 ⟨rfl, h2⟩; rw [h2]; clear h2)
      go_ret
      exact ⟨rfl, rfl⟩
    · have d2 : decide (b < a) = false := decide_eq_false h2
      rw [if_neg h2]
      go_enter Try.func62, Try.ntmps62
      go_wp2_with (go_at_call 80; with_reducible refine (HN.out _).mono ?_; rintro e w2 ⟨rfl, h2⟩; rw [h2]; clear h2)
      go_ret
      exact ⟨rfl, rfl⟩
/-- nodes behind a box, their depths -/
structure NdK (w : World) (bx n : Nat) (K : Nat → Int) (nb o c : Nat) : Prop where
  box : w.cell? ⟨bx, 0, none⟩ = some (.slice (some ⟨nb, o, none⟩) n c)
  at_ : ∀ i, i < n → w.cell? ⟨nb, o + i * 3 + 2, none⟩ = some (.int .i64 (K i))
set_option maxRecDepth 20000 in
set_option maxHeartbeats 1600000 in
theorem cmpD_any {w : World} {bx n : Nat} {K : Nat → Int} {nb o c : Nat} (h : NdK w bx n K nb o c) {x y : Nat} (hx : x < n) (hy : y < n) :
    Calls Try.prog 61 #[.int .i64 (x : Int), .int .i64 (y : Int), .pointer (some ⟨bx, 0, none⟩)] w fun e w' => e = .returned (.int .i64 (cmpV (K x) (K y))) ∧ ∃ q, w' = w.drewN q := by
  have c0 := h.box
  have c1 := h.at_ x hx
  have c2 := h.at_ y hy
  have i0 : (0 : Int) ≤ (x : Int) := by omega
  have i1 : (x : Int) < (n : Int) := by omega
  have i2 : (0 : Int) ≤ (y : Int) := by omega
  have i3 : (y : Int) < (n : Int) := by omega
  have HC : Hid (∀ z : World, Calls Try.prog 62 #[.int .i64 (K x), .int .i64 (K y)] z fun e w' => e = .returned (.int .i64 (cmpV (K x) (K y))) ∧ w' = z) := fun z => compare_any z _ _
  generalize cmpV (K x) (K y) = r at HC ⊢
  clear h
  go_enter Try.func61, Try.ntmps61
  go_wp2
  go_quiet (exact Calls.quiet_of_same (HC.out _))
  go_wp2
  go_ret
  exact ⟨rfl, _, rfl⟩
end Go.Proofs.Ytjjnfpeeipainaa.Cl
namespace Go.Proofs.Ytjjnfpeeipainaa.Cl
open Go.RowKit
/-! The insertion sort. -/
theorem NdK.rw {w wr : World} {bx M : Nat} {K : Nat → Int} {nb o c g N : Nat} {d : Nat → Nat} (h : NdK w bx M K nb o c) (k : Rw w g N d wr) (h1 : bx ≠ g) (h2 : nb ≠ g) : NdK wr bx M K nb o c := by
  have e : ∀ b p, b ≠ g → wr.cell? ⟨b, p, none⟩ = w.cell? ⟨b, p, none⟩ := fun b p hb => by unfold World.cell?; simp only [k.blk b hb]
  exact ⟨(e bx _ h1).trans h.box, fun i hi => (e nb _ h2).trans (h.at_ i hi)⟩
theorem NdK.drewN {w : World} {bx M : Nat} {K : Nat → Int} {nb o c : Nat} (h : NdK w bx M K nb o c) (q : Nat) : NdK (w.drewN q) bx M K nb o c := ⟨h.box, h.at_⟩
/-- the comparison, wherever draws have been -/
theorem cmpD_q {w : World} {bx n : Nat} {K : Nat → Int} {nb o c : Nat} (h : NdK w bx n K nb o c) {x y : Nat} (hx : x < n) (hy : y < n) (q : Nat) :
    Calls Try.prog 61 #[.int .i64 (x : Int), .int .i64 (y : Int), .pointer (some ⟨bx, 0, none⟩)] (w.drewN q) fun e w' => e = .returned (.int .i64 (cmpV (K x) (K y))) ∧ ∃ m, w' = (w.drewN q).drewN m := cmpD_any (h.drewN q) hx hy
set_option maxRecDepth 20000 in
set_option maxHeartbeats 4000000 in
theorem insert_any {w : World} {g N c : Nat} {d : Nat → Nat} {bx M : Nat} {K : Nat → Int} {nb o nc : Nat} {a b : Nat} (h : w.rowIs g 3 N (fun i => .int .i64 ((d i : Nat) : Int))) (hN : N ≤ 1048576) (hk : NdK w bx M K nb o nc) (h1 : bx ≠ g) (h2 : nb ≠ g) (hab : a ≤ b) (hbN : b ≤ N) (hd : ∀ i, i < N → d i < M) (hord : ∀ u v, a ≤ u → u < v → v < b → d u < d v) :
    Calls Try.prog 90 #[.slice (some ⟨g, 0, none⟩) N c, .int .i64 (a : Int), .int .i64 (b : Int), .func (.func 61) #[] #[.pointer (some ⟨bx, 0, none⟩)]] w fun e w' => e = .returned (.tuple #[]) ∧ ∃ d', Rw w g N d' w' ∧ Fr d d' a b ∧ Srt K d' a b := by
  have H0 := hidd (Rw.start h)
  have HK := hidd hk
  have HD := hidd hd
  have HO := hidd hord
  clear h hk hd hord
  have e1 : IntKind.i64.wrap ((a : Int) + 1) = ((a + 1 : Nat) : Int) := by rw [IntKind.wrap_i64]; omega
  go_enter Try.func90, Try.ntmps90
  go_wp2
  go_loopw [8, 9] (fun vi _ wr => ∃ (i : Nat) (f : Nat → Nat), vi = .int .i64 (i : Int) ∧ a + 1 ≤ i ∧ (i ≤ b ∨ i = a + 1) ∧ Hid (Fr d f a i) ∧ Hid (Srt K f a i) ∧ Hid (Rw w g N f wr)) (fun vi _ _ => b - (intOf vi).toNat)
  case atStart => exact ⟨a + 1, d, (by first | rfl | simp), Nat.le_refl _, .inr rfl, Fr.refl _ _ _, (fun u v h3 h4 h5 => absurd h4 (by omega)), H0⟩
  case round =>
    obtain ⟨i, f, rfl, hai, hib, HF, HS, HR⟩ := hrel
    by_cases hlt : i < b
    · have i1 : (i : Int) < (b : Int) := by omega
      have HFI : Hid (f i = d i) := HF.out.out i (by omega)
      go_wp2
      go_loopw [9] (fun vj wx => ∃ j : Nat, vj = .int .i64 (j : Int) ∧ a ≤ j ∧ j ≤ i ∧ Hid (∀ t, j ≤ t → t < i → ltK K (f i) (f t)) ∧ Hid (Rw w g N (dnD f j i) wx)) (fun vj _ => (intOf vj).toNat)
      case atStart => exact ⟨i, rfl, by omega, Nat.le_refl _, (fun t h3 h4 => absurd h4 (by omega)), by rw [dnD_zero]; exact HR⟩
      case round =>
        obtain ⟨j, rfl, haj, hji, HL, HRj⟩ := hrel
        by_cases hja : a < j
        · have g1 : decide ((a : Int) < (j : Int)) = true := decide_eq_true (by omega)
          have g2 : decide (a < j) = true := decide_eq_true hja
          have g3 : (a : Int) < (j : Int) := by omega
          have s1 : IntKind.i64.wrap ((j : Int) - 1) = ((j - 1 : Nat) : Int) := by rw [IntKind.wrap_i64]; omega
          obtain ⟨j', HJ⟩ : ∃ j', Hid (j' = j - 1) := ⟨_, rfl⟩
          rw [← HJ.out] at s1
          have hj' : j' < j := by have := HJ.out; omega
          have haj' : a ≤ j' := by have := HJ.out; omega
          have c1 := HRj.out.row.cell (i := j) (by omega)
          have c2 := HRj.out.row.cell (i := j') (by omega)
          have q1 : dnD f j i j = f i := by unfold dnD; rw [if_neg (by omega), if_pos rfl]
          have q2 : dnD f j i j' = f j' := by unfold dnD; rw [if_neg (by omega), if_neg (by omega)]
          rw [q1] at c1
          rw [q2] at c2
          have hxM : f i < M := by rw [HFI.out]; exact HD.out i (by omega)
          have HYX : Hid (f j' < f i ∧ f j' < M) := by
            obtain ⟨t, t1, t2, t3⟩ := HF.out.inn j' haj' (by omega)
            rw [t3, HFI.out]
            exact ⟨HO.out t i t1 t2 hlt, HD.out t (by omega)⟩
          have HCC : Hid (∀ q, Calls Try.prog 61 #[.int .i64 ((f i : Nat) : Int), .int .i64 ((f j' : Nat) : Int), .pointer (some ⟨bx, 0, none⟩)] (wr.drewN q) fun e w' => e = .returned (.int .i64 (cmpV (K (f i)) (K (f j')))) ∧ ∃ m, w' = (wr.drewN q).drewN m) := fun q => cmpD_q (HK.out.rw HRj.out h1 h2) hxM HYX.out.2 q
          have hcn := cmpV_neg (K (f i)) (K (f j'))
          generalize hrr : cmpV (K (f i)) (K (f j')) = r at HCC hcn
          clear hrr
          by_cases hKlt : K (f i) < K (f j')
          · have r1 : r < 0 := hcn.2 hKlt
            have r2 : decide (r < 0) = true := decide_eq_true r1
            have HL2 : Hid (∀ t, j' ≤ t → t < i → ltK K (f i) (f t)) := fun t t1 t2 => by
              by_cases e : t = j'
              · rw [e]; exact .inl hKlt
              · exact HL.out t (by have := HJ.out; omega) t2
            have g4 : (0 : Int) ≤ (j : Int) := by omega
            have g5 : (j : Int) < (N : Int) := by omega
            have g6 : (0 : Int) ≤ (j' : Int) := by omega
            have g7 : (j' : Int) < (N : Int) := by omega
            have HQ1 := hidd q1
            have HQ2 := hidd q2
            have fr := HRj.out.row.frozen
            clear q1 q2 hcn hKlt HL HYX
            generalize hu : f i = u at c1 HCC HQ1 HL2
            generalize hv : f j' = v at c2 HCC HQ2
            have HU := hidd hu
            clear hu hv
            go_wp2
            go_quiet (exact Calls.quiet_of (HCC.out _))
            obtain ⟨wB, hwB⟩ : ∃ wB, wB = wr.drewN nq := ⟨_, rfl⟩
            have HR2 : Hid (Rw w g N (dnD f j i) wB) := by rw [hwB]; exact HRj.out.drewN nq
            rw [← hwB]
            have d1 : wB.cell? ⟨g, j, none⟩ = some (.int .i64 (u : Int)) := by rw [hwB]; exact c1
            have d2 : wB.cell? ⟨g, j', none⟩ = some (.int .i64 (v : Int)) := by rw [hwB]; exact c2
            have fr2 := HR2.out.row.frozen
            clear hwB c1 c2 fr HRj HCC
            go_wp2
            go_region
            all_goals
              have HSW : Hid (Rw w g N (dnD f j' i) (((wB.setCell ⟨g, j, none⟩ (.int .i64 (v : Int))).setCell ⟨g, j', none⟩ (.int .i64 (u : Int))).drew)) := HR2.out.swap HQ1.out HQ2.out (fun t => by have := dnD_step f (k := j') (m := i) (by omega) t; rw [show j' + 1 = j by have := HJ.out; omega] at this; exact this)
              go_wp2
              go_roundw
              case rel => exact ⟨j', rfl, haj', by omega, HL2, HSW⟩
              case measure => simp [intOf]; omega
          · have r1 : ¬ r < 0 := fun q => hKlt (hcn.1 q)
            have r2 : decide (r < 0) = false := decide_eq_false r1
            have HEF : Hid (Fr d (dnD f j i) a (i + 1)) := (HF.out.wide (Nat.le_refl _) (by omega)).trans (dnD_fr f haj hji (by omega))
            have HES : Hid (Srt K (dnD f j i) a (i + 1)) := by
              refine dnD_srt haj hji HS.out (fun t t1 t2 => ?_) HL.out
              have k1 := ltK_of (K := K) HYX.out.1 hKlt
              by_cases e : t = j'
              · rw [e]; exact k1
              · exact (HS.out t j' t1 (by have := HJ.out; omega) (by omega)).trans k1
            clear q1 q2 hcn hKlt HYX
            go_wp2
            go_quiet (exact Calls.quiet_of (HCC.out _))
            go_wp2
            go_roundw
            case rel => exact ⟨i + 1, _, by go_num, by omega, .inl (by omega), HEF, HES, HRj.out.drewN _⟩
            case measure => simp [intOf]; omega
        · obtain rfl : j = a := by omega
          have g1 : decide ((j : Int) < (j : Int)) = false := decide_eq_false (by omega)
          have g3 : ¬ ((j : Int) < (j : Int)) := by omega
          have HEF : Hid (Fr d (dnD f j i) j (i + 1)) := (HF.out.wide (Nat.le_refl _) (by omega)).trans (dnD_fr f (Nat.le_refl _) hji (by omega))
          have HES : Hid (Srt K (dnD f j i) j (i + 1)) := dnD_srt (Nat.le_refl _) hji HS.out (fun t h3 h4 => absurd h4 (by omega)) HL.out
          go_wp2
          go_quiet (fail)
          go_wp2
          go_roundw
          case rel => exact ⟨i + 1, _, by go_num, by omega, .inl (by omega), HEF, HES, HRj.out.drewN _⟩
          case measure => simp [intOf]; omega
    · have hnl : ¬ ((i : Int) < (b : Int)) := by omega
      have HEN : Hid (Fr d f a b ∧ Srt K f a b) := by
        by_cases e : i = b
        · subst e; exact ⟨HF.out, HS.out⟩
        · have : b ≤ a + 1 := by omega
          refine ⟨⟨fun t ht => ?_, fun t t1 t2 => ?_⟩, fun u v u1 u2 u3 => absurd u3 (by omega)⟩
          · by_cases q : t < a ∨ i ≤ t
            · exact HF.out.out t q
            · obtain ⟨s, s1, s2, s3⟩ := HF.out.inn t (by omega) (by omega)
              rw [s3]; congr 1; omega
          · obtain ⟨s, s1, s2, s3⟩ := HF.out.inn t t1 (by omega)
            exact ⟨t, t1, t2, by rw [s3]; congr 1; omega⟩
      go_wp2
      go_end0
      exact ⟨rfl, f, HR.out, HEN.out.1, HEN.out.2⟩
end Go.Proofs.Ytjjnfpeeipainaa.Cl
namespace Go.Proofs.Ytjjnfpeeipainaa.Cl
open Go.RowKit
/-! symMerge: one element on the left. -/
theorem half_u {s : Nat} (h : s ≤ 2097152) : IntKind.i64.wrap (IntKind.u64.wrap ((s : Int) / 2)) = ((s / 2 : Nat) : Int) := by
  rw [IntKind.wrap_u64, IntKind.wrap_i64]
  omega
set_option maxRecDepth 20000 in
set_option maxHeartbeats 4000000 in
theorem symm_one {w : World} {g N c : Nat} {d : Nat → Nat} {bx M : Nat} {K : Nat → Int} {nb o nc : Nat} {a m b : Nat} (h : w.rowIs g 3 N (fun i => .int .i64 ((d i : Nat) : Int))) (hN : N ≤ 1048576) (hk : NdK w bx M K nb o nc) (h1 : bx ≠ g) (h2 : nb ≠ g) (ham : m = a + 1) (hmb : m < b) (hbN : b ≤ N) (hd : ∀ i, i < N → d i < M) (hlr : ∀ v, m ≤ v → v < b → d a < d v) (hR : Srt K d m b) :
    Calls Try.prog 91 #[.slice (some ⟨g, 0, none⟩) N c, .int .i64 (a : Int), .int .i64 (m : Int), .int .i64 (b : Int), .func (.func 61) #[] #[.pointer (some ⟨bx, 0, none⟩)]] w fun e w' => e = .returned (.tuple #[]) ∧ ∃ d', Rw w g N d' w' ∧ Fr d d' a b ∧ Srt K d' a b := by
  have H0 := hidd (Rw.start h)
  have HK := hidd hk
  have HD := hidd hd
  have HLR := hidd hlr
  have HSR := hidd hR
  have HAM := hidd ham
  have e0 : IntKind.i64.wrap ((m : Int) - (a : Int)) = 1 := by rw [IntKind.wrap_i64]; omega
  have ham2 : a < m := by omega
  clear h hk hd hlr hR ham
  go_enter Try.func91, Try.ntmps91
  go_wp2
  go_loopw [10, 11, 12] (fun vi vj _ wr => ∃ i j : Nat, vi = .int .i64 (i : Int) ∧ vj = .int .i64 (j : Int) ∧ m ≤ i ∧ i ≤ j ∧ j ≤ b ∧ Hid (∀ t, m ≤ t → t < i → ltK K (d t) (d a)) ∧ Hid (∀ t, j ≤ t → t < b → ltK K (d a) (d t)) ∧ Hid (Rw w g N d wr)) (fun vi vj _ _ => (intOf vj).toNat - (intOf vi).toNat)
  case atStart => exact ⟨m, b, rfl, rfl, Nat.le_refl _, by omega, Nat.le_refl _, (fun t t1 t2 => absurd t2 (by omega)), (fun t t1 t2 => absurd t2 (by omega)), H0⟩
  case round =>
    obtain ⟨i, j, rfl, rfl, hmi, hij, hjb, HA, HB, HR⟩ := hrel
    by_cases hlt : i < j
    · have i1 : (i : Int) < (j : Int) := by omega
      obtain ⟨s, HS⟩ : ∃ s, Hid (s = i + j) := ⟨_, rfl⟩
      have s1 : IntKind.i64.wrap ((i : Int) + (j : Int)) = (s : Int) := by rw [IntKind.wrap_i64]; have := HS.out; omega
      obtain ⟨hh, HH⟩ : ∃ hh, Hid (hh = s / 2) := ⟨_, rfl⟩
      have hs2 : s ≤ 2097152 := by have := HS.out; omega
      have s2 : IntKind.u64.wrap (s : Int) = (s : Int) := by rw [IntKind.wrap_u64]; omega
      have s3 : (s : Int) / 2 = (hh : Int) := by have := HH.out; omega
      have hih : i ≤ hh := by have := HH.out; have := HS.out; omega
      have hhj : hh < j := by have := HH.out; have := HS.out; omega
      have s4 : IntKind.u64.wrap (hh : Int) = (hh : Int) := by rw [IntKind.wrap_u64]; omega
      have s5 : IntKind.i64.wrap (hh : Int) = (hh : Int) := by rw [IntKind.wrap_i64]; omega
      have c1 := HR.out.row.cell (i := hh) (by omega)
      have c2 := HR.out.row.cell (i := a) (by omega)
      have HCC : Hid (∀ q, Calls Try.prog 61 #[.int .i64 ((d hh : Nat) : Int), .int .i64 ((d a : Nat) : Int), .pointer (some ⟨bx, 0, none⟩)] (wr.drewN q) fun e w' => e = .returned (.int .i64 (cmpV (K (d hh)) (K (d a)))) ∧ ∃ m, w' = (wr.drewN q).drewN m) := fun q => cmpD_q (HK.out.rw HR.out h1 h2) (HD.out hh (by omega)) (HD.out a (by omega)) q
      have hcn := cmpV_neg (K (d hh)) (K (d a))
      generalize hrr : cmpV (K (d hh)) (K (d a)) = r at HCC hcn
      clear hrr
      have g0 : (0 : Int) ≤ (hh : Int) := by omega
      have g1 : (hh : Int) < (N : Int) := by omega
      have g2 : (0 : Int) ≤ (a : Int) := by omega
      have g3 : (a : Int) < (N : Int) := by omega
      by_cases hKlt : K (d hh) < K (d a)
      · have r1 : r < 0 := hcn.2 hKlt
        have r2 : decide (r < 0) = true := decide_eq_true r1
        have HA2 : Hid (∀ t, m ≤ t → t < hh + 1 → ltK K (d t) (d a)) := fun t t1 t2 => by
          have k1 : ltK K (d hh) (d a) := .inl hKlt
          by_cases e : t = hh
          · rw [e]; exact k1
          · exact (HSR.out t hh t1 (by omega) (by omega)).trans k1
        clear hcn hKlt HA
        go_wp2
        go_quiet (exact Calls.quiet_of (HCC.out _))
        go_wp2
        go_roundw
        case rel => exact ⟨hh + 1, j, by go_num, rfl, by omega, by omega, hjb, HA2, HB, HR.out.drewN _⟩
        case measure => simp [intOf]; omega
      · have r1 : ¬ r < 0 := fun q => hKlt (hcn.1 q)
        have r2 : decide (r < 0) = false := decide_eq_false r1
        have HB2 : Hid (∀ t, hh ≤ t → t < b → ltK K (d a) (d t)) := fun t t1 t2 => by
          have k1 : ltK K (d a) (d hh) := ltK_of (HLR.out hh (by omega) (by omega)) hKlt
          by_cases e : t = hh
          · rw [e]; exact k1
          · exact k1.trans (HSR.out hh t (by omega) (by omega) t2)
        clear hcn hKlt HB
        go_wp2
        go_quiet (exact Calls.quiet_of (HCC.out _))
        go_wp2
        go_roundw
        case rel => exact ⟨i, hh, rfl, rfl, hmi, hih, by omega, HA, HB2, HR.out.drewN _⟩
        case measure => simp [intOf]; omega
    · obtain rfl : i = j := by omega
      have hnl : ¬ ((i : Int) < (i : Int)) := by omega
      obtain ⟨i', HI⟩ : ∃ i', Hid (i' = i - 1) := ⟨_, rfl⟩
      have s1 : IntKind.i64.wrap ((i : Int) - 1) = (i' : Int) := by rw [IntKind.wrap_i64]; have := HI.out; omega
      have hai : a ≤ i' := by have := HI.out; omega
      have hib : i' < b := by have := HI.out; omega
      have HEN : Hid (Fr d (upD d a i') a b ∧ Srt K (upD d a i') a b) := ⟨upD_fr d hai hib, by rw [HI.out]; exact upD_srt (by omega) (by omega) (by rw [← HAM.out]; exact HSR.out) (by rw [← HAM.out]; exact HA.out) HB.out⟩
      clear HA HB
      go_wp2
      go_loopw [13] (fun vk wx => ∃ k : Nat, vk = .int .i64 (k : Int) ∧ a ≤ k ∧ k ≤ i' ∧ Hid (Rw w g N (upD d a k) wx)) (fun vk _ => i' - (intOf vk).toNat)
      case atStart => exact ⟨a, rfl, Nat.le_refl _, hai, by rw [upD_zero]; exact HR⟩
      case round =>
        obtain ⟨k, rfl, hak, hki, HRk⟩ := hrel
        by_cases hkl : k < i'
        · have k1 : (k : Int) < (i' : Int) := by omega
          have s2 : IntKind.i64.wrap ((k : Int) + 1) = ((k + 1 : Nat) : Int) := by rw [IntKind.wrap_i64]; omega
          obtain ⟨k', HKK⟩ : ∃ k', Hid (k' = k + 1) := ⟨_, rfl⟩
          rw [← HKK.out] at s2
          have hk'b : k' < N := by have := HKK.out; omega
          have c1 := HRk.out.row.cell (i := k) (by omega)
          have c2 := HRk.out.row.cell (i := k') hk'b
          have fr := HRk.out.row.frozen
          generalize hx : upD d a k k = x at c1
          generalize hy : upD d a k k' = y at c2
          have HX := hidd hx
          have HY := hidd hy
          clear hx hy
          have g0 : (0 : Int) ≤ (k : Int) := by omega
          have g1 : (k : Int) < (N : Int) := by omega
          have g2 : (0 : Int) ≤ (k' : Int) := by omega
          have g3 : (k' : Int) < (N : Int) := by omega
          have hne : k ≠ k' := by have := HKK.out; omega
          go_wp2
          go_region
          all_goals
            have HSW : Hid (Rw w g N (upD d a (k + 1)) (((wr.setCell ⟨g, k, none⟩ (.int .i64 (y : Int))).setCell ⟨g, k', none⟩ (.int .i64 (x : Int))).drew)) := HRk.out.swap HX.out HY.out (fun t => by rw [HKK.out]; exact upD_step d hak t)
            go_wp2
            go_roundw
            case rel => exact ⟨k + 1, by rw [HKK.out], by omega, by omega, HSW⟩
            case measure => simp [intOf]; have := HKK.out; omega
        · obtain rfl : k = i' := by omega
          have hnl : ¬ ((k : Int) < (k : Int)) := by omega
          go_wp2
          refine bodyPost_ret (results_none rfl _ _ _) rfl ?_
          exact ⟨rfl, _, HRk.out, HEN.out.1, HEN.out.2⟩
end Go.Proofs.Ytjjnfpeeipainaa.Cl
namespace Go.Proofs.Ytjjnfpeeipainaa.Cl
open Go.RowKit
/-! symMerge: one element on the right. -/
set_option maxRecDepth 20000 in
set_option maxHeartbeats 4000000 in
theorem symm_two {w : World} {g N c : Nat} {d : Nat → Nat} {bx M : Nat} {K : Nat → Int} {nb o nc : Nat} {a m b : Nat} (h : w.rowIs g 3 N (fun i => .int .i64 ((d i : Nat) : Int))) (hN : N ≤ 1048576) (hk : NdK w bx M K nb o nc) (h1 : bx ≠ g) (h2 : nb ≠ g) (ham : a + 1 < m) (hmb : b = m + 1) (hbN : b ≤ N) (hd : ∀ i, i < N → d i < M) (hlr : ∀ v, a ≤ v → v < m → d v < d m) (hL : Srt K d a m) :
    Calls Try.prog 91 #[.slice (some ⟨g, 0, none⟩) N c, .int .i64 (a : Int), .int .i64 (m : Int), .int .i64 (b : Int), .func (.func 61) #[] #[.pointer (some ⟨bx, 0, none⟩)]] w fun e w' => e = .returned (.tuple #[]) ∧ ∃ d', Rw w g N d' w' ∧ Fr d d' a b ∧ Srt K d' a b := by
  have H0 := hidd (Rw.start h)
  have HK := hidd hk
  have HD := hidd hd
  have HLR := hidd hlr
  have HSL := hidd hL
  have HMB := hidd hmb
  obtain ⟨z, HZ⟩ : ∃ z, Hid (z = m - a) := ⟨_, rfl⟩
  have e0 : IntKind.i64.wrap ((m : Int) - (a : Int)) = (z : Int) := by rw [IntKind.wrap_i64]; have := HZ.out; omega
  have e1 : ((z : Int) == 1) = false := by have := HZ.out; simp; omega
  have e1' : decide ((z : Int) = 1) = false := decide_eq_false (by have := HZ.out; omega)
  have e1'' : ¬ ((z : Int) = 1) := by have := HZ.out; omega
  have e1n : ¬ (z = 1) := by have := HZ.out; omega
  have e2 : IntKind.i64.wrap ((b : Int) - (m : Int)) = 1 := by rw [IntKind.wrap_i64]; omega
  have hmN : m < N := by omega
  clear h hk hd hlr hL hmb
  go_enter Try.func91, Try.ntmps91
  go_wp2
  go_loopw [14, 15, 16] (fun vi vj _ wr => ∃ i j : Nat, vi = .int .i64 (i : Int) ∧ vj = .int .i64 (j : Int) ∧ a ≤ i ∧ i ≤ j ∧ j ≤ m ∧ Hid (∀ t, a ≤ t → t < i → ltK K (d t) (d m)) ∧ Hid (∀ t, j ≤ t → t < m → ltK K (d m) (d t)) ∧ Hid (Rw w g N d wr)) (fun vi vj _ _ => (intOf vj).toNat - (intOf vi).toNat)
  case atStart => exact ⟨a, m, rfl, rfl, Nat.le_refl _, by omega, Nat.le_refl _, (fun t t1 t2 => absurd t2 (by omega)), (fun t t1 t2 => absurd t2 (by omega)), H0⟩
  case round =>
    obtain ⟨i, j, rfl, rfl, hmi, hij, hjb, HA, HB, HR⟩ := hrel
    by_cases hlt : i < j
    · have i1 : (i : Int) < (j : Int) := by omega
      obtain ⟨s, HS⟩ : ∃ s, Hid (s = i + j) := ⟨_, rfl⟩
      have s1 : IntKind.i64.wrap ((i : Int) + (j : Int)) = (s : Int) := by rw [IntKind.wrap_i64]; have := HS.out; omega
      obtain ⟨hh, HH⟩ : ∃ hh, Hid (hh = s / 2) := ⟨_, rfl⟩
      have hs2 : s ≤ 2097152 := by have := HS.out; omega
      have s2 : IntKind.u64.wrap (s : Int) = (s : Int) := by rw [IntKind.wrap_u64]; omega
      have s3 : (s : Int) / 2 = (hh : Int) := by have := HH.out; omega
      have hih : i ≤ hh := by have := HH.out; have := HS.out; omega
      have hhj : hh < j := by have := HH.out; have := HS.out; omega
      have s4 : IntKind.u64.wrap (hh : Int) = (hh : Int) := by rw [IntKind.wrap_u64]; omega
      have s5 : IntKind.i64.wrap (hh : Int) = (hh : Int) := by rw [IntKind.wrap_i64]; omega
      have c1 := HR.out.row.cell (i := hh) (by omega)
      have c2 := HR.out.row.cell (i := m) (by omega)
      have HCC : Hid (∀ q, Calls Try.prog 61 #[.int .i64 ((d m : Nat) : Int), .int .i64 ((d hh : Nat) : Int), .pointer (some ⟨bx, 0, none⟩)] (wr.drewN q) fun e w' => e = .returned (.int .i64 (cmpV (K (d m)) (K (d hh)))) ∧ ∃ m, w' = (wr.drewN q).drewN m) := fun q => cmpD_q (HK.out.rw HR.out h1 h2) (HD.out m (by omega)) (HD.out hh (by omega)) q
      have hcn := cmpV_neg (K (d m)) (K (d hh))
      generalize hrr : cmpV (K (d m)) (K (d hh)) = r at HCC hcn
      clear hrr
      have g0 : (0 : Int) ≤ (hh : Int) := by omega
      have g1 : (hh : Int) < (N : Int) := by omega
      have g2 : (0 : Int) ≤ (m : Int) := by omega
      have g3 : (m : Int) < (N : Int) := by omega
      by_cases hKlt : K (d m) < K (d hh)
      · have r1 : r < 0 := hcn.2 hKlt
        have r2 : decide (r < 0) = true := decide_eq_true r1
        have HB2 : Hid (∀ t, hh ≤ t → t < m → ltK K (d m) (d t)) := fun t t1 t2 => by
          have k1 : ltK K (d m) (d hh) := .inl hKlt
          by_cases e : t = hh
          · rw [e]; exact k1
          · exact k1.trans (HSL.out hh t (by omega) (by omega) t2)
        clear hcn hKlt HB
        go_wp2
        go_quiet (exact Calls.quiet_of (HCC.out _))
        go_wp2
        go_roundw
        case rel => exact ⟨i, hh, rfl, rfl, hmi, hih, by omega, HA, HB2, HR.out.drewN _⟩
        case measure => simp [intOf]; omega
      · have r1 : ¬ r < 0 := fun q => hKlt (hcn.1 q)
        have r2 : decide (r < 0) = false := decide_eq_false r1
        have HA2 : Hid (∀ t, a ≤ t → t < hh + 1 → ltK K (d t) (d m)) := fun t t1 t2 => by
          have k1 : ltK K (d hh) (d m) := ltK_of (HLR.out hh (by omega) (by omega)) hKlt
          by_cases e : t = hh
          · rw [e]; exact k1
          · exact (HSL.out t hh t1 (by omega) (by omega)).trans k1
        clear hcn hKlt HA
        go_wp2
        go_quiet (exact Calls.quiet_of (HCC.out _))
        go_wp2
        go_roundw
        case rel => exact ⟨hh + 1, j, by go_num, rfl, by omega, by omega, hjb, HA2, HB, HR.out.drewN _⟩
        case measure => simp [intOf]; omega
    · obtain rfl : i = j := by omega
      have hnl : ¬ ((i : Int) < (i : Int)) := by omega
      have HEN : Hid (Fr d (dnD d i m) a b ∧ Srt K (dnD d i m) a b) := ⟨dnD_fr d hmi (by omega) (by have := HMB.out; omega), by rw [HMB.out]; exact dnD_srt hmi (by omega) HSL.out HA.out HB.out⟩
      clear HA HB
      go_wp2
      go_loopw [17] (fun vk wx => ∃ k : Nat, vk = .int .i64 (k : Int) ∧ i ≤ k ∧ k ≤ m ∧ Hid (Rw w g N (dnD d k m) wx)) (fun vk _ => (intOf vk).toNat)
      case atStart => exact ⟨m, rfl, by omega, Nat.le_refl _, by rw [dnD_zero]; exact HR⟩
      case round =>
        obtain ⟨k, rfl, hak, hki, HRk⟩ := hrel
        by_cases hkl : i < k
        · have k1 : (i : Int) < (k : Int) := by omega
          have k2 : decide ((i : Int) < (k : Int)) = true := decide_eq_true k1
          obtain ⟨k', HKK⟩ : ∃ k', Hid (k' = k - 1) := ⟨_, rfl⟩
          have s2 : IntKind.i64.wrap ((k : Int) - 1) = (k' : Int) := by rw [IntKind.wrap_i64]; have := HKK.out; omega
          have hk'b : k' < N := by have := HKK.out; omega
          have hk'k : k' + 1 = k := by have := HKK.out; omega
          have HK1 := hidd hk'k
          have c1 := HRk.out.row.cell (i := k) (by omega)
          have c2 := HRk.out.row.cell (i := k') hk'b
          have fr := HRk.out.row.frozen
          generalize hx : dnD d k m k = x at c1
          generalize hy : dnD d k m k' = y at c2
          have HX := hidd hx
          have HY := hidd hy
          have g0 : (0 : Int) ≤ (k : Int) := by omega
          have g1 : (k : Int) < (N : Int) := by omega
          have g2 : (0 : Int) ≤ (k' : Int) := by omega
          have g3 : (k' : Int) < (N : Int) := by omega
          have hne : k ≠ k' := by omega
          clear hx hy hk'k
          go_wp2
          go_region
          all_goals
            have HSW : Hid (Rw w g N (dnD d k' m) (((wr.setCell ⟨g, k, none⟩ (.int .i64 (y : Int))).setCell ⟨g, k', none⟩ (.int .i64 (x : Int))).drew)) := HRk.out.swap HX.out HY.out (fun t => by have := dnD_step d (k := k') (m := m) (by have := HK1.out; omega) t; rw [HK1.out] at this; exact this)
            go_wp2
            go_roundw
            case rel => exact ⟨k', rfl, by have := HK1.out; omega, by have := HK1.out; omega, HSW⟩
            case measure => simp [intOf]; have := HK1.out; omega
        · obtain rfl : i = k := by omega
          have hnl : ¬ ((i : Int) < (i : Int)) := by omega
          go_wp2
          refine bodyPost_ret (results_none rfl _ _ _) rfl ?_
          exact ⟨rfl, _, HRk.out, HEN.out.1, HEN.out.2⟩
end Go.Proofs.Ytjjnfpeeipainaa.Cl
