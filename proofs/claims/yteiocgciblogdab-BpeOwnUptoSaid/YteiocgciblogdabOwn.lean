import Derived.WalkKit
import Derived.WalkSpells
import Derived.WalkSmall
import Derived.WalkLawsBesides
import Derived.Handy
import Derived.BigQuiet
import Derived.OwnWalk
import Derived.ArgAppend
import Derived.Deep.OwnRows
namespace Go.Proofs.Yteiocgciblogdab
open Go.RowKit
/-! Lists that are read, and lists that a call makes: small facts that all walks want. -/
theorem ret_int {k : IntKind} {a b : Int} (h : a = b) : Ending.returned (.int k a) = .returned (.int k b) := by rw [h]
theorem ret_bool {a b : Bool} (h : a = b) : Ending.returned (.bool a) = .returned (.bool b) := by rw [h]
theorem hidd {p : Prop} (h : p) : Hid p := h
theorem lt_of_cell {w : World} {b o : Nat} {v : Value} (h : w.cell? ⟨b, o, none⟩ = some v) : b < w.heap.size := World.block_lt_of_cell? w ⟨b, o, none⟩ h
/-- What was there is as it was. -/
theorem fresh_trans {a b c : World} (h : Below a.heap.size a b) (k : Below b.heap.size b c) : Below a.heap.size a c := h.trans (k.mono h.size)
theorem fresh_cell {a b : World} (h : Below a.heap.size a b) {k o : Nat} {v : Value} (e : a.cell? ⟨k, o, none⟩ = some v) : b.cell? ⟨k, o, none⟩ = some v := by
  rw [h.cell (p := ⟨k, o, none⟩) (lt_of_cell e), e]
theorem fresh_drewN (w : World) (n : Nat) : Below w.heap.size w (w.drewN n) := below_drewN (Below.refl _ _) n
theorem fresh_alloc (w : World) (o : Obj) : Below w.heap.size w (w.alloc o) := (Below.refl _ _).alloc (Nat.le_refl _) o
/-- A slice that is read: n elements of sz cells each. -/
structure RdA (w : World) (ao : Option Addr) (sz n cap : Nat) (cs : Nat → Value) : Prop where
  le : n ≤ cap
  top : cap ≤ maxLen
  at_ : 0 < n → ∃ b off, ao = some ⟨b, off, none⟩ ∧ ∀ j, j < n * sz → w.cell? ⟨b, off + j, none⟩ = some (cs j)
def Rd (w : World) (v : Value) (sz n : Nat) (cs : Nat → Value) : Prop := ∃ ao cap, v = .slice ao n cap ∧ RdA w ao sz n cap cs
theorem RdA.fresh {w w' : World} {ao : Option Addr} {sz n cap : Nat} {cs : Nat → Value} (h : RdA w ao sz n cap cs) (f : Below w.heap.size w w') : RdA w' ao sz n cap cs := by
  refine ⟨h.le, h.top, fun hn => ?_⟩
  obtain ⟨b, off, rfl, hc⟩ := h.at_ hn
  exact ⟨b, off, rfl, fun j hj => fresh_cell f (hc j hj)⟩
theorem Rd.fresh {w w' : World} {v : Value} {sz n : Nat} {cs : Nat → Value} (h : Rd w v sz n cs) (f : Below w.heap.size w w') : Rd w' v sz n cs := by
  obtain ⟨ao, cap, rfl, h⟩ := h
  exact ⟨ao, cap, rfl, h.fresh f⟩
theorem RdA.congr {w : World} {ao : Option Addr} {sz n cap : Nat} {cs cs' : Nat → Value} (h : RdA w ao sz n cap cs) (e : ∀ j, j < n * sz → cs j = cs' j) : RdA w ao sz n cap cs' := by
  refine ⟨h.le, h.top, fun hn => ?_⟩
  obtain ⟨b, off, rfl, hc⟩ := h.at_ hn
  exact ⟨b, off, rfl, fun j hj => by rw [← e j hj]; exact hc j hj⟩
theorem Rd.congr {w : World} {v : Value} {sz n : Nat} {cs cs' : Nat → Value} (h : Rd w v sz n cs) (e : ∀ j, j < n * sz → cs j = cs' j) : Rd w v sz n cs' := by
  obtain ⟨ao, cap, rfl, h⟩ := h
  exact ⟨ao, cap, rfl, h.congr e⟩
/-- What one element of one cell is. -/
theorem RdA.one {w : World} {ao : Option Addr} {n cap : Nat} {cs : Nat → Value} (h : RdA w ao 1 n cap cs) (hn : 0 < n) : ∃ b off, ao = some ⟨b, off, none⟩ ∧ ∀ j, j < n → w.cell? ⟨b, off + j, none⟩ = some (cs j) := by
  obtain ⟨b, off, rfl, hc⟩ := h.at_ hn
  exact ⟨b, off, rfl, fun j hj => hc j (by omega)⟩
/-- A list that the call makes. -/
def Own (w : World) (base : Nat) (e : TypeId) (sz : Nat) (v : Value) (n : Nat) (cs : Nat → Value) : Prop := w.ownsRow base e sz v n ((List.range (n * sz)).map cs)
theorem own_nil (w : World) (base : Nat) (e : TypeId) (sz : Nat) (cs : Nat → Value) : Own w base e sz (.slice none 0 0) 0 cs := by
  unfold Own; simpa using World.ownsRow_nil w base e sz
theorem Own.congr {w : World} {base : Nat} {e : TypeId} {sz : Nat} {v : Value} {n : Nat} {cs cs' : Nat → Value} (h : Own w base e sz v n cs) (k : ∀ j, j < n * sz → cs j = cs' j) : Own w base e sz v n cs' := by
  unfold Own at *
  rwa [List.map_congr_left (fun j hj => (k j (List.mem_range.1 hj)).symm)]
theorem Own.rd {w : World} {base : Nat} {e : TypeId} {sz : Nat} {v : Value} {n : Nat} {cs : Nat → Value} (h : Own w base e sz v n cs) : Rd w v sz n cs := by
  rcases h.2 with ⟨rfl, rfl⟩ | ⟨g, cap, cur, rfl, hb, hg, hnc, hcm, hcs, htake⟩
  · exact ⟨none, 0, rfl, Nat.le_refl _, Nat.zero_le _, fun h => absurd h (by omega)⟩
  · refine ⟨_, cap, rfl, hnc, hcm, fun _ => ⟨g, 0, rfl, fun j hj => ?_⟩⟩
    have := World.ownsRow.cells h (g := g) rfl j (cs j) (by simp [hj])
    have hadd : (⟨g, 0, none⟩ : Addr).add j = ⟨g, j, none⟩ := by unfold Addr.add; split <;> simp_all
    rw [hadd] at this
    simpa using this
theorem Own.lt {w : World} {base : Nat} {e : TypeId} {sz : Nat} {v : Value} {n : Nat} {cs : Nat → Value} (h : Own w base e sz v n cs) : ∀ k, v.ownBlock = some k → base ≤ k ∧ k < w.heap.size := World.ownsRow.lt h
theorem Own.kept {w w' : World} {base : Nat} {e : TypeId} {sz : Nat} {v : Value} {n : Nat} {cs : Nat → Value} (h : Own w base e sz v n cs) (f : Below w.heap.size w w') : Own w' base e sz v n cs := by
  refine ⟨h.1, ?_⟩
  rcases h.2 with hn | ⟨g, cap, cur, rfl, hb, hgg, rest⟩
  · exact .inl hn
  · refine .inr ⟨g, cap, cur, rfl, hb, ?_, rest⟩
    rw [f.block g (Array.getElem?_eq_some_iff.1 hgg).1]; exact hgg
theorem Own.weaken {w : World} {base base' : Nat} {e : TypeId} {sz : Nat} {v : Value} {n : Nat} {cs : Nat → Value} (h : Own w base e sz v n cs) (k : base' ≤ base) : Own w base' e sz v n cs := by
  refine ⟨h.1, ?_⟩
  rcases h.2 with hn | ⟨g, cap, cur, rfl, hb, rest⟩
  · exact .inl hn
  · exact .inr ⟨g, cap, cur, rfl, Nat.le_trans k hb, rest⟩
/-- What an append leaves. -/
structure App (w w' : World) (v v' : Value) : Prop where
  grown : w.grownBy w' v.ownBlock
  blk : ∀ k, v'.ownBlock = some k → v.ownBlock = some k ∨ w.heap.size ≤ k
/-- Two lists that share no block. -/
def Off (v u : Value) : Prop := ∀ k, v.ownBlock = some k → u.ownBlock ≠ some k
theorem Off.symm {v u : Value} (h : Off v u) : Off u v := fun k hu hv => h k hv hu
theorem off_nil (u : Value) : Off (.slice none 0 0) u := fun _ h => by simp [Value.ownBlock] at h
theorem App.below {w w' a : World} {v v' : Value} {base B : Nat} {e : TypeId} {sz n : Nat} {cs : Nat → Value} (h : App w w' v v') (hb : Below B a w) (ho : Own w base e sz v n cs) (hB : B ≤ base) (hs : B ≤ w.heap.size) : Below B a w' :=
  hb.grown h.grown hs (fun k hk => Nat.le_trans hB (ho.lt k hk).1)
theorem App.own {w w' : World} {v v' u : Value} {base : Nat} {e : TypeId} {sz n : Nat} {cs : Nat → Value} (h : App w w' v v') (ho : Own w base e sz u n cs) (ha : Off v u) : Own w' base e sz u n cs :=
  World.ownsRow.kept ho h.grown (by
    cases hu : u.ownBlock with
    | none => exact .inl rfl
    | some k => exact .inr (fun e => ha k e.symm hu))
theorem App.off {w w' : World} {v v' u : Value} {base : Nat} {e : TypeId} {sz n : Nat} {cs : Nat → Value} (h : App w w' v v') (ho : Own w base e sz u n cs) (ha : Off v u) : Off v' u := fun k hk hu => by
  rcases h.blk k hk with e | e
  · exact ha k e hu
  · have := (ho.lt k hu).2; omega
theorem news_len (n m sz : Nat) (cs : Nat → Value) : (List.range (n * sz)).map cs ++ (List.range (m * sz)).map (fun j => cs (n * sz + j)) = (List.range ((n + m) * sz)).map cs := by
  rw [Nat.add_mul, List.range_add, List.map_append, List.map_map]; rfl
theorem add_lit0 (g j : Nat) : (⟨g, 0, none⟩ : Addr).add j = ⟨g, j, none⟩ := by unfold Addr.add; split <;> simp_all
theorem wpList_app {P : Program} (w : World) {ops : Array Oper} {rest : List Oper} {o : Oper} {a : Act} {Q : Exit → Act → World → Prop}
    (hg : o.guard = none) (s x : Operand) (t : TypeId) (hop : o.op = Op.call { callee := Callee.builtin Builtin.append, args := #[s, x], argTypes := #[t, t] })
    (base : Nat) (e : TypeId) (z : Value) (sz bytes : Nat) (h1 : P.underlying t = some (.slice e)) (hinfo : (P.info? e).map (fun i => (i.zero, i.size, i.bytes)) = some (some z, sz, bytes)) (h6 : z.cells.size = sz) (h7 : 0 < sz)
    (v : Value) (n : Nat) (cs : Nat → Value) (hs : a.eval s = v) (hown : Own w base e sz v n cs)
    (g m c : Nat) (hx : a.eval x = .slice (some ⟨g, 0, none⟩) m c) (hc : ∀ j, j < m * sz → w.cell? ⟨g, j, none⟩ = some (cs (n * sz + j))) (h1c : ∀ j, j < m * sz → (cs (n * sz + j)).oneCell' = true)
    (hm : 0 < m) (b1 : n + m ≤ maxLen) (b2 : (n + m) * bytes ≤ 140737488355328) (hb : base ≤ w.heap.size)
    (hK : ∀ v' w', Own w' base e sz v' (n + m) cs → App w w' v v' → wpList P ops Q rest (a.put o.dst v') w') : wpList P ops Q (o :: rest) a w := by
  obtain ⟨i, hi, hz0, hz1, hz2⟩ := info_parts hinfo
  have hn : ((List.range (m * sz)).map (fun j => cs (n * sz + j))).length = m * sz := by simp
  have hc' : ∀ j u, ((List.range (m * sz)).map (fun j => cs (n * sz + j)))[j]? = some u → w.cell? ((⟨g, 0, none⟩ : Addr).add j) = some u := by
    intro j u hu
    rw [add_lit0]
    by_cases hj : j < m * sz
    · simp [hj] at hu; rw [hc j hj, hu]
    · simp [hj] at hu
  have h1c' : ∀ u ∈ (List.range (m * sz)).map (fun j => cs (n * sz + j)), u.oneCell' = true := by
    intro u hu
    obtain ⟨j, hj, rfl⟩ := List.mem_map.1 hu
    exact h1c j (List.mem_range.1 hj)
  rcases hown.2 with ⟨rfl, rfl⟩ | ⟨k, cap, cur, rfl, hbg, hgg, hnc, hcm, hcs, htake⟩
  · refine wpList_append_grows w hg s x t hop e i z sz bytes h1 hi hz0 hz1 hz2 h6 h7 none 0 0 [] hs (fun _ => ⟨rfl, rfl⟩) (by simp) (fun b hb => by cases hb) ⟨g, 0, none⟩ m c _ hx hn hc' h1c' (by omega) b1 b2 ?_
    intro v' w' ho hgr
    refine hK v' w' ?_ ⟨hgr, fun k hk => .inr (World.ownsRow.lt ho k hk).1⟩
    have hx' := Own.weaken (cs := cs) (base' := base) (n := 0 + m) (by unfold Own; rw [← news_len 0 m sz cs]; simpa using ho) hb
    exact hx'
  · by_cases hroom : n + m ≤ cap
    · refine wpList_plain hg fun K hK' => ?_
      obtain ⟨w', hr, ho, hgr⟩ := run_append_fits (P := P) w base t o.type e i sz h1 hi hz1 k n cap _ hown ⟨g, 0, none⟩ m c _ hn hc' h1c' hroom
      unfold Oper.wp execOp
      simp only [hop, resolve, invoke, builtin, Sem.run_bind, Sem.run_pure, Result.andThen_ok, List.map_toArray, List.map_cons, List.map_nil, hs, hx, hr]
      exact hK' _ _ (hK _ w' (by unfold Own; rw [← news_len n m sz cs]; exact ho) ⟨hgr, fun k hk => .inl hk⟩)
    · refine wpList_append_grows w hg s x t hop e i z sz bytes h1 hi hz0 hz1 hz2 h6 h7 (some ⟨k, 0, none⟩) n cap ((List.range (n * sz)).map cs) hs (fun h => by cases h) hown.1 (fun b hb => by cases hb; exact World.ownsRow.cells hown (g := k) rfl) ⟨g, 0, none⟩ m c _ hx hn hc' h1c' (by omega) b1 b2 ?_
      intro v' w' ho hgr
      refine hK v' w' ?_ ⟨⟨hgr.os, hgr.tape, hgr.output, hgr.size, fun k hk _ => hgr.block k hk (by simp)⟩, fun k hk => .inr (World.ownsRow.lt ho k hk).1⟩
      exact Own.weaken (cs := cs) (base' := base) (n := n + m) (by unfold Own; rw [← news_len n m sz cs]; exact ho) hb
/-- The new block that the appended element lies in. -/
theorem new_cell (w : World) (x : Value) (t : TypeId) : (w.alloc (.cells #[x] t)).cell? ⟨w.heap.size, 0, none⟩ = some x := by simp
theorem new_int (w : World) {k : IntKind} {x y : Int} (t : TypeId) (h : y = x) : (w.alloc (.cells #[.int k x] t)).cell? ⟨w.heap.size, 0, none⟩ = some (.int k y) := by simp [h]
/-- One element of one cell more. -/
theorem wpList_app1 {P : Program} (w : World) {ops : Array Oper} {rest : List Oper} {o : Oper} {a : Act} {Q : Exit → Act → World → Prop}
    (hg : o.guard = none) (s x : Operand) (t : TypeId) (hop : o.op = Op.call { callee := Callee.builtin Builtin.append, args := #[s, x], argTypes := #[t, t] })
    (base : Nat) (e : TypeId) (z : Value) (bytes : Nat) (h1 : P.underlying t = some (.slice e)) (hinfo : (P.info? e).map (fun i => (i.zero, i.size, i.bytes)) = some (some z, 1, bytes)) (h6 : z.cells.size = 1)
    (v : Value) (n : Nat) (cs : Nat → Value) (hs : a.eval s = v) (hown : Own w base e 1 v n cs)
    (g c : Nat) (hx : a.eval x = .slice (some ⟨g, 0, none⟩) 1 c) (hc : w.cell? ⟨g, 0, none⟩ = some (cs n)) (h1c : (cs n).oneCell' = true)
    (b1 : n < 9223372036854775807) (b2 : (n + 1) * bytes ≤ 140737488355328) (hb : base ≤ w.heap.size)
    (hK : ∀ v' w', Own w' base e 1 v' (n + 1) cs → App w w' v v' → wpList P ops Q rest (a.put o.dst v') w') : wpList P ops Q (o :: rest) a w :=
  wpList_app w hg s x t hop base e z 1 bytes h1 hinfo h6 (by decide) v n cs hs hown g 1 c hx
    (fun j hj => by obtain rfl : j = 0 := by omega
                    simpa using hc) (fun j hj => by obtain rfl : j = 0 := by omega
                                                    simpa using h1c) (by decide) (by unfold maxLen; omega) b2 hb hK
/-- A row that 'make' laid, read as a list. -/
theorem rowIs_rd {w : World} {b n : Nat} {t : TypeId} {f : Nat → Value} (h : w.rowIs b t n f) (hn : n ≤ maxLen) : RdA w (some ⟨b, 0, none⟩) 1 n n f :=
  ⟨Nat.le_refl _, hn, fun _ => ⟨b, 0, rfl, fun j hj => by simpa using h.cell (i := j) (by omega)⟩⟩
end Go.Proofs.Yteiocgciblogdab
