import Derived.Test.YtbpldnlafilbbaaNgPc
import Derived.Test.YtbpldnlafilbbaaNgRd
import Derived.Test.YtbpldnlafilbbaaNgT
namespace Go.Proofs.Ytbpldnlafilbbaa
open Go.RowKit
/-! NgramLists: lists that are written over and grown. -/
theorem own_blkW {w : World} {base : Nat} {e : TypeId} {sz : Nat} {u : Option Addr} {n c : Nat} {cs : Nat → Value} (h : Own w base e sz (.slice u n c) n cs) (hn : 0 < n) : ∃ g, u = some ⟨g, 0, none⟩ ∧ base ≤ g ∧ g < w.heap.size := by
  rcases h.2 with ⟨e, h0⟩ | ⟨g, cap, cur, e, hb, hg, _⟩
  · exact absurd h0 (by omega)
  · cases e
    exact ⟨g, rfl, hb, (Array.getElem?_eq_some_iff.1 hg).1⟩
theorem own_fzW {w : World} {base : Nat} {e : TypeId} {sz : Nat} {g n c : Nat} {cs : Nat → Value} (h : Own w base e sz (.slice (some ⟨g, 0, none⟩) n c) n cs) : ∀ i, w.frozen? ⟨g, i, none⟩ = false := by
  rcases h.2 with ⟨e, _⟩ | ⟨g', cap, cur, e, hb, hg, _⟩
  · cases e
  · cases e
    intro i
    simp [World.frozen?, hg]
theorem wpList_appX {P : Program} (w : World) {ops : Array Oper} {rest : List Oper} {o : Oper} {a : Act} {Q : Exit → Act → World → Prop}
    (hg : o.guard = none) (s x : Operand) (t : TypeId) (hop : o.op = Op.call { callee := Callee.builtin Builtin.append, args := #[s, x], argTypes := #[t, t] })
    (base : Nat) (e : TypeId) (z : Value) (sz bytes : Nat) (h1 : P.underlying t = some (.slice e)) (hinfo : (P.info? e).map (fun i => (i.zero, i.size, i.bytes)) = some (some z, sz, bytes)) (h6 : z.cells.size = sz) (h7 : 0 < sz)
    (v : Value) (n : Nat) (cs : Nat → Value) (hs : a.eval s = v) (hown : Own w base e sz v n cs)
    (g m c : Nat) (hx : a.eval x = .slice (some ⟨g, 0, none⟩) m c) (hc : ∀ j, j < m * sz → w.cell? ⟨g, j, none⟩ = some (cs (n * sz + j))) (h1c : ∀ j, j < m * sz → (cs (n * sz + j)).oneCell' = true)
    (hm : 0 < m) (b1 : n + m ≤ maxLen) (b2 : (n + m) * bytes ≤ 140737488355328) (hb : base ≤ w.heap.size)
    (hK : ∀ v' w', Own w' base e sz v' (n + m) cs → App w w' v v' → (v'.ownBlock = v.ownBlock ∨ Below w.heap.size w w') → wpList P ops Q rest (a.put o.dst v') w') : wpList P ops Q (o :: rest) a w := by
  obtain ⟨i, hi, hz0, hz1, hz2⟩ := info_parts hinfo
  have hn : ((List.range (m * sz)).map (fun j => cs (n * sz + j))).length = m * sz := by simp
  have hc' : ∀ j u, ((List.range (m * sz)).map (fun j => cs (n * sz + j)))[j]? = some u → w.cell? ((⟨g, 0, none⟩ : Addr).add j) = some u := by
    intro j u hu
    rw [add_lit0]
    by_cases hj : j < m * sz
    · simp [hj] at hu; rw [hc j hj, hu]
    · simp [hj] at hu
  have h1c' : ∀ u ∈ (List.range (m * sz)).map (fun j => cs (n * sz + j)), u.oneCell' = true := by
    intro u hu
    obtain ⟨j, hj, rfl⟩ := List.mem_map.1 hu
    exact h1c j (List.mem_range.1 hj)
  rcases hown.2 with ⟨rfl, rfl⟩ | ⟨k, cap, cur, rfl, hbg, hgg, hnc, hcm, hcs, htake⟩
  · refine wpList_append_grows w hg s x t hop e i z sz bytes h1 hi hz0 hz1 hz2 h6 h7 none 0 0 [] hs (fun _ => ⟨rfl, rfl⟩) (by simp) (fun b hb => by cases hb) ⟨g, 0, none⟩ m c _ hx hn hc' h1c' (by omega) b1 b2 ?_
    intro v' w' ho hgr
    refine hK v' w' ?_ ⟨hgr, fun k hk => .inr (World.ownsRow.lt ho k hk).1⟩ (.inr ⟨hgr.os, hgr.tape, hgr.output, hgr.size, fun k hk => hgr.block k hk (by simp)⟩)
    have hx' := Own.weaken (cs := cs) (base' := base) (n := 0 + m) (by unfold Own; rw [← news_len 0 m sz cs]; simpa using ho) hb
    exact hx'
  · by_cases hroom : n + m ≤ cap
    · refine wpList_plain hg fun K hK' => ?_
      obtain ⟨w', hr, ho, hgr⟩ := run_append_fits (P := P) w base t o.type e i sz h1 hi hz1 k n cap _ hown ⟨g, 0, none⟩ m c _ hn hc' h1c' hroom
      unfold Oper.wp execOp
      simp only [hop, resolve, invoke, builtin, Sem.run_bind, Sem.run_pure, Result.andThen_ok, List.map_toArray, List.map_cons, List.map_nil, hs, hx, hr]
      exact hK' _ _ (hK _ w' (by unfold Own; rw [← news_len n m sz cs]; exact ho) ⟨hgr, fun k hk => .inl hk⟩ (.inl rfl))
    · refine wpList_append_grows w hg s x t hop e i z sz bytes h1 hi hz0 hz1 hz2 h6 h7 (some ⟨k, 0, none⟩) n cap ((List.range (n * sz)).map cs) hs (fun h => by cases h) hown.1 (fun b hb => by cases hb; exact World.ownsRow.cells hown (g := k) rfl) ⟨g, 0, none⟩ m c _ hx hn hc' h1c' (by omega) b1 b2 ?_
      intro v' w' ho hgr
      refine hK v' w' ?_ ⟨⟨hgr.os, hgr.tape, hgr.output, hgr.size, fun k hk _ => hgr.block k hk (by simp)⟩, fun k hk => .inr (World.ownsRow.lt ho k hk).1⟩ (.inr ⟨hgr.os, hgr.tape, hgr.output, hgr.size, fun k hk => hgr.block k hk (by simp)⟩)
      exact Own.weaken (cs := cs) (base' := base) (n := n + m) (by unfold Own; rw [← news_len n m sz cs]; exact ho) hb
/-- a list grown out of another one: r elements more; what the first one holds is still there -/
structure Grw (w wr : World) (e : TypeId) (sz : Nat) (v u : Value) (n r : Nat) (cs : Nat → Value) : Prop where
  own : Own wr 0 e sz u (n + r) cs
  blk : ∀ z, u.ownBlock = some z → v.ownBlock = some z ∨ w.heap.size ≤ z
  old : Rd wr v sz n cs
  chg : Chg w wr (fun b => v.ownBlock = some b)
theorem Grw.start {w : World} {e : TypeId} {sz : Nat} {v : Value} {n c : Nat} {cs cs' : Nat → Value} (h : Own w c e sz v n cs) (hc : ∀ j, j < n * sz → cs j = cs' j) : Grw w w e sz v v n 0 cs' :=
  ⟨(h.weaken (Nat.zero_le _)).congr hc, fun _ hz => .inl hz, (h.congr hc).rd, Chg.refl _ _⟩
theorem Grw.next {w wr wa w' : World} {e : TypeId} {sz : Nat} {v u u' : Value} {n r c : Nat} {cs ct : Nat → Value} (h : Grw w wr e sz v u n r cs) (fa : Below wr.heap.size wr wa) (hv : Own w c e sz v n ct)
    (ho : Own w' 0 e sz u' (n + r + 1) cs) (ha : App wa w' u u') (hm : u'.ownBlock = u.ownBlock ∨ Below wa.heap.size wa w') : Grw w w' e sz v u' n (r + 1) cs := by
  have hs := h.chg.size
  have hs2 := fa.size
  refine ⟨ho, fun z hz => ?_, ?_, ?_⟩
  · rcases ha.blk z hz with q | q
    · exact h.blk z q
    · exact .inr (by omega)
  · rcases hv.2 with ⟨rfl, rfl⟩ | ⟨g, cap, cur, rfl, hb, hg, hnc, hcm, _⟩
    · exact ⟨none, 0, rfl, Nat.le_refl _, Nat.zero_le _, fun h => absurd h (by omega)⟩
    · refine ⟨_, cap, rfl, hnc, hcm, fun h0 => ⟨g, 0, rfl, fun j hj => ?_⟩⟩
      have h0' : 0 < n := h0
      have hj' : j < (n + r + 1) * sz := Nat.lt_of_lt_of_le hj (Nat.mul_le_mul_right _ (by omega))
      by_cases hug : u'.ownBlock = some g
      · obtain ⟨ao', cap', rfl, hr⟩ := ho.rd
        obtain ⟨b, off, rfl, hc⟩ := hr.at_ (by omega)
        rcases ho.2 with ⟨q, _⟩ | ⟨g', c', cur', q, _⟩
        · cases q
        · cases q
          simp only [Value.ownBlock, Option.some.injEq] at hug
          subst hug
          exact hc j hj'
      · obtain ⟨ao2, c2, q, hr⟩ := h.old.fresh fa
        cases q
        obtain ⟨b, off, q, hc⟩ := hr.at_ (by omega)
        cases q
        have hcj := hc j hj
        rcases hm with hm | hm
        · exact ha.grown.cell hcj (fun q => hug (by rw [hm]; exact q.symm))
        · exact fresh_cell hm hcj
  · refine (h.chg.post fa).trans (Chg.of_app ha) (fun z hz hu => ?_)
    rcases h.blk z hu with q | q
    · exact q
    · omega
theorem RdA.chg {w w' : World} {T : Nat → Prop} {ao : Option Addr} {sz n cap : Nat} {cs : Nat → Value} (h : RdA w ao sz n cap cs) (c : Chg w w' T) (hT : ∀ b o, ao = some ⟨b, o, none⟩ → 0 < n → ¬ T b) : RdA w' ao sz n cap cs := by
  refine ⟨h.le, h.top, fun hn => ?_⟩
  obtain ⟨b, o, e, hc⟩ := h.at_ hn
  exact ⟨b, o, e, fun j hj => c.cell (hc j hj) (hT b o e hn)⟩
/-- three variables in boxes -/
structure Fx (wr : World) (sa sb sx X : Nat) (va vb : Value) : Prop where
  ca : wr.cell? ⟨sa, 0, none⟩ = some va
  cb : wr.cell? ⟨sb, 0, none⟩ = some vb
  cx : wr.cell? ⟨sx, 0, none⟩ = some (.pointer (some ⟨X, 0, none⟩))
theorem Fx.chg {w w' : World} {sa sb sx X : Nat} {va vb : Value} {T : Nat → Prop} (h : Fx w sa sb sx X va vb) (c : Chg w w' T) (hT : ∀ b, b = sa ∨ b = sb ∨ b = sx → ¬ T b) : Fx w' sa sb sx X va vb :=
  ⟨c.cell h.ca (hT _ (.inl rfl)), c.cell h.cb (hT _ (.inr (.inl rfl))), c.cell h.cx (hT _ (.inr (.inr rfl)))⟩
theorem Fx.fresh {w w' : World} {sa sb sx X : Nat} {va vb : Value} (h : Fx w sa sb sx X va vb) (f : Below w.heap.size w w') : Fx w' sa sb sx X va vb := h.chg (Chg.of_below (fun _ => False) f) (fun _ _ t => t)
theorem box2a (w : World) (va vb : Value) (t t' : TypeId) : ((w.alloc (.cells #[va] t)).alloc (.cells #[vb] t')).cell? ⟨w.heap.size, 0, none⟩ = some va := fresh_cell (fresh_alloc _ _) (new_cell _ _ _)
theorem box2b (w : World) (va vb : Value) (t t' : TypeId) : ((w.alloc (.cells #[va] t)).alloc (.cells #[vb] t')).cell? ⟨w.heap.size + 1, 0, none⟩ = some vb := by
  have := new_cell (w.alloc (.cells #[va] t)) vb t'
  rwa [World.size_alloc] at this
def m9 (na : Nat) : Nat → Value := fun j => if j < na then .int .i64 (-9) else .int .i64 (-8)
def r9 (n : Nat) : Nat → Value := fun j => if j < n * 2 then (if j % 2 = 0 then .int .i64 5 else .int .i64 (-7)) else (if j % 2 = 0 then .int .i64 0 else .int .i64 (-6))
theorem m9_one (n j : Nat) : (m9 n j).oneCell' = true := by unfold m9; split <;> rfl
theorem r9_one (n j : Nat) : (r9 n j).oneCell' = true := by unfold r9; split <;> split <;> rfl
end Go.Proofs.Ytbpldnlafilbbaa
