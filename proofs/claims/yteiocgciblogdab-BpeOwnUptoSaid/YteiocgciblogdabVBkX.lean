import Derived.Test.YteiocgciblogdabVBkA
namespace Go.Proofs.Yteiocgciblogdab
open Go.RowKit
/-! append, and what becomes of the list that was appended to; the lists with more behind them. -/
theorem wpList_appX {P : Program} (w : World) {ops : Array Oper} {rest : List Oper} {o : Oper} {a : Act} {Q : Exit → Act → World → Prop}
    (hg : o.guard = none) (s x : Operand) (t : TypeId) (hop : o.op = Op.call { callee := Callee.builtin Builtin.append, args := #[s, x], argTypes := #[t, t] })
    (base : Nat) (e : TypeId) (z : Value) (sz bytes : Nat) (h1 : P.underlying t = some (.slice e)) (hinfo : (P.info? e).map (fun i => (i.zero, i.size, i.bytes)) = some (some z, sz, bytes)) (h6 : z.cells.size = sz) (h7 : 0 < sz)
    (v : Value) (n : Nat) (cs : Nat → Value) (hs : a.eval s = v) (hown : Own w base e sz v n cs)
    (g m c : Nat) (hx : a.eval x = .slice (some ⟨g, 0, none⟩) m c) (hc : ∀ j, j < m * sz → w.cell? ⟨g, j, none⟩ = some (cs (n * sz + j))) (h1c : ∀ j, j < m * sz → (cs (n * sz + j)).oneCell' = true)
    (hm : 0 < m) (b1 : n + m ≤ maxLen) (b2 : (n + m) * bytes ≤ 140737488355328) (hb : base ≤ w.heap.size)
    (hK : ∀ v' w', Own w' base e sz v' (n + m) cs → App w w' v v' → (v'.ownBlock = v.ownBlock ∨ Below w.heap.size w w') → wpList P ops Q rest (a.put o.dst v') w') : wpList P ops Q (o :: rest) a w := by
  obtain ⟨i, hi, hz0, hz1, hz2⟩ := info_parts hinfo
  have hn : ((List.range (m * sz)).map (fun j => cs (n * sz + j))).length = m * sz := by simp
  have hc' : ∀ j u, ((List.range (m * sz)).map (fun j => cs (n * sz + j)))[j]? = some u → w.cell? ((⟨g, 0, none⟩ : Addr).add j) = some u := by
    intro j u hu
    rw [add_lit0]
    by_cases hj : j < m * sz
    · simp [hj] at hu; rw [hc j hj, hu]
    · simp [hj] at hu
  have h1c' : ∀ u ∈ (List.range (m * sz)).map (fun j => cs (n * sz + j)), u.oneCell' = true := by
    intro u hu
    obtain ⟨j, hj, rfl⟩ := List.mem_map.1 hu
    exact h1c j (List.mem_range.1 hj)
  rcases hown.2 with ⟨rfl, rfl⟩ | ⟨k, cap, cur, rfl, hbg, hgg, hnc, hcm, hcs, htake⟩
  · refine wpList_append_grows w hg s x t hop e i z sz bytes h1 hi hz0 hz1 hz2 h6 h7 none 0 0 [] hs (fun _ => ⟨rfl, rfl⟩) (by simp) (fun b hb => by cases hb) ⟨g, 0, none⟩ m c _ hx hn hc' h1c' (by omega) b1 b2 ?_
    intro v' w' ho hgr
    refine hK v' w' ?_ ⟨hgr, fun k hk => .inr (World.ownsRow.lt ho k hk).1⟩ (.inr ⟨hgr.os, hgr.tape, hgr.output, hgr.size, fun k hk => hgr.block k hk (by simp)⟩)
    have hx' := Own.weaken (cs := cs) (base' := base) (n := 0 + m) (by unfold Own; rw [← news_len 0 m sz cs]; simpa using ho) hb
    exact hx'
  · by_cases hroom : n + m ≤ cap
    · refine wpList_plain hg fun K hK' => ?_
      obtain ⟨w', hr, ho, hgr⟩ := run_append_fits (P := P) w base t o.type e i sz h1 hi hz1 k n cap _ hown ⟨g, 0, none⟩ m c _ hn hc' h1c' hroom
      unfold Oper.wp execOp
      simp only [hop, resolve, invoke, builtin, Sem.run_bind, Sem.run_pure, Result.andThen_ok, List.map_toArray, List.map_cons, List.map_nil, hs, hx, hr]
      exact hK' _ _ (hK _ w' (by unfold Own; rw [← news_len n m sz cs]; exact ho) ⟨hgr, fun k hk => .inl hk⟩ (.inl rfl))
    · refine wpList_append_grows w hg s x t hop e i z sz bytes h1 hi hz0 hz1 hz2 h6 h7 (some ⟨k, 0, none⟩) n cap ((List.range (n * sz)).map cs) hs (fun h => by cases h) hown.1 (fun b hb => by cases hb; exact World.ownsRow.cells hown (g := k) rfl) ⟨g, 0, none⟩ m c _ hx hn hc' h1c' (by omega) b1 b2 ?_
      intro v' w' ho hgr
      refine hK v' w' ?_ ⟨⟨hgr.os, hgr.tape, hgr.output, hgr.size, fun k hk _ => hgr.block k hk (by simp)⟩, fun k hk => .inr (World.ownsRow.lt ho k hk).1⟩ (.inr ⟨hgr.os, hgr.tape, hgr.output, hgr.size, fun k hk => hgr.block k hk (by simp)⟩)
      exact Own.weaken (cs := cs) (base' := base) (n := n + m) (by unfold Own; rw [← news_len n m sz cs]; exact ho) hb
/-- what is known of a list while its copy is appended to -/
def Beside (w : World) (u v : Value) (n : Nat) (cs : Nat → Value) : Prop := v.ownBlock = u.ownBlock ∨ (Off v u ∧ Rd w u 1 n cs)
theorem Beside.next {w w' : World} {u v v' : Value} {n : Nat} {cs : Nat → Value} (h : Beside w u v n cs) (hu : ∀ b, u.ownBlock = some b → b < w.heap.size) (happ : App w w' v v') (hx : v'.ownBlock = v.ownBlock ∨ Below w.heap.size w w') (hr : v.ownBlock = u.ownBlock → Rd w u 1 n cs) : Beside w' u v' n cs := by
  rcases h with h | ⟨h1, h2⟩
  · rcases hx with hx | hx
    · exact .inl (hx.trans h)
    · by_cases e : v'.ownBlock = v.ownBlock
      · exact .inl (e.trans h)
      · refine .inr ⟨fun b hb hb' => ?_, (hr h).fresh hx⟩
        rcases happ.blk b hb with e2 | e2
        · exact e (hb.trans e2.symm)
        · have := hu b hb'; omega
  · refine .inr ⟨fun b hb hb' => ?_, ?_⟩
    · rcases happ.blk b hb with e2 | e2
      · exact h1 b e2 hb'
      · have := hu b hb'; omega
    · obtain ⟨ao, c, rfl, r⟩ := h2
      refine ⟨ao, c, rfl, r.le, r.top, fun h0 => ?_⟩
      obtain ⟨b, off, rfl, hc⟩ := r.at_ h0
      refine ⟨b, off, rfl, fun j hj => ?_⟩
      have hb := hu b rfl
      have hne : some b ≠ v.ownBlock := fun e => h1 b e.symm rfl
      rw [World.cell?_of_block (happ.grown.block b hb hne)]
      exact hc j hj
end Go.Proofs.Yteiocgciblogdab
