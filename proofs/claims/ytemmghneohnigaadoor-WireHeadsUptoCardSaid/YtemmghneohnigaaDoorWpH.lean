import Derived.Test.YtemmghneohnigaaDoorWpG
namespace Go.Proofs.YtemmghneohnigaaDoor
open Go.RowKit
/-! Appending to it. -/
theorem TxG.chg {w w' : World} {base : Nat} {v : Value} {l : List Int} {S : Nat → Prop} (h : TxG w base v l) (c : Chg w w' S) (hS : ∀ g, v.ownBlock = some g → ¬ S g) : TxG w' base v l := by
  obtain ⟨g, cap, rfl, hb, hg, h1, h2, ht, hr⟩ := h
  have hbk := c.block g hg (hS g (by simp [Value.ownBlock]))
  have hcell : ∀ j, w'.cell? ⟨g, j, none⟩ = w.cell? ⟨g, j, none⟩ := fun j => by simp [World.cell?, hbk]
  have hfro : ∀ j, w'.frozen? ⟨g, j, none⟩ = w.frozen? ⟨g, j, none⟩ := fun j => by simp [World.frozen?, hbk]
  exact ⟨g, cap, rfl, hb, Nat.lt_of_lt_of_le hg c.size, h1, h2, fun j hj => by rw [hcell, hfro]; exact ht j hj, fun j x hx => by rw [hcell]; exact hr j x hx⟩
theorem TxG.fresh {w w' : World} {base : Nat} {v : Value} {l : List Int} (h : TxG w base v l) (f : Below w.heap.size w w') : TxG w' base v l := h.chg (Chg.of_below (fun _ => False) f) (fun _ _ h => h)
theorem TxG.weaken {w : World} {base base' : Nat} {v : Value} {l : List Int} (h : TxG w base v l) (hb : base' ≤ base) : TxG w base' v l := by
  obtain ⟨g, cap, e, hb', r⟩ := h
  exact ⟨g, cap, e, Nat.le_trans hb hb', r⟩
theorem there_new (w : World) (cs : Array Value) (t : TypeId) (cap : Nat) (h : cap ≤ cs.size) : (w.alloc (.cells cs t)).there w.heap.size 0 cap := fun j hj => by
  have hB := Blk.new w t cs
  rw [Nat.zero_add, hB.cell, hB.frozen]
  refine ⟨?_, rfl⟩
  rw [Array.getElem?_eq_getElem (by omega)]; rfl
theorem range_new (w : World) (cs : Array Value) (t : TypeId) (l : List Value) (h : cs.toList.take l.length = l) : (w.alloc (.cells cs t)).rangeAt w.heap.size 0 l := fun j v hj => by
  rw [Nat.zero_add, (Blk.new w t cs).cell, ← Array.getElem?_toList]
  rw [← h] at hj
  have hjl : j < l.length := by
    have := (List.getElem?_eq_some_iff.1 hj).1
    rw [List.length_take] at this
    omega
  rwa [List.getElem?_take_of_lt hjl] at hj
theorem run_app_str {w : World} {base : Nat} {v : Value} {l s : List Int} (h : TxG w base v l) (hs : Byt s) (hb : base ≤ w.heap.size) (hn : l.length + s.length ≤ 140737488355328) (ty : TypeId) :
    ∃ v' w', (Builtin.append_ #[22, 9] ty #[v, .string (strOfNums s)]).run Tryd.prog w = .ok v' w' ∧ TxG w' base v' (l ++ s) ∧ Chg w w' (fun b => v.ownBlock = some b) ∧ (∀ b, v'.ownBlock = some b → v.ownBlock = some b ∨ w.heap.size ≤ b) := by
  obtain ⟨i, hi, hz0, hz1, hz2⟩ := info_parts infoB
  obtain ⟨g, cap, rfl, hbg, hg, hlc, hcm, ht, hr⟩ := h
  have hsz : (strOfNums s).size = s.length := strOfNums_size s
  by_cases hroom : l.length + s.length ≤ cap
  · have hst := run_storeCells_cells (P := Tryd.prog) g l.length (s.map fun x => Value.int .u8 x) 0 w (fun j hj => by
        rw [List.length_map] at hj
        have := (ht (l.length + j) (by omega)).1
        rwa [Nat.zero_add] at this) (fun j hj => by
        rw [List.length_map] at hj
        have := (ht (l.length + j) (by omega)).2
        rwa [Nat.zero_add] at this) u8one
    have hf := Lib.run_firstCells_string (P := Tryd.prog) w 1 (strOfNums s)
    rw [strCells_nums hs] at hf
    refine ⟨.slice (some ⟨g, 0, none⟩) (l.length + s.length) cap, w.setCells g l.length (s.map fun x => Value.int .u8 x), ?_, TxG.room hbg hg hcm ht hr hroom, (chg_setCells _ _ _ _).imp (fun b _ e => by simp [Value.ownBlock, e]), fun b hb => .inl hb⟩
    have ha : (⟨g, 0, none⟩ : Addr).add l.length = ⟨g, l.length, none⟩ := add_lit0 g _
    rw [Nat.add_zero] at hst
    rw [hsz] at hf
    simp [Builtin.append_, run_underlying Tryd.underlying22, run_underlying Tryd.underlying9, sizeOf, typeInfo, hi, hz1, Builtin.lenOf, hsz, hroom, hf, ha, hst]
  · have hgr := Lib.run_append_grow_string (P := Tryd.prog) w 22 9 ty 5 i (.int .u8 0) Tryd.underlying22 Tryd.underlying9 hi hz0 ⟨g, 0, none⟩ l.length cap (l.map fun x => Value.int .u8 x) (by rw [hz1]; simp) (fun j x hj => by rw [add_lit0]; have := hr j x hj; rwa [Nat.zero_add] at this) (strOfNums s) (by rw [hsz]; omega) (by rw [hsz]; omega) (by rw [hz2, hsz]; exact growslice_fits (by omega) (by omega))
    rw [hsz, strCells_nums hs] at hgr
    have hge := grownCap_ge w (l.length + s.length) cap 5
    have hcm2 : grownCap w (l.length + s.length) cap 5 ≤ maxLen := grownCap_le_maxLen w (l.length + s.length) cap 5 (by unfold maxLen; omega)
    refine ⟨_, _, hgr, ⟨w.heap.size, grownCap w (l.length + s.length) cap 5, by rw [List.length_append], hb, by simp, by rw [List.length_append]; exact hge, hcm2, ?_, ?_⟩, (Chg.of_below _ (fresh_trans (Below.refl w.heap.size w).drew (fresh_alloc _ _))), fun b hb => .inr (by simp [Value.ownBlock] at hb; omega)⟩
    · refine there_new w.drew _ 5 _ ?_
      have hz1' : (Value.int IntKind.u8 0).cells.size = 1 := rfl
      simp only [Array.size_append, List.size_toArray, size_zeroCells, hz1', List.length_map]
      omega
    · refine range_new w.drew _ 5 _ ?_
      rw [List.map_append]
      simp only [Array.toList_append]
      exact List.take_left
theorem own_txg {w' : World} {base base' : Nat} {v : Value} {l : List Int} (hb : base ≤ base') (h0 : 0 < l.length) (h : w'.ownsRow base' 5 1 v l.length (l.map fun x => Value.int .u8 x)) : TxG w' base v l := by
  rcases h.2 with ⟨_, e⟩ | ⟨g, cap, cur, rfl, hbg, hgg, hnc, hcm, hcs, htk⟩
  · omega
  · have hB : Blk w' g 5 cur := hgg
    rw [Nat.mul_one] at hcs htk
    refine ⟨g, cap, rfl, Nat.le_trans hb hbg, hB.lt, hnc, hcm, fun j hj => ?_, fun j x hj => ?_⟩
    · rw [Nat.zero_add, hB.cell, hB.frozen]
      refine ⟨?_, rfl⟩
      rw [Array.getElem?_eq_getElem (by omega)]; rfl
    · rw [Nat.zero_add, hB.cell, ← Array.getElem?_toList]
      have hjl : j < l.length := by
        have := (List.getElem?_eq_some_iff.1 hj).1
        simpa using this
      rw [← htk, List.getElem?_take_of_lt hjl] at hj
      exact hj
theorem run_app_one {w : World} {base : Nat} {v : Value} {l : List Int} {x : Int} {h c : Nat} (hT : TxG w base v l) (hx : w.cell? ⟨h, 0, none⟩ = some (.int .u8 x)) (hb : base ≤ w.heap.size) (hn : l.length + 1 ≤ 140737488355328) (ty : TypeId) :
    ∃ v' w', (Builtin.append_ #[22, 22] ty #[v, .slice (some ⟨h, 0, none⟩) 1 c]).run Tryd.prog w = .ok v' w' ∧ TxG w' base v' (l ++ [x]) ∧ Chg w w' (fun b => v.ownBlock = some b) ∧ (∀ b, v'.ownBlock = some b → v.ownBlock = some b ∨ w.heap.size ≤ b) := by
  obtain ⟨i, hi, hz0, hz1, hz2⟩ := info_parts infoB
  obtain ⟨g, cap, rfl, hbg, hg, hlc, hcm, ht, hr⟩ := hT
  have hF : ∀ w0 : World, w0.cell? ⟨h, 0, none⟩ = some (.int .u8 x) → (Builtin.firstCells 1 1 (.slice (some ⟨h, 0, none⟩) 1 c)).run Tryd.prog w0 = .ok #[.int .u8 x] w0 := fun w0 h0 => by
    have := run_firstCells_some (P := Tryd.prog) w0 1 1 ⟨h, 0, none⟩ 1 c [.int .u8 x] rfl (fun j v hj => by
      match j, hj with
      | 0, hj => simp at hj; subst hj; rw [add_lit0]; exact h0)
    simpa using this
  by_cases hroom : l.length + 1 ≤ cap
  · have hst := run_storeCells_cells (P := Tryd.prog) g l.length ([x].map fun x => Value.int .u8 x) 0 w (fun j hj => by
        simp at hj
        have := (ht (l.length + j) (by omega)).1
        rwa [Nat.zero_add] at this) (fun j hj => by
        simp at hj
        have := (ht (l.length + j) (by omega)).2
        rwa [Nat.zero_add] at this) u8one
    have hf := hF w hx
    refine ⟨.slice (some ⟨g, 0, none⟩) (l.length + 1) cap, w.setCells g l.length ([x].map fun x => Value.int .u8 x), ?_, TxG.room hbg hg hcm ht hr hroom, (chg_setCells _ _ _ _).imp (fun b _ e => by simp [Value.ownBlock, e]), fun b hb => .inl hb⟩
    have ha : (⟨g, 0, none⟩ : Addr).add l.length = ⟨g, l.length, none⟩ := add_lit0 g _
    rw [Nat.add_zero] at hst
    simp only [List.map_cons, List.map_nil] at hst
    simp [Builtin.append_, run_underlying Tryd.underlying22, sizeOf, typeInfo, hi, hz1, Builtin.lenOf, hroom, hf, ha, hst]
  · obtain ⟨v', w', hr', ho, hgr⟩ := run_append_arg_grows (P := Tryd.prog) w 22 ty 5 i (.int .u8 0) 1 1 Tryd.underlying22 hi hz0 hz1 hz2 rfl (by decide) ⟨g, 0, none⟩ l.length cap (l.map fun x => Value.int .u8 x) (by simp) (fun j u hj => by rw [add_lit0]; have := hr j u hj; rwa [Nat.zero_add] at this) ⟨h, 0, none⟩ 1 c [.int .u8 x] rfl (fun j u hj => by
      match j, hj with
      | 0, hj => simp at hj; subst hj; rw [add_lit0]; exact hx) (by omega) (by unfold maxLen; omega) (by omega)
    refine ⟨v', w', hr', own_txg (l := l ++ [x]) hb (by simp) (by simpa using ho), ⟨⟨hgr.os, hgr.tape, hgr.output, hgr.size, fun _ h => absurd h (by omega)⟩, fun b hb _ => hgr.block b hb (by simp)⟩, fun b hb => .inr (World.ownsRow.lt ho b hb).1⟩
end Go.Proofs.YtemmghneohnigaaDoor
