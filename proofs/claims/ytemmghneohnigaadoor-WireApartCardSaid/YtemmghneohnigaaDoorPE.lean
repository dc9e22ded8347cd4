import Derived.Test.YtemmghneohnigaaDoorWpF
import Derived.Lib.AppendStr
import Derived.Laws.IdiomCopy
namespace Go.Proofs.YtemmghneohnigaaDoor
open Go.RowKit
/-! A list of bytes that is only grown. -/
def TxG (w : World) (base : Nat) (v : Value) (l : List Int) : Prop := ∃ g cap, v = .slice (some ⟨g, 0, none⟩) l.length cap ∧ base ≤ g ∧ g < w.heap.size ∧ l.length ≤ cap ∧ cap ≤ maxLen ∧ w.there g 0 cap ∧ w.rangeAt g 0 (l.map fun x => Value.int .u8 x)
theorem wpList_append_any {P : Program} {w : World} {ops : Array Oper} {rest : List Oper} {o : Oper} {a : Act} {Q : Exit → Act → World → Prop} (hg : o.guard = none) (s x : Operand) (t u : TypeId)
    (hop : o.op = Op.call { callee := Callee.builtin Builtin.append, args := #[s, x], argTypes := #[t, u] }) (v y : Value) (hs : a.eval s = v) (hx : a.eval x = y) (v' : Value) (w' : World)
    (hr : (Builtin.append_ #[t, u] o.type #[v, y]).run P w = .ok v' w') (h : wpList P ops Q rest (a.put o.dst v') w') : wpList P ops Q (o :: rest) a w := by
  refine wpList_plain hg fun K hK => ?_
  unfold Oper.wp execOp
  simp only [hop, resolve, invoke, builtin, Sem.run_bind, Sem.run_pure, Result.andThen_ok, List.map_toArray, List.map_cons, List.map_nil, hs, hx, hr]
  exact hK _ _ h
theorem strCells_nums {s : List Int} (h : Byt s) : Lib.strCells (strOfNums s) = s.map fun x => Value.int .u8 x := by
  unfold Lib.strCells
  rw [strOfNums_data, List.map_map]
  refine List.map_congr_left (fun x hx => ?_)
  have := h x hx
  simp only [Function.comp, UInt8.toNat_ofNat']
  congr 1
  omega
theorem range_app {w : World} {b o : Nat} {x y : List Value} (h1 : w.rangeAt b o x) (h2 : w.rangeAt b (o + x.length) y) : w.rangeAt b o (x ++ y) := fun j v hj => by
  by_cases hlt : j < x.length
  · rw [List.getElem?_append_left hlt] at hj
    exact h1 j v hj
  · rw [List.getElem?_append_right (by omega)] at hj
    have := h2 (j - x.length) v hj
    rwa [show o + x.length + (j - x.length) = o + j by omega] at this
theorem chg_setCells (w : World) (g o : Nat) (vs : List Value) : Chg w (w.setCells g o vs) (fun b => b = g) := by
  induction vs generalizing o w with
  | nil => exact Chg.refl w _
  | cons v r ih => exact (Chg.of_set w g o v).trans (ih _ (o + 1)) (fun _ _ t => t)
/-- what is written behind the elements of a list with room -/
theorem TxG.room {w : World} {base g cap : Nat} {l s : List Int} (hb : base ≤ g) (hg : g < w.heap.size) (hcm : cap ≤ maxLen) (ht : w.there g 0 cap) (hr : w.rangeAt g 0 (l.map fun x => Value.int .u8 x)) (hroom : l.length + s.length ≤ cap) :
    TxG (w.setCells g l.length (s.map fun x => Value.int .u8 x)) base (.slice (some ⟨g, 0, none⟩) (l.length + s.length) cap) (l ++ s) := by
  have hth : w.there g l.length (s.map fun x => Value.int .u8 x).length := fun j hj => by
    rw [List.length_map] at hj
    have := ht (l.length + j) (by omega)
    rwa [Nat.zero_add] at this
  refine ⟨g, cap, by rw [List.length_append], hb, Nat.lt_of_lt_of_le hg (chg_setCells _ _ _ _).size, by rw [List.length_append]; exact hroom, hcm, World.there_setCells ht _ _ _, ?_⟩
  rw [List.map_append]
  refine range_app (World.rangeAt_setCells_apart hr _ _ _ (.inr (.inl (by simp)))) ?_
  rw [List.length_map, Nat.zero_add]
  exact World.rangeAt_setCells_same w g l.length _ hth
theorem u8one {s : List Int} : ∀ v ∈ (s.map fun x => Value.int .u8 x), v.oneCell' = true := fun v hv => by
  obtain ⟨x, _, rfl⟩ := List.mem_map.1 hv
  rfl
end Go.Proofs.YtemmghneohnigaaDoor
namespace Go.Proofs.YtemmghneohnigaaDoor
open Go.RowKit
/-! Appending to it. -/
theorem TxG.chg {w w' : World} {base : Nat} {v : Value} {l : List Int} {S : Nat → Prop} (h : TxG w base v l) (c : Chg w w' S) (hS : ∀ g, v.ownBlock = some g → ¬ S g) : TxG w' base v l := by
  obtain ⟨g, cap, rfl, hb, hg, h1, h2, ht, hr⟩ := h
  have hbk := c.block g hg (hS g (by simp [Value.ownBlock]))
  have hcell : ∀ j, w'.cell? ⟨g, j, none⟩ = w.cell? ⟨g, j, none⟩ := fun j => by simp [World.cell?, hbk]
  have hfro : ∀ j, w'.frozen? ⟨g, j, none⟩ = w.frozen? ⟨g, j, none⟩ := fun j => by simp [World.frozen?, hbk]
  exact ⟨g, cap, rfl, hb, Nat.lt_of_lt_of_le hg c.size, h1, h2, fun j hj => by rw [hcell, hfro]; exact ht j hj, fun j x hx => by rw [hcell]; exact hr j x hx⟩
theorem TxG.fresh {w w' : World} {base : Nat} {v : Value} {l : List Int} (h : TxG w base v l) (f : Below w.heap.size w w') : TxG w' base v l := h.chg (Chg.of_below (fun _ => False) f) (fun _ _ h => h)
theorem TxG.weaken {w : World} {base base' : Nat} {v : Value} {l : List Int} (h : TxG w base v l) (hb : base' ≤ base) : TxG w base' v l := by
  obtain ⟨g, cap, e, hb', r⟩ := h
  exact ⟨g, cap, e, Nat.le_trans hb hb', r⟩
theorem there_new (w : World) (cs : Array Value) (t : TypeId) (cap : Nat) (h : cap ≤ cs.size) : (w.alloc (.cells cs t)).there w.heap.size 0 cap := fun j hj => by
  have hB := Blk.new w t cs
  rw [Nat.zero_add, hB.cell, hB.frozen]
  refine ⟨?_, rfl⟩
  rw [Array.getElem?_eq_getElem (by omega)]; rfl
theorem range_new (w : World) (cs : Array Value) (t : TypeId) (l : List Value) (h : cs.toList.take l.length = l) : (w.alloc (.cells cs t)).rangeAt w.heap.size 0 l := fun j v hj => by
  rw [Nat.zero_add, (Blk.new w t cs).cell, ← Array.getElem?_toList]
  rw [← h] at hj
  have hjl : j < l.length := by
    have := (List.getElem?_eq_some_iff.1 hj).1
    rw [List.length_take] at this
    omega
  rwa [List.getElem?_take_of_lt hjl] at hj
theorem run_app_str {w : World} {base : Nat} {v : Value} {l s : List Int} (h : TxG w base v l) (hs : Byt s) (hb : base ≤ w.heap.size) (hn : l.length + s.length ≤ 140737488355328) (ty : TypeId) :
    ∃ v' w', (Builtin.append_ #[22, 9] ty #[v, .string (strOfNums s)]).run Tryd.prog w = .ok v' w' ∧ TxG w' base v' (l ++ s) ∧ Chg w w' (fun b => v.ownBlock = some b) ∧ (∀ b, v'.ownBlock = some b → v.ownBlock = some b ∨ w.heap.size ≤ b) := by
  obtain ⟨i, hi, hz0, hz1, hz2⟩ := info_parts infoB
  obtain ⟨g, cap, rfl, hbg, hg, hlc, hcm, ht, hr⟩ := h
  have hsz : (strOfNums s).size = s.length := strOfNums_size s
  by_cases hroom : l.length + s.length ≤ cap
  · have hst := run_storeCells_cells (P := Tryd.prog) g l.length (s.map fun x => Value.int .u8 x) 0 w (fun j hj => by
        rw [List.length_map] at hj
        have := (ht (l.length + j) (by omega)).1
        rwa [Nat.zero_add] at this) (fun j hj => by
        rw [List.length_map] at hj
        have := (ht (l.length + j) (by omega)).2
        rwa [Nat.zero_add] at this) u8one
    have hf := Lib.run_firstCells_string (P := Tryd.prog) w 1 (strOfNums s)
    rw [strCells_nums hs] at hf
    refine ⟨.slice (some ⟨g, 0, none⟩) (l.length + s.length) cap, w.setCells g l.length (s.map fun x => Value.int .u8 x), ?_, TxG.room hbg hg hcm ht hr hroom, (chg_setCells _ _ _ _).imp (fun b _ e => by simp [Value.ownBlock, e]), fun b hb => .inl hb⟩
    have ha : (⟨g, 0, none⟩ : Addr).add l.length = ⟨g, l.length, none⟩ := add_lit0 g _
    rw [Nat.add_zero] at hst
    rw [hsz] at hf
    simp [Builtin.append_, run_underlying Tryd.underlying22, run_underlying Tryd.underlying9, sizeOf, typeInfo, hi, hz1, Builtin.lenOf, hsz, hroom, hf, ha, hst]
  · have hgr := Lib.run_append_grow_string (P := Tryd.prog) w 22 9 ty 5 i (.int .u8 0) Tryd.underlying22 Tryd.underlying9 hi hz0 ⟨g, 0, none⟩ l.length cap (l.map fun x => Value.int .u8 x) (by rw [hz1]; simp) (fun j x hj => by rw [add_lit0]; have := hr j x hj; rwa [Nat.zero_add] at this) (strOfNums s) (by rw [hsz]; omega) (by rw [hsz]; omega) (by rw [hz2, hsz]; exact growslice_fits (by omega) (by omega))
    rw [hsz, strCells_nums hs] at hgr
    have hge := grownCap_ge w (l.length + s.length) cap 5
    have hcm2 : grownCap w (l.length + s.length) cap 5 ≤ maxLen := grownCap_le_maxLen w (l.length + s.length) cap 5 (by unfold maxLen; omega)
    refine ⟨_, _, hgr, ⟨w.heap.size, grownCap w (l.length + s.length) cap 5, by rw [List.length_append], hb, by simp, by rw [List.length_append]; exact hge, hcm2, ?_, ?_⟩, (Chg.of_below _ (fresh_trans (Below.refl w.heap.size w).drew (fresh_alloc _ _))), fun b hb => .inr (by simp [Value.ownBlock] at hb; omega)⟩
    · refine there_new w.drew _ 5 _ ?_
      have hz1' : (Value.int IntKind.u8 0).cells.size = 1 := rfl
      simp only [Array.size_append, List.size_toArray, size_zeroCells, hz1', List.length_map]
      omega
    · refine range_new w.drew _ 5 _ ?_
      rw [List.map_append]
      simp only [Array.toList_append]
      exact List.take_left
theorem own_txg {w' : World} {base base' : Nat} {v : Value} {l : List Int} (hb : base ≤ base') (h0 : 0 < l.length) (h : w'.ownsRow base' 5 1 v l.length (l.map fun x => Value.int .u8 x)) : TxG w' base v l := by
  rcases h.2 with ⟨_, e⟩ | ⟨g, cap, cur, rfl, hbg, hgg, hnc, hcm, hcs, htk⟩
  · omega
  · have hB : Blk w' g 5 cur := hgg
    rw [Nat.mul_one] at hcs htk
    refine ⟨g, cap, rfl, Nat.le_trans hb hbg, hB.lt, hnc, hcm, fun j hj => ?_, fun j x hj => ?_⟩
    · rw [Nat.zero_add, hB.cell, hB.frozen]
      refine ⟨?_, rfl⟩
      rw [Array.getElem?_eq_getElem (by omega)]; rfl
    · rw [Nat.zero_add, hB.cell, ← Array.getElem?_toList]
      have hjl : j < l.length := by
        have := (List.getElem?_eq_some_iff.1 hj).1
        simpa using this
      rw [← htk, List.getElem?_take_of_lt hjl] at hj
      exact hj
theorem run_app_one {w : World} {base : Nat} {v : Value} {l : List Int} {x : Int} {h c : Nat} (hT : TxG w base v l) (hx : w.cell? ⟨h, 0, none⟩ = some (.int .u8 x)) (hb : base ≤ w.heap.size) (hn : l.length + 1 ≤ 140737488355328) (ty : TypeId) :
    ∃ v' w', (Builtin.append_ #[22, 22] ty #[v, .slice (some ⟨h, 0, none⟩) 1 c]).run Tryd.prog w = .ok v' w' ∧ TxG w' base v' (l ++ [x]) ∧ Chg w w' (fun b => v.ownBlock = some b) ∧ (∀ b, v'.ownBlock = some b → v.ownBlock = some b ∨ w.heap.size ≤ b) := by
  obtain ⟨i, hi, hz0, hz1, hz2⟩ := info_parts infoB
  obtain ⟨g, cap, rfl, hbg, hg, hlc, hcm, ht, hr⟩ := hT
  have hF : ∀ w0 : World, w0.cell? ⟨h, 0, none⟩ = some (.int .u8 x) → (Builtin.firstCells 1 1 (.slice (some ⟨h, 0, none⟩) 1 c)).run Tryd.prog w0 = .ok #[.int .u8 x] w0 := fun w0 h0 => by
    have := run_firstCells_some (P := Tryd.prog) w0 1 1 ⟨h, 0, none⟩ 1 c [.int .u8 x] rfl (fun j v hj => by
      match j, hj with
      | 0, hj => simp at hj; subst hj; rw [add_lit0]; exact h0)
    simpa using this
  by_cases hroom : l.length + 1 ≤ cap
  · have hst := run_storeCells_cells (P := Tryd.prog) g l.length ([x].map fun x => Value.int .u8 x) 0 w (fun j hj => by
        simp at hj
        have := (ht (l.length + j) (by omega)).1
        rwa [Nat.zero_add] at this) (fun j hj => by
        simp at hj
        have := (ht (l.length + j) (by omega)).2
        rwa [Nat.zero_add] at this) u8one
    have hf := hF w hx
    refine ⟨.slice (some ⟨g, 0, none⟩) (l.length + 1) cap, w.setCells g l.length ([x].map fun x => Value.int .u8 x), ?_, TxG.room hbg hg hcm ht hr hroom, (chg_setCells _ _ _ _).imp (fun b _ e => by simp [Value.ownBlock, e]), fun b hb => .inl hb⟩
    have ha : (⟨g, 0, none⟩ : Addr).add l.length = ⟨g, l.length, none⟩ := add_lit0 g _
    rw [Nat.add_zero] at hst
    simp only [List.map_cons, List.map_nil] at hst
    simp [Builtin.append_, run_underlying Tryd.underlying22, sizeOf, typeInfo, hi, hz1, Builtin.lenOf, hroom, hf, ha, hst]
  · obtain ⟨v', w', hr', ho, hgr⟩ := run_append_arg_grows (P := Tryd.prog) w 22 ty 5 i (.int .u8 0) 1 1 Tryd.underlying22 hi hz0 hz1 hz2 rfl (by decide) ⟨g, 0, none⟩ l.length cap (l.map fun x => Value.int .u8 x) (by simp) (fun j u hj => by rw [add_lit0]; have := hr j u hj; rwa [Nat.zero_add] at this) ⟨h, 0, none⟩ 1 c [.int .u8 x] rfl (fun j u hj => by
      match j, hj with
      | 0, hj => simp at hj; subst hj; rw [add_lit0]; exact hx) (by omega) (by unfold maxLen; omega) (by omega)
    refine ⟨v', w', hr', own_txg (l := l ++ [x]) hb (by simp) (by simpa using ho), ⟨⟨hgr.os, hgr.tape, hgr.output, hgr.size, fun _ h => absurd h (by omega)⟩, fun b hb _ => hgr.block b hb (by simp)⟩, fun b hb => .inr (World.ownsRow.lt ho b hb).1⟩
end Go.Proofs.YtemmghneohnigaaDoor
namespace Go.Proofs.YtemmghneohnigaaDoor
open Go.RowKit
/-! The printer. -/
structure Prt (w : World) (pb base : Nat) (v : Value) (l : List Int) : Prop where
  blk : Blk w pb 69 #[v]
  txt : TxG w base v l
  ne : v.ownBlock ≠ some pb
  bp : base ≤ pb
theorem Prt.chg {w w' : World} {pb base : Nat} {v : Value} {l : List Int} {S : Nat → Prop} (h : Prt w pb base v l) (c : Chg w w' S) (h1 : ¬ S pb) (h2 : ∀ g, v.ownBlock = some g → ¬ S g) : Prt w' pb base v l := ⟨h.blk.chg c h1, h.txt.chg c h2, h.ne, h.bp⟩
theorem Prt.fresh {w w' : World} {pb base : Nat} {v : Value} {l : List Int} (h : Prt w pb base v l) (f : Below w.heap.size w w') : Prt w' pb base v l := h.chg (Chg.of_below (fun _ => False) f) (fun h => h) (fun _ _ h => h)
set_option maxRecDepth 20000 in
theorem full_any {w : World} {pb base : Nat} {v : Value} {l : List Int} (h : Prt w pb base v l) :
    Calls Tryd.prog 33 #[.pointer (some ⟨pb, 0, none⟩)] w fun e w' => e = .returned (.bool (decide (8192 < l.length))) ∧ w' = w := by
  obtain ⟨g, cap, rfl, hbg, hg, h1, h2, ht, hr⟩ := h.txt
  have c0 := h.blk.cell 0
  simp at c0
  clear h ht hr
  unfold maxLen at h2
  generalize l.length = n at *
  by_cases hn : 8192 < n
  · have b1 : decide ((8192 : Int) < (n : Int)) = true := by simp; omega
    have E : Hid (decide (8192 < n) = true) := by show _ = _; simp [hn]
    go_enter Tryd.func33, Tryd.ntmps33
    go_wp2
    go_ret
    exact ⟨by first | exact ret_bool E.out.symm | simp [hn], rfl⟩
  · have b1 : decide ((8192 : Int) < (n : Int)) = false := by simp; omega
    have E : Hid (decide (8192 < n) = false) := by show _ = _; simp [hn]
    go_enter Tryd.func33, Tryd.ntmps33
    go_wp2
    go_ret
    exact ⟨by first | exact ret_bool E.out.symm | simp [hn], rfl⟩
set_option maxRecDepth 20000 in
set_option maxHeartbeats 1000000 in
theorem part_any {w : World} {pb base : Nat} {v : Value} {l s : List Int} (h : Prt w pb base v l) (hs : Byt s) (hn : l.length + s.length + 1 ≤ 140737488355328) :
    Calls Tryd.prog 48 #[.pointer (some ⟨pb, 0, none⟩), .string (strOfNums s)] w fun e w' => e = .returned (.tuple #[]) ∧ (∃ v', Prt w' pb base v' (l ++ 32 :: s)) ∧ Chg w w' (fun b => base ≤ b) := by
  have hbp := h.bp
  have hpb := h.blk.lt
  have hvb : ∀ g, v.ownBlock = some g → base ≤ g := fun g hg => by
    obtain ⟨g', cap, rfl, hbg, _⟩ := h.txt
    simp [Value.ownBlock] at hg
    omega
  have c0 := h.blk.cell 0
  simp at c0
  have f0 := h.blk.frozen 0
  have fa := fresh_alloc w (.cells #[.int .u8 32] 5)
  obtain ⟨v1, w1, hr1, ht1, hc1, hv1⟩ := run_app_one (h.txt.fresh fa) (new_cell w (.int .u8 32) 5) (c := 1) (by simp; omega) (by omega) 22
  have hk1 : Chg w w1 (fun b => base ≤ b) := ((Chg.of_below (fun b => base ≤ b) fa)).trans hc1 (fun b _ hb => hvb b hb)
  have hB1 := (h.blk.fresh fa).chg hc1 (fun e => h.ne e)
  have y1 := hB1.cell 0
  simp at y1
  have z1 := hB1.frozen 0
  have hne1 : v1.ownBlock ≠ some pb := fun e => by
    rcases hv1 pb e with q | q
    · exact h.ne q
    · have := fa.size; omega
  have hB2 := hB1.put 0 v1
  have ht2 := ht1.chg (Chg.of_set w1 pb 0 v1) (fun g hg e => hne1 (by rw [hg, e]))
  have hk2 := hk1.trans (Chg.of_set w1 pb 0 v1) (fun b _ e => by rw [e]; exact hbp)
  obtain ⟨v3, w3, hr3, ht3, hc3, hv3⟩ := run_app_str ht2 hs (by have := hk2.size; omega) (by simp; omega) 22
  have hvb1 : ∀ g, v1.ownBlock = some g → base ≤ g := fun g hg => by
    obtain ⟨g', cap, rfl, hbg, _⟩ := ht1
    simp [Value.ownBlock] at hg
    omega
  have hk3 := hk2.trans hc3 (fun b _ hb => hvb1 b hb)
  have hB3 := hB2.chg hc3 (fun e => hne1 e)
  have y3 := hB3.cell 0
  simp at y3
  have z3 := hB3.frozen 0
  have hne3 : v3.ownBlock ≠ some pb := fun e => by
    rcases hv3 pb e with q | q
    · exact hne1 q
    · have := hk2.size; omega
  have hB4 := hB3.put 0 v3
  have ht4 := ht3.chg (Chg.of_set w3 pb 0 v3) (fun g hg e => hne3 (by rw [hg, e]))
  have hk4 := hk3.trans (Chg.of_set w3 pb 0 v3) (fun b _ e => by rw [e]; exact hbp)
  have HP : Hid (Prt (w3.setCell ⟨pb, 0, none⟩ v3) pb base v3 (l ++ 32 :: s)) := ⟨hB4, by simpa using ht4, hne3, hbp⟩
  have HK := hidd hk4
  have y2 := hB2.cell 0
  simp at y2
  have z2 := hB2.frozen 0
  obtain ⟨g1, k1, e1, _⟩ := ht1
  obtain ⟨g3, k3, e3, _⟩ := ht3
  obtain ⟨g0, k0, e0, _⟩ := h.txt
  clear h hk1 hk2 hk3 hk4 hB1 hB2 hB3 hB4 ht2 ht4 hc1 hc3 hv1 hv3 hvb hvb1 hne1 hne3 fa
  subst e1 e3 e0
  obtain ⟨n1, en1⟩ : ∃ n1, n1 = (l ++ [32]).length := ⟨_, rfl⟩
  obtain ⟨n3, en3⟩ : ∃ n3, n3 = (l ++ [32] ++ s).length := ⟨_, rfl⟩
  rw [← en1] at hr1 hr3 y2
  rw [← en3] at hr3 HP HK
  clear en1 en3
  go_enter Tryd.func48, Tryd.ntmps48
  go_wp2_with (first | (at_builtin; refine wpList_append_any rfl _ _ 22 22 rfl _ _ rfl rfl _ _ hr1 ?_) | (at_builtin; refine wpList_append_any rfl _ _ 22 9 rfl _ _ rfl rfl _ _ hr3 ?_))
  go_end0
  exact ⟨rfl, ⟨_, HP.out⟩, HK.out⟩
end Go.Proofs.YtemmghneohnigaaDoor
namespace Go.Proofs.YtemmghneohnigaaDoor
open Go.RowKit
/-! The printer: number, literal; printText, textOnly, tooMuch. -/
set_option maxRecDepth 20000 in
theorem pnum_any {w : World} {pb base : Nat} {v : Value} {l : List Int} {n : Int} (h : Prt w pb base v l) (h0 : -9223372036854775808 ≤ n) (h1 : n ≤ 9223372036854775807) (hE : Env w) (hn : l.length ≤ 1000000) :
    Calls Tryd.prog 32 #[.pointer (some ⟨pb, 0, none⟩), .int .i64 n] w fun e w' => e = .returned (.tuple #[]) ∧ (∃ v', Prt w' pb base v' (l ++ 32 :: numL n)) ∧ Chg w w' (fun b => base ≤ b) := by
  have hz : (numL n).length ≤ 21 := by unfold numL numsU; have := Lib.itoa_length_le n h0 h1; simpa using this
  have HI : Hid (Calls Tryd.prog 49 #[.int .i64 n] w fun e w' => e = .returned (.string (strOfNums (numL n))) ∧ Below w.heap.size w w') := (Tryd.strconv_Itoa n h0 h1 w hE.tab).mono (by
    rintro e w' ⟨rfl, k, os, rfl⟩
    exact ⟨by rw [numsU_str]; rfl, below_gr _ _ _⟩)
  have HP := hidd (fun (w1 : World) (f1 : Below w.heap.size w w1) => part_any (h.fresh f1) (s := numL n) (numsU_byt _) (by omega))
  clear h hE hz
  generalize strOfNums (numL n) = s at *
  go_enter Tryd.func32, Tryd.ntmps32
  go_wp2_with (first | (go_at_call 49; with_reducible refine (HI.out).mono ?_; rintro e w1 ⟨rfl, f1⟩) | (go_at_call 48; with_reducible refine (HP.out _ f1).mono ?_; rintro e w2 ⟨rfl, hp2, hk2⟩))
  go_end0
  exact ⟨rfl, hp2, Chg.pre f1 hk2⟩
set_option maxRecDepth 20000 in
set_option maxHeartbeats 1000000 in
theorem plit_any {w : World} {pb base : Nat} {v : Value} {l b : List Int} (h : Prt w pb base v l) (hb : Byt b) (hn : l.length ≤ 8192) (hbl : b.length ≤ 8192) :
    Calls Tryd.prog 81 #[.pointer (some ⟨pb, 0, none⟩), .string (strOfNums b)] w fun e w' => e = .returned (.tuple #[]) ∧ (∃ v', Prt w' pb base v' (l ++ 32 :: lit b)) ∧ Chg w w' (fun b => base ≤ b) := by
  have HF := hidd (full_any h)
  have hd : decide (8192 < l.length) = false := by simp; omega
  rw [hd] at HF
  have hpl := pies_len b
  have hll := lit_len b
  have HP := hidd (fun (w1 : World) (f1 : Below w.heap.size w w1) => part_any (h.fresh f1) (s := lit b) (lit_byt hb) (by omega))
  have hsz : (strOfNums b).size = b.length := strOfNums_size b
  obtain ⟨cc, w1, hcv, hf1, hz1, hc1, hc2, hcl⟩ := conv_bytes w (strOfNums b) (by rw [hsz]; omega)
  rw [hsz] at hcv hc1 hcl
  rw [str_bys hb] at hcl
  have HQ := hidd (quote_any (w := w1) (ao := some ⟨w.heap.size, 0, none⟩) (l := b) (cap := cc) ⟨hc1, hc2, fun _ => ⟨w.heap.size, 0, rfl, fun j hj => by rw [Nat.zero_add]; exact hcl j (by omega)⟩⟩ hb (by omega))
  have hx := str_ext b 0 b.length
  rw [List.take_length, List.drop_zero] at hx
  have HF1 := hidd hf1
  obtain ⟨n, en⟩ : ∃ n, n = b.length := ⟨_, rfl⟩
  rw [← en] at hsz hcv HQ hx hbl
  have hmin : ∀ ts t w, (Builtin.min_ ts t #[.int .i64 (n : Int), .int .i64 8192]).run Tryd.prog w = .ok (.int .i64 (n : Int)) w := fun ts t w => by
    rw [run_min_int2]
    congr 2
    split <;> omega
  clear h hd hpl hll hcl en hf1 hc1 hc2
  generalize strOfNums (lit b) = sl at *
  generalize strOfNums b = s at *
  go_enter Tryd.func81, Tryd.ntmps81
  go_wp2_with (first | (go_at_call 33; with_reducible refine (HF.out).mono ?_; rintro e w0 ⟨rfl, hw0⟩; rw [hw0]; clear hw0) | (go_at_call 9; with_reducible refine (HQ.out).mono ?_; rintro e w2 ⟨rfl, f2⟩; have f12 := fresh_trans HF1.out f2) | (go_at_call 48; with_reducible refine (HP.out _ f12).mono ?_; rintro e w3 ⟨rfl, hp3, hk3⟩))
  go_end0
  exact ⟨rfl, hp3, Chg.pre f12 hk3⟩
/-- a text's line, as a value -/
def lnV (n : Int) (ao : Option Addr) (m cap : Nat) : Array Value := #[.string ⟨#[116, 101, 120, 116]⟩, .int .i64 n, .slice ao m cap, .slice none 0 0, .int .u64 0, .string ⟨#[]⟩, .slice none 0 0]
set_option maxRecDepth 20000 in
set_option maxHeartbeats 1000000 in
theorem ptext_any {w : World} {pb base : Nat} {v : Value} {l b : List Int} {n : Int} {ao : Option Addr} {cap : Nat} (h : Prt w pb base v l) (hb : Byt b) (hn : l.length ≤ 8192) (hbl : b.length ≤ 8192) (hr : RdA w ao 1 b.length cap (byc b)) :
    Calls Tryd.prog 66 #[.pointer (some ⟨pb, 0, none⟩), .agg #[.string ⟨#[116, 101, 120, 116]⟩, .int .i64 n, .slice ao b.length cap, .slice none 0 0, .int .u64 0, .string ⟨#[]⟩, .slice none 0 0]] w fun e w' => e = .returned (.tuple #[]) ∧ (∃ v', Prt w' pb base v' (l ++ 32 :: lit b)) ∧ Chg w w' (fun b => base ≤ b) := by
  have fa := fresh_alloc w (.cells #[.string ⟨#[116, 101, 120, 116]⟩, .int .i64 n, .slice ao b.length cap, .slice none 0 0, .int .u64 0, .string ⟨#[]⟩, .slice none 0 0] 38)
  have hcv := conv_str (hr.fresh fa)
  have HP := hidd (plit_any (h.fresh fa) hb hn hbl)
  have HF := hidd fa
  clear h hr fa
  generalize strOfNums b = s at *
  generalize b.length = m at *
  go_enter Tryd.func66, Tryd.ntmps66
  go_wp2_with (go_at_call 81; with_reducible refine (HP.out).mono ?_; rintro e w2 ⟨rfl, hp2, hk2⟩)
  go_end0
  exact ⟨rfl, hp2, Chg.pre HF.out hk2⟩
set_option maxRecDepth 20000 in
theorem tonly_any {n : Int} {ao : Option Addr} {m cap : Nat} (w : World) :
    Calls Tryd.prog 67 #[.agg #[.string ⟨#[116, 101, 120, 116]⟩, .int .i64 n, .slice ao m cap, .slice none 0 0, .int .u64 0, .string ⟨#[]⟩, .slice none 0 0]] w fun e w' => e = .returned (.bool true) ∧ Below w.heap.size w w' := by
  go_enter Tryd.func67, Tryd.ntmps67
  go_wp2
  go_ret
  exact ⟨rfl, fresh_alloc _ _⟩
set_option maxRecDepth 20000 in
theorem toom_any {n : Int} {ao : Option Addr} {m cap : Nat} (hm : m ≤ 8192) (w : World) :
    Calls Tryd.prog 31 #[.agg #[.string ⟨#[116, 101, 120, 116]⟩, .int .i64 n, .slice ao m cap, .slice none 0 0, .int .u64 0, .string ⟨#[]⟩, .slice none 0 0]] w fun e w' => e = .returned (.bool false) ∧ Below w.heap.size w w' := by
  have b1 : decide ((8192 : Int) < (m : Int)) = false := by simp; omega
  go_enter Tryd.func31, Tryd.ntmps31
  go_wp2
  go_ret
  exact ⟨rfl, fresh_alloc _ _⟩
end Go.Proofs.YtemmghneohnigaaDoor
