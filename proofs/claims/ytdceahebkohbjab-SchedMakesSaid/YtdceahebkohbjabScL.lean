import Derived.Test.YtdceahebkohbjabScN
namespace Go.Proofs.Ytdceahebkohbjab
open Go.RowKit
/-! Make. -/
def okA (c : Me) (n : Nat) (S : Nat → Se) : Prop := n ≤ 16 ∧ (∀ i, i < n → okS c (S i)) ∧ ∀ i j, i < j → j < n → ¬ (S i).id = (S j).id
theorem ids_nodup (n : Nat) (S : Nat → Se) : ((List.range n).map fun i => (S i).id).Nodup ↔ ∀ i j, i < j → j < n → ¬ (S i).id = (S j).id := by
  rw [List.nodup_iff_pairwise_ne, List.pairwise_map, List.pairwise_iff_getElem]
  constructor
  · intro h i j hij hj e
    have := h i j (by simp; omega) (by simpa using hj) hij
    simp at this
    exact this e
  · intro h i j hi hj hij e
    simp at hi hj e
    exact h i j hij hj e
theorem Ord.ids {n : Nat} {S L : Nat → Se} (h : Ord n S L) : ((List.range n).map fun i => (L i).id).Perm ((List.range n).map fun i => (S i).id) := by
  have := h.perm.map Se.id
  rw [List.map_map, List.map_map] at this
  exact this
theorem okD_strict {c : Me} {n : Nat} {S L : Nat → Se} (ho : Ord n S L) (h : okD c n L) : ∀ i j, i < j → j < n → (L i).id < (L j).id := by
  intro i j hij
  induction j with
  | zero => omega
  | succ j ih =>
    intro hj
    have h1 := h.2 j hj
    have h2 := ho.up j (j + 1) (by omega) hj
    by_cases e : i = j
    · subst e; omega
    · have := ih (by omega) (by omega); omega
theorem okA_iff {c : Me} {n : Nat} {S L : Nat → Se} (hn : n ≤ 16) (ho : Ord n S L) : okA c n S ↔ okD c n L := by
  constructor
  · rintro ⟨_, h2, h3⟩
    refine ⟨fun i hi => ?_, fun i hi => ?_⟩
    · obtain ⟨j, hj, e⟩ := ho.of_mem hi
      rw [e]
      exact h2 j hj
    · have := (ids_nodup n L).1 (ho.ids.nodup_iff.2 ((ids_nodup n S).2 h3)) i (i + 1) (by omega) hi
      exact fun e => this e.symm
  · intro h
    refine ⟨hn, fun i hi => ?_, ?_⟩
    · obtain ⟨j, hj, e⟩ := ho.to_mem hi
      rw [e]
      exact h.1 j hj
    · refine (ids_nodup n S).1 (ho.ids.nodup_iff.1 ((ids_nodup n L).2 ?_))
      intro i j hij hj e
      have := okD_strict ho h i j hij hj
      omega
def two (a b : Value) (j : Nat) : Value := if j = 0 then a else b
theorem two_new (w : World) (a b : Value) (t : TypeId) : (w.alloc (.cells #[a, b] t)).rowIs w.heap.size t 2 (two a b) :=
  World.rowIs_alloc w #[a, b] t (two a b) (fun i hi => by
    simp at hi
    have : i = 0 ∨ i = 1 := by omega
    rcases this with rfl | rfl <;> rfl)
theorem size_plan : (Try.prog.info? 28).map (·.size) = some 2 := by kernel_rfl
theorem ret_plan {fn : Func} {p u : Tmp} (h : fn.results = #[.cell p 28, .tmp u]) (tmps : Array Value) (w : World) (g : Nat) (a b v : Value) (hp : tmps.getD p undef = .pointer (some ⟨g, 0, none⟩)) (hr : w.rowIs g 28 2 (two a b)) (hv : tmps.getD u undef = v) :
    (results fn tmps).run Try.prog w = .ok (.tuple #[.agg #[a, b], v]) w := by
  rw [results_cell_tmp h, hp, hv]
  have hrg : w.rangeAt g 0 [a, b] := fun j x hj => by
    match j, hj with
    | 0, hj => simp at hj; subst hj; exact hr.cell (i := 0) (by decide)
    | 1, hj => simp at hj; subst hj; exact hr.cell (i := 1) (by decide)
  simp [asAddr, run_loadVar_mid w g 0 28 [a, b] _ hrg Try.underlying28 rfl size_plan]
theorem two_set2 {w : World} {g : Nat} {t : TypeId} {f : Nat → Value} (h : w.rowIs g t 2 f) (a b : Value) : ((w.setCell ⟨g, 0, none⟩ a).setCell ⟨g, 1, none⟩ b).rowIs g t 2 (two a b) :=
  ((h.set 0 a).set 1 b).congr (fun j hj => by
    have : j = 0 ∨ j = 1 := by omega
    rcases this with rfl | rfl <;> rfl)
set_option maxRecDepth 20000 in
set_option maxHeartbeats 1600000 in
theorem make_serve (w : World) (c : Me) (hc : ¬ okM c 1) (sv pv : Value) :
    Calls Try.prog 9 #[mV c, sv, pv] w fun e w' => e = .returned (.tuple #[.agg #[.slice none 0 0, .slice none 0 0], .int .i64 200]) ∧ Below w.heap.size w w' := by
  have HCK := hidd (fun w => check_any w c 1 200 (fun h => absurd h hc) (fun _ => rfl))
  obtain ⟨bs, bl, bu, ch, tr⟩ := c
  unfold mV at *
  simp only at *
  have HF : Hid (Below w.heap.size w ((w.alloc (.cells #[.int .i64 bs, .int .i64 bl, .int .i64 bu, .int .i64 ch, .int .i64 tr] 23)).alloc (.cells #[.slice none 0 0, .slice none 0 0] 28))) := ((Below.refl _ w).alloc (Nat.le_refl _) _).alloc (by simp) _
  have HC6 : Hid (((w.alloc (.cells #[.int .i64 bs, .int .i64 bl, .int .i64 bu, .int .i64 ch, .int .i64 tr] 23)).alloc (.cells #[.slice none 0 0, .slice none 0 0] 28)).rowIs (w.heap.size + 1) 28 2 (two (.slice none 0 0) (.slice none 0 0))) := by
    have := two_new (w.alloc (.cells #[.int .i64 bs, .int .i64 bl, .int .i64 bu, .int .i64 ch, .int .i64 tr] 23)) (.slice none 0 0) (.slice none 0 0) 28
    rwa [show (w.alloc (.cells #[.int .i64 bs, .int .i64 bl, .int .i64 bu, .int .i64 ch, .int .i64 tr] 23)).heap.size = w.heap.size + 1 by simp] at this
  have HC5 : Hid (∀ z, Below ((w.alloc (.cells #[.int .i64 bs, .int .i64 bl, .int .i64 bu, .int .i64 ch, .int .i64 tr] 23)).alloc (.cells #[.slice none 0 0, .slice none 0 0] 28)).heap.size ((w.alloc (.cells #[.int .i64 bs, .int .i64 bl, .int .i64 bu, .int .i64 ch, .int .i64 tr] 23)).alloc (.cells #[.slice none 0 0, .slice none 0 0] 28)) z → z.cell? ⟨w.heap.size, 0, none⟩ = some (.int .i64 bs) ∧ z.cell? ⟨w.heap.size, 1, none⟩ = some (.int .i64 bl) ∧ z.cell? ⟨w.heap.size, 2, none⟩ = some (.int .i64 bu) ∧ z.cell? ⟨w.heap.size, 3, none⟩ = some (.int .i64 ch) ∧ z.cell? ⟨w.heap.size, 4, none⟩ = some (.int .i64 tr)) := fun z hz => by
    obtain ⟨e0, e1, e2, e3, e4⟩ := box5 w (.int .i64 bs) (.int .i64 bl) (.int .i64 bu) (.int .i64 ch) (.int .i64 tr) 23
    have f := fresh_trans (fresh_alloc (w.alloc (.cells #[.int .i64 bs, .int .i64 bl, .int .i64 bu, .int .i64 ch, .int .i64 tr] 23)) (.cells #[.slice none 0 0, .slice none 0 0] 28)) hz
    exact ⟨fresh_cell f e0, fresh_cell f e1, fresh_cell f e2, fresh_cell f e3, fresh_cell f e4⟩
  go_enter Try.func9, Try.ntmps9
  go_upto_region 2 with (go_at_call 24; with_reducible refine (HCK.out _).mono ?_; rintro e w2 ⟨rfl, hb2⟩)
  have HB2 := hidd (HF.out.trans (hb2.mono HF.out.size))
  have HR2 := hidd (HC6.out.of_block (hb2.block _ HC6.out.lt))
  have HE2 := hidd (HC5.out w2 hb2)
  clear hb2 HC5 HC6 HF
  have c0 := HR2.out.cell (i := 0) (by decide)
  have c1 := HR2.out.cell (i := 1) (by decide)
  have fr := HR2.out.frozen
  go_wp2
  (try simp only [Exit.inBlock, Exit.then]); refine bodyPost_ret (ret_plan rfl _ _ (w.heap.size + 1) _ _ _ rfl (two_set2 HR2.out _ _) rfl) rfl ?_
  exact ⟨rfl, (HB2.out.setCell (by simp) _).setCell (by simp) _⟩
set_option maxRecDepth 20000 in
set_option maxHeartbeats 1600000 in
theorem make_many (w : World) (c : Me) (hc : okM c 1) {ao : Option Addr} {n cap : Nat} (hn : 16 < n) (hn2 : n ≤ 9223372036854775807) (pv : Value) :
    Calls Try.prog 9 #[mV c, .slice ao n cap, pv] w fun e w' => e = .returned (.tuple #[.agg #[.slice none 0 0, .slice none 0 0], .int .i64 1]) ∧ Below w.heap.size w w' := by
  have HCK := hidd (fun w => check_any w c 1 0 (fun _ => rfl) (fun h => absurd hc h))
  obtain ⟨bs, bl, bu, ch, tr⟩ := c
  unfold mV at *
  simp only at *
  have HF : Hid (Below w.heap.size w ((w.alloc (.cells #[.int .i64 bs, .int .i64 bl, .int .i64 bu, .int .i64 ch, .int .i64 tr] 23)).alloc (.cells #[.slice none 0 0, .slice none 0 0] 28))) := ((Below.refl _ w).alloc (Nat.le_refl _) _).alloc (by simp) _
  have HC6 : Hid (((w.alloc (.cells #[.int .i64 bs, .int .i64 bl, .int .i64 bu, .int .i64 ch, .int .i64 tr] 23)).alloc (.cells #[.slice none 0 0, .slice none 0 0] 28)).rowIs (w.heap.size + 1) 28 2 (two (.slice none 0 0) (.slice none 0 0))) := by
    have := two_new (w.alloc (.cells #[.int .i64 bs, .int .i64 bl, .int .i64 bu, .int .i64 ch, .int .i64 tr] 23)) (.slice none 0 0) (.slice none 0 0) 28
    rwa [show (w.alloc (.cells #[.int .i64 bs, .int .i64 bl, .int .i64 bu, .int .i64 ch, .int .i64 tr] 23)).heap.size = w.heap.size + 1 by simp] at this
  have HC5 : Hid (∀ z, Below ((w.alloc (.cells #[.int .i64 bs, .int .i64 bl, .int .i64 bu, .int .i64 ch, .int .i64 tr] 23)).alloc (.cells #[.slice none 0 0, .slice none 0 0] 28)).heap.size ((w.alloc (.cells #[.int .i64 bs, .int .i64 bl, .int .i64 bu, .int .i64 ch, .int .i64 tr] 23)).alloc (.cells #[.slice none 0 0, .slice none 0 0] 28)) z → z.cell? ⟨w.heap.size, 0, none⟩ = some (.int .i64 bs) ∧ z.cell? ⟨w.heap.size, 1, none⟩ = some (.int .i64 bl) ∧ z.cell? ⟨w.heap.size, 2, none⟩ = some (.int .i64 bu) ∧ z.cell? ⟨w.heap.size, 3, none⟩ = some (.int .i64 ch) ∧ z.cell? ⟨w.heap.size, 4, none⟩ = some (.int .i64 tr)) := fun z hz => by
    obtain ⟨e0, e1, e2, e3, e4⟩ := box5 w (.int .i64 bs) (.int .i64 bl) (.int .i64 bu) (.int .i64 ch) (.int .i64 tr) 23
    have f := fresh_trans (fresh_alloc (w.alloc (.cells #[.int .i64 bs, .int .i64 bl, .int .i64 bu, .int .i64 ch, .int .i64 tr] 23)) (.cells #[.slice none 0 0, .slice none 0 0] 28)) hz
    exact ⟨fresh_cell f e0, fresh_cell f e1, fresh_cell f e2, fresh_cell f e3, fresh_cell f e4⟩
  go_enter Try.func9, Try.ntmps9
  go_upto_region 2 with (go_at_call 24; with_reducible refine (HCK.out _).mono ?_; rintro e w2 ⟨rfl, hb2⟩)
  have HB2 := hidd (HF.out.trans (hb2.mono HF.out.size))
  have HR2 := hidd (HC6.out.of_block (hb2.block _ HC6.out.lt))
  have HE2 := hidd (HC5.out w2 hb2)
  clear hb2 HC5 HC6 HF
  have c0 := HR2.out.cell (i := 0) (by decide)
  have c1 := HR2.out.cell (i := 1) (by decide)
  have fr := HR2.out.frozen
  go_wp2
  (try simp only [Exit.inBlock, Exit.then]); refine bodyPost_ret (ret_plan rfl _ _ (w.heap.size + 1) _ _ _ rfl (two_set2 HR2.out _ _) rfl) rfl ?_
  exact ⟨rfl, (HB2.out.setCell (by simp) _).setCell (by simp) _⟩
theorem sc_next {w2 a b : World} {g : Nat} {bs bl bu ch tr : Int} (h : (Below w2.heap.size w2 a ∧ a.cell? ⟨g, 0, none⟩ = some (.int .i64 bs) ∧ a.cell? ⟨g, 1, none⟩ = some (.int .i64 bl) ∧ a.cell? ⟨g, 2, none⟩ = some (.int .i64 bu) ∧ a.cell? ⟨g, 3, none⟩ = some (.int .i64 ch) ∧ a.cell? ⟨g, 4, none⟩ = some (.int .i64 tr))) (f : Below a.heap.size a b) : (Below w2.heap.size w2 b ∧ b.cell? ⟨g, 0, none⟩ = some (.int .i64 bs) ∧ b.cell? ⟨g, 1, none⟩ = some (.int .i64 bl) ∧ b.cell? ⟨g, 2, none⟩ = some (.int .i64 bu) ∧ b.cell? ⟨g, 3, none⟩ = some (.int .i64 ch) ∧ b.cell? ⟨g, 4, none⟩ = some (.int .i64 tr)) :=
  ⟨h.1.trans (f.mono h.1.size), fresh_cell f h.2.1, fresh_cell f h.2.2.1, fresh_cell f h.2.2.2.1, fresh_cell f h.2.2.2.2.1, fresh_cell f h.2.2.2.2.2⟩
theorem setRow_other (a : World) (b : Nat) (cs : Array Value) {k : Nat} (hk : k ≠ b) : (a.setRow b cs).heap[k]? = a.heap[k]? := by
  unfold World.setRow
  show (a.heap.modify b _)[k]? = _
  rw [Array.getElem?_modify, if_neg (fun e => hk e.symm)]
theorem chg_setRow (a : World) (b : Nat) (cs : Array Value) : Chg a (a.setRow b cs) (fun x => x = b) :=
  ⟨⟨rfl, rfl, rfl, by unfold World.setRow; simp, fun _ h => absurd h (by omega)⟩, fun x _ hx => setRow_other a b cs hx⟩
theorem sc_set {w2 a : World} {g b : Nat} {bs bl bu ch tr : Int} (h : (Below w2.heap.size w2 a ∧ a.cell? ⟨g, 0, none⟩ = some (.int .i64 bs) ∧ a.cell? ⟨g, 1, none⟩ = some (.int .i64 bl) ∧ a.cell? ⟨g, 2, none⟩ = some (.int .i64 bu) ∧ a.cell? ⟨g, 3, none⟩ = some (.int .i64 ch) ∧ a.cell? ⟨g, 4, none⟩ = some (.int .i64 tr))) (cs : Array Value) (hb : w2.heap.size ≤ b) (hg : g < w2.heap.size) : (Below w2.heap.size w2 (a.setRow b cs) ∧ (a.setRow b cs).cell? ⟨g, 0, none⟩ = some (.int .i64 bs) ∧ (a.setRow b cs).cell? ⟨g, 1, none⟩ = some (.int .i64 bl) ∧ (a.setRow b cs).cell? ⟨g, 2, none⟩ = some (.int .i64 bu) ∧ (a.setRow b cs).cell? ⟨g, 3, none⟩ = some (.int .i64 ch) ∧ (a.setRow b cs).cell? ⟨g, 4, none⟩ = some (.int .i64 tr)) := by
  have hc := chg_setRow a b cs
  have hne : ¬ g = b := by omega
  exact ⟨hc.below h.1 h.1.size (fun x e => by omega), hc.cell h.2.1 hne, hc.cell h.2.2.1 hne, hc.cell h.2.2.2.1 hne, hc.cell h.2.2.2.2.1 hne, hc.cell h.2.2.2.2.2 hne⟩
theorem all26 (bs bl bu ch tr : Int) (u : Option Addr) (n cc : Nat) : (#[.int .i64 bs, .int .i64 bl, .int .i64 bu, .int .i64 ch, .int .i64 tr, .slice u n cc, .bool false, .bool false, .bool false, .bool false, .bool false, .bool false, .bool false, .bool false, .bool false, .bool false, .bool false, .bool false, .bool false, .bool false, .bool false, .bool false, .int .i64 bu, .int .i64 0, .slice none 0 0, .slice none 0 0] : Array Value).all (·.oneCell') = true := by simp [Value.oneCell']
theorem step_store_row {P : Program} {ops : Array Oper} {o : Oper} {a : Act} {w : World} {K : Act → World → Prop} {Q : Exit → Act → World → Prop} {E : Prop} (hgd : o.guard = none) (ty : TypeId) (x y : Operand) (ho : o.op = .store ty x y)
    (g : Nat) (cells : Array Value) (hx : a.eval x = .pointer (some ⟨g, 0, none⟩)) (hy : a.eval y = .agg cells) (t : TypeId) (old : Array Value) (hg : w.heap[g]? = some (.cells old t (0, 0))) (hi : (P.info? ty).map (·.size) = some cells.size)
    (hold : old.size = cells.size) (h1 : cells.all (·.oneCell') = true) (h : K (a.put o.dst undef) (w.setRow g cells)) : if Region.wanted o (yielded ops a.tmps) = true then Oper.wp P o a w K Q else E := by
  have hw : Region.wanted o (yielded ops a.tmps) = true := by simp [Region.wanted, hgd]
  rw [if_pos hw]
  exact wp_store_row ty x y ho g cells hx hy t old hg hi hold h1 h
theorem size_desk : (Try.prog.info? 53).map (·.size) = some 26 := by kernel_rfl
theorem desk_fun (bs bl bu ch tr : Int) (u : Option Addr) (n cc : Nat) (j : Nat) (hj : j < 26) : (#[.int .i64 bs, .int .i64 bl, .int .i64 bu, .int .i64 ch, .int .i64 tr, .slice u n cc, .bool false, .bool false, .bool false, .bool false, .bool false, .bool false, .bool false, .bool false, .bool false, .bool false, .bool false, .bool false, .bool false, .bool false, .bool false, .bool false, .int .i64 bu, .int .i64 0, .slice none 0 0, .slice none 0 0] : Array Value)[j]? = some (dkF ⟨bs, bl, bu, ch, tr⟩ (.slice u n cc) (fun _ => false) bu 0 (.slice none 0 0) (.slice none 0 0) j) := by
  have h : j = 0 ∨ j = 1 ∨ j = 2 ∨ j = 3 ∨ j = 4 ∨ j = 5 ∨ j = 6 ∨ j = 7 ∨ j = 8 ∨ j = 9 ∨ j = 10 ∨ j = 11 ∨ j = 12 ∨ j = 13 ∨ j = 14 ∨ j = 15 ∨ j = 16 ∨ j = 17 ∨ j = 18 ∨ j = 19 ∨ j = 20 ∨ j = 21 ∨ j = 22 ∨ j = 23 ∨ j = 24 ∨ j = 25 := by omega
  rcases h with rfl | rfl | rfl | rfl | rfl | rfl | rfl | rfl | rfl | rfl | rfl | rfl | rfl | rfl | rfl | rfl | rfl | rfl | rfl | rfl | rfl | rfl | rfl | rfl | rfl | rfl <;> rfl
theorem desk_row (w : World) (bs bl bu ch tr : Int) (u : Option Addr) (n cc : Nat) : DkA (w.alloc (.cells #[.int .i64 bs, .int .i64 bl, .int .i64 bu, .int .i64 ch, .int .i64 tr, .slice u n cc, .bool false, .bool false, .bool false, .bool false, .bool false, .bool false, .bool false, .bool false, .bool false, .bool false, .bool false, .bool false, .bool false, .bool false, .bool false, .bool false, .int .i64 bu, .int .i64 0, .slice none 0 0, .slice none 0 0] 53)) w.heap.size ⟨bs, bl, bu, ch, tr⟩ (.slice u n cc) (fun _ => false) bu 0 (.slice none 0 0) (.slice none 0 0) :=
  World.rowIs_alloc w _ 53 _ (fun j hj => desk_fun bs bl bu ch tr u n cc j (by simpa using hj))
theorem desk_set {w : World} {b : Nat} {old : Array Value} (hg : w.heap[b]? = some (.cells old 53 (0, 0))) (bs bl bu ch tr : Int) (u : Option Addr) (n cc : Nat) : DkA (w.setRow b #[.int .i64 bs, .int .i64 bl, .int .i64 bu, .int .i64 ch, .int .i64 tr, .slice u n cc, .bool false, .bool false, .bool false, .bool false, .bool false, .bool false, .bool false, .bool false, .bool false, .bool false, .bool false, .bool false, .bool false, .bool false, .bool false, .bool false, .int .i64 bu, .int .i64 0, .slice none 0 0, .slice none 0 0]) b ⟨bs, bl, bu, ch, tr⟩ (.slice u n cc) (fun _ => false) bu 0 (.slice none 0 0) (.slice none 0 0) :=
  ⟨_, setRow_heap w b old _ 53 (0, 0) hg, rfl, fun j hj => desk_fun bs bl bu ch tr u n cc j hj⟩
theorem mkN_stay {c : Me} {L : Nat → Se} {n : Nat} {pk : Int → Bool} {p : Nat} (h : (mkN c L n pk p).left = 0) : ∀ k, mkN c L n pk (p + k) = mkN c L n pk p
  | 0 => rfl
  | k + 1 => by
    have ih := mkN_stay h k
    show mkN c L n pk (p + k + 1) = _
    rw [mkN, ih, if_pos h]
/-- what Make answers, where the measures may be -/
def MkP (w : World) (c : Me) (n : Nat) (S : Nat → Se) (pk : Int → Bool) (e : Ending) (w' : World) : Prop :=
  Below w.heap.size w w' ∧ (okA c n S → ∃ L vO vZ, Ord n S L ∧ okD c n L ∧ e = .returned (.tuple #[.agg #[vO, vZ], .int .i64 0]) ∧ Own w' w.heap.size 3 1 vO (mkN c L n pk n).O.length (idF L (mkN c L n pk n).O) ∧ Own w' w.heap.size 45 3 vZ (mkN c L n pk n).Z.length (slF L (mkN c L n pk n).Z)) ∧ (¬ okA c n S → e = .returned (.tuple #[.agg #[.slice none 0 0, .slice none 0 0], .int .i64 1]))
set_option maxRecDepth 100000 in
set_option maxHeartbeats 4000000 in
theorem make_ok {w : World} (c : Me) (hc : okM c 1) {ao po : Option Addr} {n cap m cp : Nat} {S : Nat → Se} {P : Nat → Int} (hS : SeA w ao n cap S) (h0 : ao = none → cap = 0) (hn : n ≤ 16) (hP : RdA w po 1 m cp (fun i => .int .i64 (P i))) :
    Calls Try.prog 9 #[mV c, .slice ao n cap, .slice po m cp] w (MkP w c n S (hasI P m)) := by
  have HCO := hidd hc
  have HPK := hidd hP
  have HCK := hidd (fun w => check_any w c 1 0 (fun _ => rfl) (fun h => absurd hc h))
  obtain ⟨bs, bl, bu, ch, tr⟩ := c
  unfold mV at *
  simp only at *
  have HF : Hid (Below w.heap.size w ((w.alloc (.cells #[.int .i64 bs, .int .i64 bl, .int .i64 bu, .int .i64 ch, .int .i64 tr] 23)).alloc (.cells #[.slice none 0 0, .slice none 0 0] 28))) := ((Below.refl _ w).alloc (Nat.le_refl _) _).alloc (by simp) _
  have HC6 : Hid (((w.alloc (.cells #[.int .i64 bs, .int .i64 bl, .int .i64 bu, .int .i64 ch, .int .i64 tr] 23)).alloc (.cells #[.slice none 0 0, .slice none 0 0] 28)).rowIs (w.heap.size + 1) 28 2 (two (.slice none 0 0) (.slice none 0 0))) := by
    have := two_new (w.alloc (.cells #[.int .i64 bs, .int .i64 bl, .int .i64 bu, .int .i64 ch, .int .i64 tr] 23)) (.slice none 0 0) (.slice none 0 0) 28
    rwa [show (w.alloc (.cells #[.int .i64 bs, .int .i64 bl, .int .i64 bu, .int .i64 ch, .int .i64 tr] 23)).heap.size = w.heap.size + 1 by simp] at this
  have HC5 : Hid (∀ z, Below ((w.alloc (.cells #[.int .i64 bs, .int .i64 bl, .int .i64 bu, .int .i64 ch, .int .i64 tr] 23)).alloc (.cells #[.slice none 0 0, .slice none 0 0] 28)).heap.size ((w.alloc (.cells #[.int .i64 bs, .int .i64 bl, .int .i64 bu, .int .i64 ch, .int .i64 tr] 23)).alloc (.cells #[.slice none 0 0, .slice none 0 0] 28)) z → z.cell? ⟨w.heap.size, 0, none⟩ = some (.int .i64 bs) ∧ z.cell? ⟨w.heap.size, 1, none⟩ = some (.int .i64 bl) ∧ z.cell? ⟨w.heap.size, 2, none⟩ = some (.int .i64 bu) ∧ z.cell? ⟨w.heap.size, 3, none⟩ = some (.int .i64 ch) ∧ z.cell? ⟨w.heap.size, 4, none⟩ = some (.int .i64 tr)) := fun z hz => by
    obtain ⟨e0, e1, e2, e3, e4⟩ := box5 w (.int .i64 bs) (.int .i64 bl) (.int .i64 bu) (.int .i64 ch) (.int .i64 tr) 23
    have f := fresh_trans (fresh_alloc (w.alloc (.cells #[.int .i64 bs, .int .i64 bl, .int .i64 bu, .int .i64 ch, .int .i64 tr] 23)) (.cells #[.slice none 0 0, .slice none 0 0] 28)) hz
    exact ⟨fresh_cell f e0, fresh_cell f e1, fresh_cell f e2, fresh_cell f e3, fresh_cell f e4⟩
  go_enter Try.func9, Try.ntmps9
  go_upto_region 2 with (go_at_call 24; with_reducible refine (HCK.out _).mono ?_; rintro e w2 ⟨rfl, hb2⟩)
  have HB2 := hidd (HF.out.trans (hb2.mono HF.out.size))
  have HR2 := hidd (HC6.out.of_block (hb2.block _ HC6.out.lt))
  have HE2 := hidd (HC5.out w2 hb2)
  clear hb2 HC5 HC6 HF
  have HSE := hidd hS
  have HOF : Hid (∀ z, Below w2.heap.size w2 z → Calls Try.prog 25 #[.slice ao n cap] z fun e w' => ∃ u cc L, e = .returned (.slice u n cc) ∧ SeA w' u n cc L ∧ Ord n S L ∧ Below z.heap.size z w' ∧ ∀ g o, u = some ⟨g, o, none⟩ → z.heap.size ≤ g) := fun z hz => oldFirst_any ((hS.fresh HB2.out).fresh hz) hn h0
  obtain ⟨e0, e1, e2, e3, e4⟩ := HE2.out
  go_upto_region 6 with fail
  have HSK : Hid (∀ z, Below w2.heap.size w2 z → (Below w2.heap.size w2 z ∧ z.cell? ⟨w.heap.size, 0, none⟩ = some (.int .i64 bs) ∧ z.cell? ⟨w.heap.size, 1, none⟩ = some (.int .i64 bl) ∧ z.cell? ⟨w.heap.size, 2, none⟩ = some (.int .i64 bu) ∧ z.cell? ⟨w.heap.size, 3, none⟩ = some (.int .i64 ch) ∧ z.cell? ⟨w.heap.size, 4, none⟩ = some (.int .i64 tr))) := fun z hz => ⟨hz, fresh_cell hz e0, fresh_cell hz e1, fresh_cell hz e2, fresh_cell hz e3, fresh_cell hz e4⟩
  have s0 := HSK.out w2.drew (Below.refl _ _).drew
  have HGW : Hid (w.heap.size < w2.heap.size) := by have := HR2.out.lt; show _ < _; omega
  have HSB : Hid (∀ c0 : Array Value, (Below w2.heap.size w2 (w2.alloc (.cells c0 53)).drew ∧ (w2.alloc (.cells c0 53)).drew.cell? ⟨w.heap.size, 0, none⟩ = some (.int .i64 bs) ∧ (w2.alloc (.cells c0 53)).drew.cell? ⟨w.heap.size, 1, none⟩ = some (.int .i64 bl) ∧ (w2.alloc (.cells c0 53)).drew.cell? ⟨w.heap.size, 2, none⟩ = some (.int .i64 bu) ∧ (w2.alloc (.cells c0 53)).drew.cell? ⟨w.heap.size, 3, none⟩ = some (.int .i64 ch) ∧ (w2.alloc (.cells c0 53)).drew.cell? ⟨w.heap.size, 4, none⟩ = some (.int .i64 tr))) := fun c0 => HSK.out _ (fresh_trans (fresh_alloc _ _) (Below.refl _ _).drew)
  have HOA : Hid (Calls Try.prog 25 #[.slice ao n cap] w2.drew fun e w' => ∃ u cc L, e = .returned (.slice u n cc) ∧ (Below w2.heap.size w2 w' ∧ w'.cell? ⟨w.heap.size, 0, none⟩ = some (.int .i64 bs) ∧ w'.cell? ⟨w.heap.size, 1, none⟩ = some (.int .i64 bl) ∧ w'.cell? ⟨w.heap.size, 2, none⟩ = some (.int .i64 bu) ∧ w'.cell? ⟨w.heap.size, 3, none⟩ = some (.int .i64 ch) ∧ w'.cell? ⟨w.heap.size, 4, none⟩ = some (.int .i64 tr)) ∧ SeA w' u n cc L ∧ Ord n S L) := (HOF.out w2.drew (Below.refl _ _).drew).mono (fun e w' q => by
    obtain ⟨u, cc, L, q1, q2, q3, q4, q5⟩ := q
    exact ⟨u, cc, L, q1, HSK.out w' (fresh_trans (Below.refl _ _).drew q4), q2, q3⟩)
  have HOB : Hid (∀ c0 : Array Value, Calls Try.prog 25 #[.slice ao n cap] (w2.alloc (.cells c0 53)).drew fun e w' => ∃ u cc L, e = .returned (.slice u n cc) ∧ (Below w2.heap.size w2 w' ∧ w'.cell? ⟨w.heap.size, 0, none⟩ = some (.int .i64 bs) ∧ w'.cell? ⟨w.heap.size, 1, none⟩ = some (.int .i64 bl) ∧ w'.cell? ⟨w.heap.size, 2, none⟩ = some (.int .i64 bu) ∧ w'.cell? ⟨w.heap.size, 3, none⟩ = some (.int .i64 ch) ∧ w'.cell? ⟨w.heap.size, 4, none⟩ = some (.int .i64 tr)) ∧ w'.heap[w2.heap.size]? = some (.cells c0 53 (0, 0)) ∧ (∀ z, Chg w' z (fun x => x = w2.heap.size) → SeA z u n cc L) ∧ Ord n S L) := fun c0 => by
    have hz : Below w2.heap.size w2 (w2.alloc (.cells c0 53)).drew := fresh_trans (fresh_alloc _ _) (Below.refl _ _).drew
    refine (HOF.out _ hz).mono (fun e w' q => ?_)
    obtain ⟨u, cc, L, q1, q2, q3, q4, q5⟩ := q
    refine ⟨u, cc, L, q1, HSK.out w' (hz.trans (q4.mono hz.size)), ?_, fun z hc => ⟨⟨q2.rd.le, q2.rd.top, fun h9 => ?_⟩, fun i hi => ?_⟩, q3⟩
    · rw [q4.block _ (by show w2.heap.size < (w2.alloc _).heap.size; simp)]
      exact heap_new1 _ _ _
    · obtain ⟨b9, o9, e9, c9⟩ := q2.rd.at_ h9
      have hg9 := q5 b9 o9 e9
      refine ⟨b9, o9, e9, fun j hj => hc.cell (c9 j hj) (fun e => ?_)⟩
      have : (w2.alloc (.cells c0 53)).drew.heap.size = w2.heap.size + 1 := by show (w2.alloc _).heap.size = _; simp
      omega
    · obtain ⟨j, hj, e9⟩ := q3.of_mem hi
      rw [e9]
      exact ((HSE.out.fresh HB2.out).hd j hj).fresh (hc.below (hz.trans (q4.mono hz.size)) (by have := hz.size; have := q4.size; omega) (fun x e => by omega))
  refine wp_region_held_drew (S := fun z => (Below w2.heap.size w2 z ∧ z.cell? ⟨w.heap.size, 0, none⟩ = some (.int .i64 bs) ∧ z.cell? ⟨w.heap.size, 1, none⟩ = some (.int .i64 bl) ∧ z.cell? ⟨w.heap.size, 2, none⟩ = some (.int .i64 bu) ∧ z.cell? ⟨w.heap.size, 3, none⟩ = some (.int .i64 ch) ∧ z.cell? ⟨w.heap.size, 4, none⟩ = some (.int .i64 tr))) (by kernel_rfl) s0 (fun hHeld => ?_)
  refine wpAnyH_take (i := 0) (v := ?va) rfl (by kernel_rfl) (by kernel_rfl) (by kernel_rfl) (fun _ _ _ h => h) (Or.inl ⟨by rfl, ?ya⟩) s0 ?ra
  case ya =>
    intro z hz
    obtain ⟨z0, z1, z2, z3, z4, z5⟩ := hz
    go_simp
    try with_reducible rfl
  refine wpAnyH_take (i := 1) (v := ?vb) rfl (by kernel_rfl) (by kernel_rfl) (by kernel_rfl) (fun _ _ _ h => h) (Or.inl ⟨by rfl, ?yb⟩) s0 ?rb
  case yb =>
    intro z hz
    obtain ⟨z0, z1, z2, z3, z4, z5⟩ := hz
    go_simp
    try with_reducible rfl
  refine wpAnyH_take (i := 3) (v := ?vc) rfl (by kernel_rfl) (by kernel_rfl) (by kernel_rfl) (fun _ _ _ h => h) (Or.inl ⟨by rfl, ?yc⟩) s0 ?rc
  case yc =>
    intro z hz
    obtain ⟨z0, z1, z2, z3, z4, z5⟩ := hz
    go_simp
    try with_reducible rfl
  refine wpAnyH_take (i := 4) (v := ?vd) rfl (by kernel_rfl) (by kernel_rfl) (by kernel_rfl) (fun _ _ _ h => h) (Or.inl ⟨by rfl, ?yd⟩) s0 ?rd
  case yd =>
    intro z hz
    obtain ⟨z0, z1, z2, z3, z4, z5⟩ := hz
    go_simp
    try with_reducible rfl
  refine wpAnyH_ready (rs := [2, 6]) (by kernel_rfl) (by simp) (AllReadyH.cons rfl (fun K hK => ?b2) (AllReadyH.cons rfl (fun K hK => ?b6) AllReadyH.nil))
  case b2 =>
    go_simp
    refine HOA.out.mono ?_
    rintro e w5 ⟨u, cc, L, rfl, s5, hse, hord⟩
    refine hK.out _ _ s5 (fun hH5 => ?_)
    clear hK K
    refine wpAnyH_take (i := 5) (v := ?ve) rfl (by kernel_rfl) (by kernel_rfl) (by kernel_rfl) (fun _ _ _ h => h) (Or.inl ⟨by rfl, ?ye⟩) s5 ?re
    case ye =>
      intro z hz
      obtain ⟨z0, z1, z2, z3, z4, z5⟩ := hz
      go_simp
      try with_reducible rfl
    refine wpAnyH_ready (rs := [6]) (by kernel_rfl) (by simp) (AllReadyH.cons rfl (fun K hK => ?_) AllReadyH.nil)
    go_simp
    refine hK.out _ _ (sc_next s5 (fresh_alloc _ _)) (fun hH6 => ?_)
    clear hK K
    refine wpAnyH_ready (rs := [7]) (by kernel_rfl) (by simp) (AllReadyH.cons rfl (fun K hK => ?_) AllReadyH.nil)
    refine step_store_row rfl 53 (.tmp 9) (.tmp 27) rfl w5.heap.size #[.int .i64 bs, .int .i64 bl, .int .i64 bu, .int .i64 ch, .int .i64 tr, .slice u n cc, .bool false, .bool false, .bool false, .bool false, .bool false, .bool false, .bool false, .bool false, .bool false, .bool false, .bool false, .bool false, .bool false, .bool false, .bool false, .bool false, .int .i64 bu, .int .i64 0, .slice none 0 0, .slice none 0 0] rfl rfl 53 _ (heap_new1 _ _ _) size_desk rfl (all26 _ _ _ _ _ _ _ _) ?_
    refine hK.out _ _ (sc_set hH6 _ s5.1.size HGW.out) (fun hH7 => ?_)
    clear hK K
    refine wpAnyH_done (by kernel_rfl) ?_ _
    rw [World.setRow_alloc_new] at hH7 ⊢
    have HBW : Hid (w2.heap.size ≤ w5.heap.size) := s5.1.size
    have HDW : Hid (DkA (w5.alloc (.cells #[.int .i64 bs, .int .i64 bl, .int .i64 bu, .int .i64 ch, .int .i64 tr, .slice u n cc, .bool false, .bool false, .bool false, .bool false, .bool false, .bool false, .bool false, .bool false, .bool false, .bool false, .bool false, .bool false, .bool false, .bool false, .bool false, .bool false, .int .i64 bu, .int .i64 0, .slice none 0 0, .slice none 0 0] 53)) w5.heap.size ⟨bs, bl, bu, ch, tr⟩ (.slice u n cc) (fun _ => false) bu 0 (.slice none 0 0) (.slice none 0 0)) := desk_row _ bs bl bu ch tr u n cc
    have HSZ : Hid (∀ z, Chg (w5.alloc (.cells #[.int .i64 bs, .int .i64 bl, .int .i64 bu, .int .i64 ch, .int .i64 tr, .slice u n cc, .bool false, .bool false, .bool false, .bool false, .bool false, .bool false, .bool false, .bool false, .bool false, .bool false, .bool false, .bool false, .bool false, .bool false, .bool false, .bool false, .int .i64 bu, .int .i64 0, .slice none 0 0, .slice none 0 0] 53)) z (fun x => x = w5.heap.size) → SeA z u n cc L) := fun z hz => hse.fresh (hz.below (fresh_alloc _ _) (by simp) (fun x e => by omega))
    have HORD := hidd hord
    have HHH := hidd hH7
    clear s5 hse hord hH5 hH6 hH7 s0 HSK HSB HOA HOB
    generalize (w5.alloc (.cells #[.int .i64 bs, .int .i64 bl, .int .i64 bu, .int .i64 ch, .int .i64 tr, .slice u n cc, .bool false, .bool false, .bool false, .bool false, .bool false, .bool false, .bool false, .bool false, .bool false, .bool false, .bool false, .bool false, .bool false, .bool false, .bool false, .bool false, .int .i64 bu, .int .i64 0, .slice none 0 0, .slice none 0 0] 53)) = W at *
    generalize w5.heap.size = b at *
    obtain ⟨_, f0, f1, f2, f3, f4⟩ := HHH.out
    have c5W := HDW.out.cells.c5
    have hmW : n ≤ 9223372036854775807 := by omega
    by_cases hA : okA ⟨bs, bl, bu, ch, tr⟩ n S
    · have hD := (okA_iff hn HORD.out).1 hA
      have HDD := hidd hD
      have HMS : Hid (Calls Try.prog 26 #[.agg #[.int .i64 bs, .int .i64 bl, .int .i64 bu, .int .i64 ch, .int .i64 tr], .slice u n cc] W fun e w' => e = .returned (.bool true) ∧ Below W.heap.size W w') := maySit_any (HSZ.out W (Chg.refl _ _)) ⟨bs, bl, bu, ch, tr⟩ HCO.out true ⟨fun _ => hD, fun _ => rfl⟩
      clear hA hD
      go_wp2_with (go_at_call 26; with_reducible refine HMS.out.mono ?_; rintro e w6 ⟨rfl, hb6⟩; have HB6 := hidd hb6; have c5W := fresh_cell hb6 c5W; clear hb6)
      clear f0 f1 f2 f3 f4 c5W
      have HD0 : Hid (Dsk W ⟨bs, bl, bu, ch, tr⟩ u n cc L b w6 (mkN ⟨bs, bl, bu, ch, tr⟩ L n (hasI P m) 0)) := (Dsk.fresh ⟨Chg.refl _ _, _, _, HDW.out, own_nil _ _ _ _ _, own_nil _ _ _ _ _⟩ HB6.out)
      have HLOW : Hid (∀ z st, Dsk W ⟨bs, bl, bu, ch, tr⟩ u n cc L b z st → Below w2.heap.size w2 z) := fun z st hd => hd.low.below HHH.out.1 HHH.out.1.size (fun x e => by rw [e]; exact HBW.out)
      go_loopw [37] (fun i wr => ∃ p : Nat, p ≤ n ∧ i = .int .i64 p ∧ Hid (Dsk W ⟨bs, bl, bu, ch, tr⟩ u n cc L b wr (mkN ⟨bs, bl, bu, ch, tr⟩ L n (hasI P m) p))) (fun i _ => n - (intOf i).toNat)
      case atStart => exact ⟨0, by omega, rfl, HD0⟩
      case round =>
        clear HD0
        obtain ⟨p, hp, rfl, HD⟩ := hrel
        have hinv := mkN_inv (pk := hasI P m) HCO.out HDD.out.1 hn p hp
        obtain ⟨st, HST⟩ : ∃ st, Hid (st = mkN ⟨bs, bl, bu, ch, tr⟩ L n (hasI P m) p) := ⟨_, rfl⟩
        rw [← HST.out] at hinv HD
        have HBL := hidd (HLOW.out wr st HD.out)
        have HFN : Hid (∀ (wz : World), Dsk W ⟨bs, bl, bu, ch, tr⟩ u n cc L b wz (mkN ⟨bs, bl, bu, ch, tr⟩ L n (hasI P m) n) → wz.rowIs (w.heap.size + 1) 28 2 (two (.slice none 0 0) (.slice none 0 0)) ∧ Below w.heap.size w wz ∧ w.heap.size + 2 ≤ W.heap.size) := fun wz hz => by
          have h1 := HLOW.out wz _ hz
          refine ⟨HR2.out.of_block (h1.block _ HR2.out.lt), HB2.out.trans (h1.mono HB2.out.size), ?_⟩
          have := HR2.out.lt
          have := HHH.out.1.size
          omega
        by_cases hlt : p < n
        · obtain ⟨b3, o3, rfl, hcell⟩ := (HSZ.out wr HD.out.low).rd.seat (by omega)
          obtain ⟨x1, x2, x3, x4, x5⟩ := hcell p hlt
          have k1 : (p : Int) < (n : Int) := by omega
          have k2 : (p : Int) < 16 := by omega
          have k3 : p < 16 := by omega
          clear hcell
          go_upto_region 12 with fail
          have HDN := hidd (HD.out.fresh (fresh_alloc wr (.cells #[.int .i64 (L p).id, .int .i64 (L p).kn, .int .i64 (L p).ca, .int .i64 (L p).wa, .slice (L p).ho (L p).hn (L p).hc] 32)))
          obtain ⟨j1, _, _, _, _⟩ := box5 wr (.int .i64 (L p).id) (.int .i64 (L p).kn) (.int .i64 (L p).ca) (.int .i64 (L p).wa) (.slice (L p).ho (L p).hn (L p).hc) 32
          generalize (wr.alloc (.cells #[.int .i64 (L p).id, .int .i64 (L p).kn, .int .i64 (L p).ca, .int .i64 (L p).wa, .slice (L p).ho (L p).hn (L p).hc] 32)) = w7 at *
          clear x1 x2 x3 x4 x5
          obtain ⟨vO, vZ, q1, q2, q3⟩ := HDN.out.ex
          have c22 := q1.cells.c22
          have co := q1.cells.co p k3
          by_cases hleft : st.left = 0
          · have HEND : Hid (Dsk W ⟨bs, bl, bu, ch, tr⟩ (some ⟨b3, o3, none⟩) n cc L b w7 (mkN ⟨bs, bl, bu, ch, tr⟩ L n (hasI P m) n)) := by
              have e9 := mkN_stay (c := ⟨bs, bl, bu, ch, tr⟩) (L := L) (n := n) (pk := hasI P m) (p := p) (by rw [← HST.out]; exact hleft) (n - p)
              rw [show p + (n - p) = n by omega] at e9
              rw [e9, ← HST.out]
              exact HDN.out
            rw [hleft] at c22
            obtain ⟨g1, g2, g3⟩ := HFN.out w7 HEND.out
            obtain ⟨uO, uZ, r1, r2, r3⟩ := HEND.out.ex
            have c24 := r1.cells.c24
            have c25 := r1.cells.c25
            have p0 := g1.cell (i := 0) (by decide)
            have p1 := g1.cell (i := 1) (by decide)
            have pf := g1.frozen
            have HG1 := hidd g1
            have HG2 := hidd g2
            have HR2' := hidd r2
            have HR3' := hidd r3
            clear g1 g2 r1 r2 r3
            obtain ⟨ao1, ko1, rfl, _⟩ := HR2'.out.rd
            obtain ⟨az1, kz1, rfl, _⟩ := HR3'.out.rd
            go_wp2
            (try simp only [Exit.inBlock, Exit.then]); refine bodyPost_ret (ret_plan rfl _ _ (w.heap.size + 1) _ _ _ rfl (two_set2 HG1.out _ _) rfl) rfl ?_
            refine ⟨(HG2.out.setCell (by simp) _).setCell (by simp) _, fun _ => ⟨L, _, _, HORD.out, HDD.out, rfl, ?_, ?_⟩, fun h => absurd ((okA_iff hn HORD.out).2 HDD.out) h⟩
            · exact ((HR2'.out.chg (Chg.of_set w7 (w.heap.size + 1) 0 _) (fun x hx e => by have := (HR2'.out.lt x hx).1; omega)).chg (Chg.of_set _ (w.heap.size + 1) 1 _) (fun x hx e => by have := (HR2'.out.lt x hx).1; omega)).weaken (by omega)
            · exact ((HR3'.out.chg (Chg.of_set w7 (w.heap.size + 1) 0 _) (fun x hx e => by have := (HR3'.out.lt x hx).1; omega)).chg (Chg.of_set _ (w.heap.size + 1) 1 _) (fun x hx e => by have := (HR3'.out.lt x hx).1; omega)).weaken (by omega)
          · have dl : (st.left == 0) = false := by simp; exact hleft
            have HNX0 : Hid (∀ z, Dsk W ⟨bs, bl, bu, ch, tr⟩ (some ⟨b3, o3, none⟩) n cc L b z (if st.out p = false ∧ hasI P m (L p).id = true then lok ⟨bs, bl, bu, ch, tr⟩ L n p st else st) → Dsk W ⟨bs, bl, bu, ch, tr⟩ (some ⟨b3, o3, none⟩) n cc L b z (mkN ⟨bs, bl, bu, ch, tr⟩ L n (hasI P m) (p + 1))) := fun z hz => by
              rw [mkN, ← HST.out, if_neg hleft]
              exact hz
            have HCT := hidd (contains_any ((HPK.out.fresh HB2.out).fresh (HLOW.out w7 st HDN.out)) (L p).id)
            have HLK : Hid (Calls Try.prog 28 #[.pointer (some ⟨b, 0, none⟩), .int .i64 p] w7 fun e w' => e = .returned (.tuple #[]) ∧ w7.heap.size ≤ w'.heap.size ∧ Dsk W ⟨bs, bl, bu, ch, tr⟩ (some ⟨b3, o3, none⟩) n cc L b w' (lok ⟨bs, bl, bu, ch, tr⟩ L n p st)) := look_any HSZ.out hn HCO.out HDD.out.1 hinv.g0 (by have := hinv.gbd; omega) (by have := hinv.olen; omega) (by have := hinv.zlen; omega) (by have := hinv.left0; omega) (by
              have h9 := hinv.sum
              have h8 := HCO.out.2.2.2.2.2.2.2.2.2.1
              have h7 : ∀ Z : List (Nat × Int), (∀ z, z ∈ Z → 1 ≤ z.2) → 0 ≤ tot Z := by
                intro Z
                induction Z with
                | nil => intro _; exact Int.le_refl _
                | cons a r ih => intro hz; have := ih (fun z hz' => hz z (List.mem_cons_of_mem _ hz')); have := hz a (List.mem_cons_self ..); simp only [tot]; omega
              have := h7 st.Z (fun z hz => (hinv.zs z hz).2.2.2.2.1)
              simp only at h9 h8
              omega) HDN.out hlt
            obtain ⟨iid, HII⟩ : ∃ x, Hid (x = (L p).id) := ⟨_, rfl⟩
            rw [← HII.out] at j1 HCT HNX0
            obtain ⟨hk, HHK⟩ : ∃ x, Hid (x = hasI P m iid) := ⟨_, rfl⟩
            rw [← HHK.out] at HCT HNX0
            clear hinv q1 q2 q3
            by_cases ho : st.out p = true
            · rw [ho] at co
              have HNX1 := hidd (HNX0.out w7 (by rw [if_neg (fun h => by have h9 := h.1; rw [ho] at h9; cases h9)]; exact HDN.out))
              clear ho hleft
              go_wp2
              go_roundw
              case rel => exact ⟨p + 1, by omega, by go_num, HNX1⟩
              case measure => simp [intOf]; omega
            · have ho' : st.out p = false := by rw [Bool.eq_false_iff]; exact ho
              rw [ho'] at co
              cases hk with
              | false =>
                have HNX1 := hidd (HNX0.out w7 (by rw [if_neg (fun h => by have h9 := h.2; cases h9)]; exact HDN.out))
                clear ho ho' hleft
                go_wp2_with (go_at_call 27; with_reducible refine HCT.out.mono ?_; rintro e w8 ⟨rfl, hw⟩; rw [hw]; clear hw)
                go_roundw
                case rel => exact ⟨p + 1, by omega, by go_num, HNX1⟩
                case measure => simp [intOf]; omega
              | true =>
                have HNX1 : Hid (∀ z, Dsk W ⟨bs, bl, bu, ch, tr⟩ (some ⟨b3, o3, none⟩) n cc L b z (lok ⟨bs, bl, bu, ch, tr⟩ L n p st) → Dsk W ⟨bs, bl, bu, ch, tr⟩ (some ⟨b3, o3, none⟩) n cc L b z (mkN ⟨bs, bl, bu, ch, tr⟩ L n (hasI P m) (p + 1))) := fun z hz => HNX0.out z (by rw [if_pos ⟨ho', rfl⟩]; exact hz)
                clear ho ho' hleft
                go_wp2_with (first
                  | (go_at_call 27; with_reducible refine HCT.out.mono ?_; rintro e w8 ⟨rfl, hw⟩; rw [hw]; clear hw)
                  | (go_at_call 28; with_reducible refine HLK.out.mono ?_; rintro e w8 ⟨rfl, hs8, hd8⟩; have HD8 := hidd (HNX1.out w8 hd8); clear hs8 hd8))
                go_roundw
                case rel => exact ⟨p + 1, by omega, by go_num, HD8⟩
                case measure => simp [intOf]; omega
        · obtain rfl : p = n := by omega
          rw [HST.out] at HD
          obtain ⟨g1, g2, g3⟩ := HFN.out wr HD.out
          obtain ⟨uO, uZ, r1, r2, r3⟩ := HD.out.ex
          have c24 := r1.cells.c24
          have c25 := r1.cells.c25
          have p0 := g1.cell (i := 0) (by decide)
          have p1 := g1.cell (i := 1) (by decide)
          have pf := g1.frozen
          have HG1 := hidd g1
          have HG2 := hidd g2
          have HR2' := hidd r2
          have HR3' := hidd r3
          clear g1 g2 r1 r2 r3
          obtain ⟨ao1, ko1, rfl, _⟩ := HR2'.out.rd
          obtain ⟨az1, kz1, rfl, _⟩ := HR3'.out.rd
          go_wp2
          (try simp only [Exit.inBlock, Exit.then]); refine bodyPost_ret (ret_plan rfl _ _ (w.heap.size + 1) _ _ _ rfl (two_set2 HG1.out _ _) rfl) rfl ?_
          refine ⟨(HG2.out.setCell (by simp) _).setCell (by simp) _, fun _ => ⟨L, _, _, HORD.out, HDD.out, rfl, ?_, ?_⟩, fun h => absurd ((okA_iff hn HORD.out).2 HDD.out) h⟩
          · exact ((HR2'.out.chg (Chg.of_set wr (w.heap.size + 1) 0 _) (fun x hx e => by have := (HR2'.out.lt x hx).1; omega)).chg (Chg.of_set _ (w.heap.size + 1) 1 _) (fun x hx e => by have := (HR2'.out.lt x hx).1; omega)).weaken (by omega)
          · exact ((HR3'.out.chg (Chg.of_set wr (w.heap.size + 1) 0 _) (fun x hx e => by have := (HR3'.out.lt x hx).1; omega)).chg (Chg.of_set _ (w.heap.size + 1) 1 _) (fun x hx e => by have := (HR3'.out.lt x hx).1; omega)).weaken (by omega)
    · have hD : ¬ okD ⟨bs, bl, bu, ch, tr⟩ n L := fun h => hA ((okA_iff hn HORD.out).2 h)
      have HNA := hidd hA
      have HMS : Hid (Calls Try.prog 26 #[.agg #[.int .i64 bs, .int .i64 bl, .int .i64 bu, .int .i64 ch, .int .i64 tr], .slice u n cc] W fun e w' => e = .returned (.bool false) ∧ Below W.heap.size W w') := maySit_any (HSZ.out W (Chg.refl _ _)) ⟨bs, bl, bu, ch, tr⟩ HCO.out false ⟨fun h => (by cases h), fun h => absurd h hD⟩
      have HB7 := hidd (HB2.out.trans (HHH.out.1.mono HB2.out.size))
      have HR7 := hidd (HR2.out.of_block (HHH.out.1.block _ HR2.out.lt))
      clear hA hD
      go_upto_region 8 with (go_at_call 26; with_reducible refine HMS.out.mono ?_; rintro e w6 ⟨rfl, hb6⟩)
      have HB8 := hidd (HB7.out.trans (hb6.mono HB7.out.size))
      have HR8 := hidd (HR7.out.of_block (hb6.block _ HR7.out.lt))
      have g0 := HR8.out.cell (i := 0) (by decide)
      have g1 := HR8.out.cell (i := 1) (by decide)
      have gf := HR8.out.frozen
      clear hb6 f0 f1 f2 f3 f4 c5W
      go_wp2
      (try simp only [Exit.inBlock, Exit.then]); refine bodyPost_ret (ret_plan rfl _ _ (w.heap.size + 1) _ _ _ rfl (two_set2 HR8.out _ _) rfl) rfl ?_
      exact ⟨(HB8.out.setCell (by simp) _).setCell (by simp) _, fun h => absurd h HNA.out, fun _ => rfl⟩
  case b6 =>
    go_simp
    refine hK.out _ _ (HSB.out _) (fun hH4 => ?_)
    clear hK K
    refine wpAnyH_ready (rs := [2]) (by kernel_rfl) (by simp) (AllReadyH.cons rfl (fun K hK => ?_) AllReadyH.nil)
    go_simp
    refine (HOB.out _).mono ?_
    rintro e w5 ⟨u, cc, L, rfl, s5, hgB, hse, hord⟩
    refine hK.out _ _ s5 (fun hH5 => ?_)
    clear hK K
    refine wpAnyH_take (i := 5) (v := ?vf) rfl (by kernel_rfl) (by kernel_rfl) (by kernel_rfl) (fun _ _ _ h => h) (Or.inl ⟨by rfl, ?yf⟩) s5 ?rf
    case yf =>
      intro z hz
      obtain ⟨z0, z1, z2, z3, z4, z5⟩ := hz
      go_simp
      try with_reducible rfl
    refine wpAnyH_ready (rs := [7]) (by kernel_rfl) (by simp) (AllReadyH.cons rfl (fun K hK => ?_) AllReadyH.nil)
    refine step_store_row rfl 53 (.tmp 9) (.tmp 27) rfl w2.heap.size #[.int .i64 bs, .int .i64 bl, .int .i64 bu, .int .i64 ch, .int .i64 tr, .slice u n cc, .bool false, .bool false, .bool false, .bool false, .bool false, .bool false, .bool false, .bool false, .bool false, .bool false, .bool false, .bool false, .bool false, .bool false, .bool false, .bool false, .int .i64 bu, .int .i64 0, .slice none 0 0, .slice none 0 0] rfl rfl 53 _ hgB size_desk rfl (all26 _ _ _ _ _ _ _ _) ?_
    refine hK.out _ _ (sc_set s5 _ (Nat.le_refl _) HGW.out) (fun hH7 => ?_)
    clear hK K
    refine wpAnyH_done (by kernel_rfl) ?_ _
    have HBW : Hid (w2.heap.size ≤ w2.heap.size) := Nat.le_refl _
    have HDW : Hid (DkA (w5.setRow w2.heap.size #[.int .i64 bs, .int .i64 bl, .int .i64 bu, .int .i64 ch, .int .i64 tr, .slice u n cc, .bool false, .bool false, .bool false, .bool false, .bool false, .bool false, .bool false, .bool false, .bool false, .bool false, .bool false, .bool false, .bool false, .bool false, .bool false, .bool false, .int .i64 bu, .int .i64 0, .slice none 0 0, .slice none 0 0]) w2.heap.size ⟨bs, bl, bu, ch, tr⟩ (.slice u n cc) (fun _ => false) bu 0 (.slice none 0 0) (.slice none 0 0)) := desk_set hgB bs bl bu ch tr u n cc
    have HSZ : Hid (∀ z, Chg (w5.setRow w2.heap.size #[.int .i64 bs, .int .i64 bl, .int .i64 bu, .int .i64 ch, .int .i64 tr, .slice u n cc, .bool false, .bool false, .bool false, .bool false, .bool false, .bool false, .bool false, .bool false, .bool false, .bool false, .bool false, .bool false, .bool false, .bool false, .bool false, .bool false, .int .i64 bu, .int .i64 0, .slice none 0 0, .slice none 0 0]) z (fun x => x = w2.heap.size) → SeA z u n cc L) := fun z hz => hse z ((chg_setRow w5 w2.heap.size _).same hz)
    have HORD := hidd hord
    have HHH := hidd hH7
    clear s5 hse hord hH5 hH4 hH7 s0 HSK HSB HOA HOB hgB
    generalize (w5.setRow w2.heap.size #[.int .i64 bs, .int .i64 bl, .int .i64 bu, .int .i64 ch, .int .i64 tr, .slice u n cc, .bool false, .bool false, .bool false, .bool false, .bool false, .bool false, .bool false, .bool false, .bool false, .bool false, .bool false, .bool false, .bool false, .bool false, .bool false, .bool false, .int .i64 bu, .int .i64 0, .slice none 0 0, .slice none 0 0]) = W at *
    obtain ⟨b, HBB⟩ : ∃ b, Hid (b = w2.heap.size) := ⟨_, rfl⟩
    rw [← HBB.out] at HDW HSZ ⊢
    replace HBW : Hid (w2.heap.size ≤ b) := Nat.le_of_eq HBB.out.symm
    clear HBB
    obtain ⟨_, f0, f1, f2, f3, f4⟩ := HHH.out
    have c5W := HDW.out.cells.c5
    have hmW : n ≤ 9223372036854775807 := by omega
    by_cases hA : okA ⟨bs, bl, bu, ch, tr⟩ n S
    · have hD := (okA_iff hn HORD.out).1 hA
      have HDD := hidd hD
      have HMS : Hid (Calls Try.prog 26 #[.agg #[.int .i64 bs, .int .i64 bl, .int .i64 bu, .int .i64 ch, .int .i64 tr], .slice u n cc] W fun e w' => e = .returned (.bool true) ∧ Below W.heap.size W w') := maySit_any (HSZ.out W (Chg.refl _ _)) ⟨bs, bl, bu, ch, tr⟩ HCO.out true ⟨fun _ => hD, fun _ => rfl⟩
      clear hA hD
      go_wp2_with (go_at_call 26; with_reducible refine HMS.out.mono ?_; rintro e w6 ⟨rfl, hb6⟩; have HB6 := hidd hb6; have c5W := fresh_cell hb6 c5W; clear hb6)
      clear f0 f1 f2 f3 f4 c5W
      have HD0 : Hid (Dsk W ⟨bs, bl, bu, ch, tr⟩ u n cc L b w6 (mkN ⟨bs, bl, bu, ch, tr⟩ L n (hasI P m) 0)) := (Dsk.fresh ⟨Chg.refl _ _, _, _, HDW.out, own_nil _ _ _ _ _, own_nil _ _ _ _ _⟩ HB6.out)
      have HLOW : Hid (∀ z st, Dsk W ⟨bs, bl, bu, ch, tr⟩ u n cc L b z st → Below w2.heap.size w2 z) := fun z st hd => hd.low.below HHH.out.1 HHH.out.1.size (fun x e => by rw [e]; exact HBW.out)
      go_loopw [37] (fun i wr => ∃ p : Nat, p ≤ n ∧ i = .int .i64 p ∧ Hid (Dsk W ⟨bs, bl, bu, ch, tr⟩ u n cc L b wr (mkN ⟨bs, bl, bu, ch, tr⟩ L n (hasI P m) p))) (fun i _ => n - (intOf i).toNat)
      case atStart => exact ⟨0, by omega, rfl, HD0⟩
      case round =>
        clear HD0
        obtain ⟨p, hp, rfl, HD⟩ := hrel
        have hinv := mkN_inv (pk := hasI P m) HCO.out HDD.out.1 hn p hp
        obtain ⟨st, HST⟩ : ∃ st, Hid (st = mkN ⟨bs, bl, bu, ch, tr⟩ L n (hasI P m) p) := ⟨_, rfl⟩
        rw [← HST.out] at hinv HD
        have HBL := hidd (HLOW.out wr st HD.out)
        have HFN : Hid (∀ (wz : World), Dsk W ⟨bs, bl, bu, ch, tr⟩ u n cc L b wz (mkN ⟨bs, bl, bu, ch, tr⟩ L n (hasI P m) n) → wz.rowIs (w.heap.size + 1) 28 2 (two (.slice none 0 0) (.slice none 0 0)) ∧ Below w.heap.size w wz ∧ w.heap.size + 2 ≤ W.heap.size) := fun wz hz => by
          have h1 := HLOW.out wz _ hz
          refine ⟨HR2.out.of_block (h1.block _ HR2.out.lt), HB2.out.trans (h1.mono HB2.out.size), ?_⟩
          have := HR2.out.lt
          have := HHH.out.1.size
          omega
        by_cases hlt : p < n
        · obtain ⟨b3, o3, rfl, hcell⟩ := (HSZ.out wr HD.out.low).rd.seat (by omega)
          obtain ⟨x1, x2, x3, x4, x5⟩ := hcell p hlt
          have k1 : (p : Int) < (n : Int) := by omega
          have k2 : (p : Int) < 16 := by omega
          have k3 : p < 16 := by omega
          clear hcell
          go_upto_region 12 with fail
          have HDN := hidd (HD.out.fresh (fresh_alloc wr (.cells #[.int .i64 (L p).id, .int .i64 (L p).kn, .int .i64 (L p).ca, .int .i64 (L p).wa, .slice (L p).ho (L p).hn (L p).hc] 32)))
          obtain ⟨j1, _, _, _, _⟩ := box5 wr (.int .i64 (L p).id) (.int .i64 (L p).kn) (.int .i64 (L p).ca) (.int .i64 (L p).wa) (.slice (L p).ho (L p).hn (L p).hc) 32
          generalize (wr.alloc (.cells #[.int .i64 (L p).id, .int .i64 (L p).kn, .int .i64 (L p).ca, .int .i64 (L p).wa, .slice (L p).ho (L p).hn (L p).hc] 32)) = w7 at *
          clear x1 x2 x3 x4 x5
          obtain ⟨vO, vZ, q1, q2, q3⟩ := HDN.out.ex
          have c22 := q1.cells.c22
          have co := q1.cells.co p k3
          by_cases hleft : st.left = 0
          · have HEND : Hid (Dsk W ⟨bs, bl, bu, ch, tr⟩ (some ⟨b3, o3, none⟩) n cc L b w7 (mkN ⟨bs, bl, bu, ch, tr⟩ L n (hasI P m) n)) := by
              have e9 := mkN_stay (c := ⟨bs, bl, bu, ch, tr⟩) (L := L) (n := n) (pk := hasI P m) (p := p) (by rw [← HST.out]; exact hleft) (n - p)
              rw [show p + (n - p) = n by omega] at e9
              rw [e9, ← HST.out]
              exact HDN.out
            rw [hleft] at c22
            obtain ⟨g1, g2, g3⟩ := HFN.out w7 HEND.out
            obtain ⟨uO, uZ, r1, r2, r3⟩ := HEND.out.ex
            have c24 := r1.cells.c24
            have c25 := r1.cells.c25
            have p0 := g1.cell (i := 0) (by decide)
            have p1 := g1.cell (i := 1) (by decide)
            have pf := g1.frozen
            have HG1 := hidd g1
            have HG2 := hidd g2
            have HR2' := hidd r2
            have HR3' := hidd r3
            clear g1 g2 r1 r2 r3
            obtain ⟨ao1, ko1, rfl, _⟩ := HR2'.out.rd
            obtain ⟨az1, kz1, rfl, _⟩ := HR3'.out.rd
            go_wp2
            (try simp only [Exit.inBlock, Exit.then]); refine bodyPost_ret (ret_plan rfl _ _ (w.heap.size + 1) _ _ _ rfl (two_set2 HG1.out _ _) rfl) rfl ?_
            refine ⟨(HG2.out.setCell (by simp) _).setCell (by simp) _, fun _ => ⟨L, _, _, HORD.out, HDD.out, rfl, ?_, ?_⟩, fun h => absurd ((okA_iff hn HORD.out).2 HDD.out) h⟩
            · exact ((HR2'.out.chg (Chg.of_set w7 (w.heap.size + 1) 0 _) (fun x hx e => by have := (HR2'.out.lt x hx).1; omega)).chg (Chg.of_set _ (w.heap.size + 1) 1 _) (fun x hx e => by have := (HR2'.out.lt x hx).1; omega)).weaken (by omega)
            · exact ((HR3'.out.chg (Chg.of_set w7 (w.heap.size + 1) 0 _) (fun x hx e => by have := (HR3'.out.lt x hx).1; omega)).chg (Chg.of_set _ (w.heap.size + 1) 1 _) (fun x hx e => by have := (HR3'.out.lt x hx).1; omega)).weaken (by omega)
          · have dl : (st.left == 0) = false := by simp; exact hleft
            have HNX0 : Hid (∀ z, Dsk W ⟨bs, bl, bu, ch, tr⟩ (some ⟨b3, o3, none⟩) n cc L b z (if st.out p = false ∧ hasI P m (L p).id = true then lok ⟨bs, bl, bu, ch, tr⟩ L n p st else st) → Dsk W ⟨bs, bl, bu, ch, tr⟩ (some ⟨b3, o3, none⟩) n cc L b z (mkN ⟨bs, bl, bu, ch, tr⟩ L n (hasI P m) (p + 1))) := fun z hz => by
              rw [mkN, ← HST.out, if_neg hleft]
              exact hz
            have HCT := hidd (contains_any ((HPK.out.fresh HB2.out).fresh (HLOW.out w7 st HDN.out)) (L p).id)
            have HLK : Hid (Calls Try.prog 28 #[.pointer (some ⟨b, 0, none⟩), .int .i64 p] w7 fun e w' => e = .returned (.tuple #[]) ∧ w7.heap.size ≤ w'.heap.size ∧ Dsk W ⟨bs, bl, bu, ch, tr⟩ (some ⟨b3, o3, none⟩) n cc L b w' (lok ⟨bs, bl, bu, ch, tr⟩ L n p st)) := look_any HSZ.out hn HCO.out HDD.out.1 hinv.g0 (by have := hinv.gbd; omega) (by have := hinv.olen; omega) (by have := hinv.zlen; omega) (by have := hinv.left0; omega) (by
              have h9 := hinv.sum
              have h8 := HCO.out.2.2.2.2.2.2.2.2.2.1
              have h7 : ∀ Z : List (Nat × Int), (∀ z, z ∈ Z → 1 ≤ z.2) → 0 ≤ tot Z := by
                intro Z
                induction Z with
                | nil => intro _; exact Int.le_refl _
                | cons a r ih => intro hz; have := ih (fun z hz' => hz z (List.mem_cons_of_mem _ hz')); have := hz a (List.mem_cons_self ..); simp only [tot]; omega
              have := h7 st.Z (fun z hz => (hinv.zs z hz).2.2.2.2.1)
              simp only at h9 h8
              omega) HDN.out hlt
            obtain ⟨iid, HII⟩ : ∃ x, Hid (x = (L p).id) := ⟨_, rfl⟩
            rw [← HII.out] at j1 HCT HNX0
            obtain ⟨hk, HHK⟩ : ∃ x, Hid (x = hasI P m iid) := ⟨_, rfl⟩
            rw [← HHK.out] at HCT HNX0
            clear hinv q1 q2 q3
            by_cases ho : st.out p = true
            · rw [ho] at co
              have HNX1 := hidd (HNX0.out w7 (by rw [if_neg (fun h => by have h9 := h.1; rw [ho] at h9; cases h9)]; exact HDN.out))
              clear ho hleft
              go_wp2
              go_roundw
              case rel => exact ⟨p + 1, by omega, by go_num, HNX1⟩
              case measure => simp [intOf]; omega
            · have ho' : st.out p = false := by rw [Bool.eq_false_iff]; exact ho
              rw [ho'] at co
              cases hk with
              | false =>
                have HNX1 := hidd (HNX0.out w7 (by rw [if_neg (fun h => by have h9 := h.2; cases h9)]; exact HDN.out))
                clear ho ho' hleft
                go_wp2_with (go_at_call 27; with_reducible refine HCT.out.mono ?_; rintro e w8 ⟨rfl, hw⟩; rw [hw]; clear hw)
                go_roundw
                case rel => exact ⟨p + 1, by omega, by go_num, HNX1⟩
                case measure => simp [intOf]; omega
              | true =>
                have HNX1 : Hid (∀ z, Dsk W ⟨bs, bl, bu, ch, tr⟩ (some ⟨b3, o3, none⟩) n cc L b z (lok ⟨bs, bl, bu, ch, tr⟩ L n p st) → Dsk W ⟨bs, bl, bu, ch, tr⟩ (some ⟨b3, o3, none⟩) n cc L b z (mkN ⟨bs, bl, bu, ch, tr⟩ L n (hasI P m) (p + 1))) := fun z hz => HNX0.out z (by rw [if_pos ⟨ho', rfl⟩]; exact hz)
                clear ho ho' hleft
                go_wp2_with (first
                  | (go_at_call 27; with_reducible refine HCT.out.mono ?_; rintro e w8 ⟨rfl, hw⟩; rw [hw]; clear hw)
                  | (go_at_call 28; with_reducible refine HLK.out.mono ?_; rintro e w8 ⟨rfl, hs8, hd8⟩; have HD8 := hidd (HNX1.out w8 hd8); clear hs8 hd8))
                go_roundw
                case rel => exact ⟨p + 1, by omega, by go_num, HD8⟩
                case measure => simp [intOf]; omega
        · obtain rfl : p = n := by omega
          rw [HST.out] at HD
          obtain ⟨g1, g2, g3⟩ := HFN.out wr HD.out
          obtain ⟨uO, uZ, r1, r2, r3⟩ := HD.out.ex
          have c24 := r1.cells.c24
          have c25 := r1.cells.c25
          have p0 := g1.cell (i := 0) (by decide)
          have p1 := g1.cell (i := 1) (by decide)
          have pf := g1.frozen
          have HG1 := hidd g1
          have HG2 := hidd g2
          have HR2' := hidd r2
          have HR3' := hidd r3
          clear g1 g2 r1 r2 r3
          obtain ⟨ao1, ko1, rfl, _⟩ := HR2'.out.rd
          obtain ⟨az1, kz1, rfl, _⟩ := HR3'.out.rd
          go_wp2
          (try simp only [Exit.inBlock, Exit.then]); refine bodyPost_ret (ret_plan rfl _ _ (w.heap.size + 1) _ _ _ rfl (two_set2 HG1.out _ _) rfl) rfl ?_
          refine ⟨(HG2.out.setCell (by simp) _).setCell (by simp) _, fun _ => ⟨L, _, _, HORD.out, HDD.out, rfl, ?_, ?_⟩, fun h => absurd ((okA_iff hn HORD.out).2 HDD.out) h⟩
          · exact ((HR2'.out.chg (Chg.of_set wr (w.heap.size + 1) 0 _) (fun x hx e => by have := (HR2'.out.lt x hx).1; omega)).chg (Chg.of_set _ (w.heap.size + 1) 1 _) (fun x hx e => by have := (HR2'.out.lt x hx).1; omega)).weaken (by omega)
          · exact ((HR3'.out.chg (Chg.of_set wr (w.heap.size + 1) 0 _) (fun x hx e => by have := (HR3'.out.lt x hx).1; omega)).chg (Chg.of_set _ (w.heap.size + 1) 1 _) (fun x hx e => by have := (HR3'.out.lt x hx).1; omega)).weaken (by omega)
    · have hD : ¬ okD ⟨bs, bl, bu, ch, tr⟩ n L := fun h => hA ((okA_iff hn HORD.out).2 h)
      have HNA := hidd hA
      have HMS : Hid (Calls Try.prog 26 #[.agg #[.int .i64 bs, .int .i64 bl, .int .i64 bu, .int .i64 ch, .int .i64 tr], .slice u n cc] W fun e w' => e = .returned (.bool false) ∧ Below W.heap.size W w') := maySit_any (HSZ.out W (Chg.refl _ _)) ⟨bs, bl, bu, ch, tr⟩ HCO.out false ⟨fun h => (by cases h), fun h => absurd h hD⟩
      have HB7 := hidd (HB2.out.trans (HHH.out.1.mono HB2.out.size))
      have HR7 := hidd (HR2.out.of_block (HHH.out.1.block _ HR2.out.lt))
      clear hA hD
      go_upto_region 8 with (go_at_call 26; with_reducible refine HMS.out.mono ?_; rintro e w6 ⟨rfl, hb6⟩)
      have HB8 := hidd (HB7.out.trans (hb6.mono HB7.out.size))
      have HR8 := hidd (HR7.out.of_block (hb6.block _ HR7.out.lt))
      have g0 := HR8.out.cell (i := 0) (by decide)
      have g1 := HR8.out.cell (i := 1) (by decide)
      have gf := HR8.out.frozen
      clear hb6 f0 f1 f2 f3 f4 c5W
      go_wp2
      (try simp only [Exit.inBlock, Exit.then]); refine bodyPost_ret (ret_plan rfl _ _ (w.heap.size + 1) _ _ _ rfl (two_set2 HR8.out _ _) rfl) rfl ?_
      exact ⟨(HB8.out.setCell (by simp) _).setCell (by simp) _, fun h => absurd h HNA.out, fun _ => rfl⟩
end Go.Proofs.Ytdceahebkohbjab
