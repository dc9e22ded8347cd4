import Derived.Test.YtjjfbpjejhjdiabDoorPkI
import Derived.Test.YtjjfbpjejhjdiabDoorPkB
namespace Go.Proofs.YtjjfbpjejhjdiabDoor
open Go.RowKit Go.Shelf
open Go.Sort hiding Below
attribute [local go_sem] Oper.semAt_some
/-! allowing, candidates. -/
theorem infoPC : (Tryd.prog.info? 70).map (fun i => (i.zero, i.size, i.bytes)) = some (some (.agg #[.int .i64 0, .int .i64 0, .int .i64 0]), 3, 24) := by kernel_rfl
/-- what the closure looks at -/
def AlAt (w : World) (Bx l : Nat) (b : Nat → Bool) : Prop := ∃ bo cl, w.cell? ⟨Bx, 0, none⟩ = some (.slice bo l cl) ∧ RdA w bo 1 l cl (fun i => .bool (b i))
theorem AlAt.fresh {w w' : World} {Bx l : Nat} {b : Nat → Bool} (h : AlAt w Bx l b) (f : Below w.heap.size w w') : AlAt w' Bx l b := by
  obtain ⟨bo, cl, h1, h2⟩ := h
  exact ⟨bo, cl, fresh_cell f h1, h2.fresh f⟩
set_option maxRecDepth 20000 in
set_option maxHeartbeats 800000 in
theorem allowcl_any {w : World} {Bx l : Nat} {b : Nat → Bool} (h : AlAt w Bx l b) (t : Nat) :
    Calls Tryd.prog 43 #[.int .i64 (t : Int), .pointer (some ⟨Bx, 0, none⟩)] w fun e w' => e = .returned (.bool (mayB l b t)) ∧ w' = w := by
  obtain ⟨bo, cl, h1, h2⟩ := h
  have hle := h2.le
  have htop := h2.top
  unfold maxLen at htop
  by_cases h0 : l = 0
  · subst h0
    go_enter Tryd.func43, Tryd.ntmps43
    go_wp2
    go_ret
    exact ⟨ret_bool (by simp [mayB]), rfl⟩
  · have hd : ((l : Int) == 0) = false := by simpa using h0
    by_cases hlt : t < l
    · obtain ⟨b1, o1, rfl, hc⟩ := h2.one (by omega)
      have d := hc t hlt
      have t0 : (0 : Int) ≤ (t : Int) := by omega
      have t1 : (t : Int) < (l : Int) := by omega
      have e1 : mayB l b t = b t := by simp [mayB, h0, hlt]
      rw [e1]
      clear hc h2
      go_enter Tryd.func43, Tryd.ntmps43
      go_wp2
      go_ret
      exact ⟨rfl, rfl⟩
    · have t1 : ¬ (t : Int) < (l : Int) := by omega
      have e1 : mayB l b t = false := by simp [mayB, h0, hlt]
      rw [e1]
      go_enter Tryd.func43, Tryd.ntmps43
      go_wp2
      go_ret
      exact ⟨rfl, rfl⟩
set_option maxRecDepth 20000 in
set_option maxHeartbeats 800000 in
theorem allowing_any {w : World} {bo : Option Addr} {l cl : Nat} {b : Nat → Bool} (h : RdA w bo 1 l cl (fun i => .bool (b i))) :
    Calls Tryd.prog 25 #[.slice bo l cl] w fun e w' => e = .returned (.func (.func 43) #[] #[.pointer (some ⟨w.heap.size, 0, none⟩)]) ∧ AlAt w' w.heap.size l b ∧ w.heap.size < w'.heap.size ∧ Below w.heap.size w w' := by
  have hmf := mkf
  go_enter Tryd.func25, Tryd.ntmps25
  go_wp2
  go_ret
  have f1 := fresh_alloc w (.cells #[.slice bo l cl] 27)
  exact ⟨rfl, ⟨bo, cl, by simp, h.fresh f1⟩, by simp, f1⟩
/-- what lies in a list of candidates: token, score, weight -/
def ldC (A : List (Int × Int)) : Nat → Value := fun j => if j % 3 = 0 then .int .i64 (A.getD (j / 3) (0, 0)).1 else if j % 3 = 1 then .int .i64 (A.getD (j / 3) (0, 0)).2 else .int .i64 0
theorem ldC_app (A : List (Int × Int)) (x : Int × Int) {j : Nat} (h : j < A.length * 3) : ldC A j = ldC (A ++ [x]) j := by
  unfold ldC
  have : (A ++ [x]).getD (j / 3) (0, 0) = A.getD (j / 3) (0, 0) := by
    rw [List.getD_eq_getElem?_getD, List.getD_eq_getElem?_getD, List.getElem?_append_left (by omega)]
  rw [this]
theorem ldC_new (A : List (Int × Int)) (x : Int × Int) : ldC (A ++ [x]) (A.length * 3) = .int .i64 x.1 ∧ ldC (A ++ [x]) (A.length * 3 + 1) = .int .i64 x.2 ∧ ldC (A ++ [x]) (A.length * 3 + 2) = .int .i64 0 := by
  have e : ∀ j, j < 3 → (A.length * 3 + j) % 3 = j ∧ (A.length * 3 + j) / 3 = A.length := fun j hj => by omega
  have e0 := e 0 (by omega)
  have e1 := e 1 (by omega)
  have e2 := e 2 (by omega)
  unfold ldC
  simp only [Nat.add_zero] at e0
  rw [e0.1, e0.2, e1.1, e1.2, e2.1, e2.2]
  simp
/-- those that may come, of those that were gone through -/
def keepL (M : Nat → Bool) (pre : List (Nat × Int)) : List (Int × Int) := (pre.filter fun x => M x.1).map toI
theorem keepL_app (M : Nat → Bool) (pre : List (Nat × Int)) (x : Nat × Int) : keepL M (pre ++ [x]) = keepL M pre ++ (if M x.1 then [toI x] else []) := by
  unfold keepL
  rw [List.filter_append, List.map_append]
  cases h : M x.1 <;> simp [h]
theorem keepL_len (M : Nat → Bool) (pre : List (Nat × Int)) : (keepL M pre).length ≤ pre.length := by
  unfold keepL
  rw [List.length_map]
  exact List.length_filter_le _ _
theorem keepL_all (M : Nat → Bool) (f : Nat → Int) (n : Nat) : keepL M (ordN f n) = canL f n M := by
  unfold keepL canL ordN
  rw [List.filter_map, List.map_map]
  refine Eq.trans (List.map_congr_left (g := id) fun x hx => ?_) (List.map_id _)
  obtain ⟨i, _, rfl⟩ := ordL_mem.1 (List.mem_filter.1 hx).1
  rfl
def CI (w W0 : World) (fv : Value) (M : Nat → Bool) (pre : List (Nat × Int)) (W : World) : Prop :=
  ∃ v, Boxed W (w.heap.size + 1) 49 v ∧ Own W W0.heap.size 70 3 v (keepL M pre).length (ldC (keepL M pre)) ∧ Boxed W w.heap.size 52 fv ∧ Below w.heap.size w W ∧ W0.heap.size ≤ W.heap.size
theorem CI.from {w W0 : World} (h : w.heap.size ≤ W0.heap.size) (fv : Value) (M : Nat → Bool) (pre : List (Nat × Int)) : OwnFrom W0.heap.size (fun (_ : Unit) W => CI w W0 fv M pre W) := by
  rintro u X Y row ⟨v, h1, h2, h3, h4, h5⟩ hg hr
  exact ⟨v, boxed_own _ _ (fun (_ : Unit) => v) () X Y row h1 hg (fun r e => (hr r e).2), own_from _ _ _ _ _ _ _ () X Y row h2 hg hr, boxed_own _ _ (fun (_ : Unit) => fv) () X Y row h3 hg (fun r e => (hr r e).2), ownFrom_below (β := Unit) (Nat.le_refl _) h () X Y row h4 hg hr, Nat.le_trans h5 hg.size⟩
set_option maxRecDepth 100000 in
set_option maxHeartbeats 4000000 in
theorem cands_any {w : World} {ao : Option Addr} {n cap Bx l : Nat} {f : Nat → Int} {b : Nat → Bool} (h : RdA w ao 1 n cap (fun i => .int .i64 (f i))) (hn : n ≤ 1048576) (hA : AlAt w Bx l b) :
    Calls Tryd.prog 23 #[.slice ao n cap, .func (.func 43) #[] #[.pointer (some ⟨Bx, 0, none⟩)]] w fun e w' => ∃ u c, e = .returned (.slice u (canL f n (mayB l b)).length c) ∧ Own w' w.heap.size 70 3 (.slice u (canL f n (mayB l b)).length c) (canL f n (mayB l b)).length (ldC (canL f n (mayB l b))) ∧ Below w.heap.size w w' := by
  refine (callsIn_wide (n := 5)).1 ?_
  refine callsIn_of_wp_marks Tryd.func23 rfl trivial ?_ rfl
  simp only [Tryd.ntmps23, List.size_toArray, List.length_cons, List.length_nil, Nat.reduceAdd, Nat.reduceSub, Array.replicate_succ, Array.replicate_zero, List.push_toArray, List.append_toArray, List.nil_append, List.cons_append]
  have hB0 : Below w.heap.size w ((w.alloc (.cells #[.func (.func 43) #[] #[.pointer (some ⟨Bx, 0, none⟩)]] 52)).alloc (.cells #[.slice none 0 0] 49)) := ((Below.refl _ w).alloc (Nat.le_refl _) _).alloc (by simp) _
  have bK := (Boxed.new w 52 (.func (.func 43) #[] #[.pointer (some ⟨Bx, 0, none⟩)])).alloc (.cells #[.slice none 0 0] 49)
  have bT := Boxed.new (w.alloc (.cells #[.func (.func 43) #[] #[.pointer (some ⟨Bx, 0, none⟩)]] 52)) 49 (.slice none 0 0)
  simp only [World.size_alloc] at bT
  have HRK := hidd (ranked_any (h.fresh hB0) (by omega))
  have HAL := hidd (fun (W : World) (hW : Below w.heap.size w W) (t : Nat) => allowcl_any (hA.fresh hW) t)
  clear h hA
  gi_wp2_with (refine ⟨trivial, ?_⟩; gi_at_call 40; refine (callsIn_wide.2 HRK.out).mono ?_; rintro e W0 ⟨Bn, g, c, rfl, hB1, hB2, hg1, hg2, hcl, hO, f0⟩)
  simp only [World.size_alloc] at hB1 hg1
  have f1 := hB0.trans (f0.mono (by simp; omega))
  have hs0 := f0.size
  simp only [World.size_alloc] at hs0
  have bK1 := Boxed.trans' bK f0
  have bT1 := Boxed.trans' bT f0
  have hLn : (ordN f n).length = n := ordN_len f n
  have HO : Hid (OrdAt W0 g ((ordN f n).map toI)) := by rw [ordN_map]; exact hO
  have H0 : Hid (CI w W0 (.func (.func 43) #[] #[.pointer (some ⟨Bx, 0, none⟩)]) (mayB l b) [] W0) := ⟨_, bT1, own_nil _ _ _ _ _, bK1, f1, Nat.le_refl _⟩
  clear bK bT bK1 bT1 hO HRK hB0
  refine wpIn_rangeFunc_ownH (α := Nat × Int) rfl (by decide) (gf := 53) (lb := #[.pointer (some ⟨Bn, 0, none⟩)]) rfl trivial (enters_of Tryd.func53 (by kernel_rfl) rfl)
    (iterN_stops Fence.wide 4 trivial rfl (by decide) Bn g c (ordN f n) (by omega) W0 hB2 hg2 (by rw [hLn]; exact hcl) HO.out) KpB.trans (fun V l o o' hl hV hc _ => ⟨by simp, World.putObj_heap_other (by omega), World.putObj_heap_other (by omega)⟩) (Below.refl _ _) (fun _ => rfl)
    (fun pre W => CI w W0 (.func (.func 43) #[] #[.pointer (some ⟨Bx, 0, none⟩)]) (mayB l b) pre W)
    (fun cd pre W => False)
    ?hI ?hIx ?h0
    (fun z a' _ => a' = { tmps := #[.slice ao n cap, .func (.func 43) #[] #[.pointer (some ⟨Bx, 0, none⟩)], undef, .pointer (some ⟨w.heap.size, 0, none⟩), .slice none 0 0, .pointer (some ⟨w.heap.size + 1, 0, none⟩), .int .i64 z.1, .int .i64 z.2, .slice ao n cap, .func (.func 53) #[] #[.pointer (some ⟨Bn, 0, none⟩)], .int .i64 z.1, .int .i64 z.2, undef, undef, undef, undef, undef, undef, undef, undef, undef, undef], defers := [] })
    ?hAx ?assign ?body ?done ?stop
  case hI =>
    rintro pre X Y row h1 hg hr
    exact CI.from (by omega) _ _ pre () X Y row h1 hg hr
  case hIx =>
    rintro cd pre X Y row h1 hg hr
    exact h1
  case h0 => exact H0.out
  case hAx =>
    rintro z a' u X Y row e1 hg hr
    exact e1
  case assign =>
    rintro l pre ⟨x, y⟩ W K hi hK
    have HI := hidd hi
    clear hi
    unfold encN
    gi_wp2
    exact hK _ _ (KeepsFrom.refl _ _) (KpB.refl _ _ _) HI.out rfl
  case body =>
    rintro lx pre ⟨x, y⟩ a' W hl hlr ⟨v, h1, h2, h3, h4, h5⟩ rfl hlt
    have hO2 := h2
    obtain ⟨u, uc, rfl, hrd⟩ := h2.rd
    have c1 := h1.cell
    have c3 := h3.cell
    rw [hLn] at hlt
    have hkl := keepL_len (mayB l b) pre
    have hcall := HAL.out W h4 x
    have hka := keepL_app (mayB l b) pre (x, y)
    simp only at hka
    cases hM : mayB l b x with
    | false =>
      rw [hM] at hcall hka
      have HC := hidd hcall
      have HK := hidd hka
      clear hcall hka
      gi_wp2_with (refine ⟨trivial, ?_⟩; gi_at_call 43; refine (callsIn_wide.2 HC.out).mono ?_; rintro e W1 ⟨rfl, h9⟩; rw [h9]; clear h9)
      refine ⟨KeepsFrom.refl _ _, KpB.refl _ _ _, ?_⟩
      show CI w W0 _ _ (pre ++ [(x, y)]) _
      have e9 := HK.out
      simp at e9
      unfold CI
      rw [e9]
      exact ⟨_, h1, hO2, h3, h4, h5⟩
    | true =>
      rw [hM] at hcall hka
      have HC := hidd hcall
      have e9 : keepL (mayB l b) (pre ++ [(x, y)]) = keepL (mayB l b) pre ++ [((x : Int), y)] := by rw [hka]; rfl
      have HK := hidd e9
      clear hcall hka e9
      obtain ⟨q0, q1, q2⟩ := ldC_new (keepL (mayB l b) pre) ((x : Int), y)
      have HX : Hid (∀ (w0 : World) (t : TypeId) (j : Nat), j < 3 → (w0.alloc (.cells #[.int .i64 (x : Int), .int .i64 y, .int .i64 0] t)).cell? ⟨w0.heap.size, j, none⟩ = some (ldC (keepL (mayB l b) pre ++ [((x : Int), y)]) ((keepL (mayB l b) pre).length * 3 + j))) := fun w0 t j hj => by
        match j, hj with
        | 0, _ => rw [Nat.add_zero, q0]; simp
        | 1, _ => rw [q1]; simp
        | 2, _ => rw [q2]; simp
      have HO3 : Hid (Own (W.alloc (.cells #[.int .i64 (x : Int), .int .i64 y, .int .i64 0] 70)) W0.heap.size 70 3 (.slice u (keepL (mayB l b) pre).length uc) (keepL (mayB l b) pre).length (ldC (keepL (mayB l b) pre ++ [((x : Int), y)]))) := (hO2.kept (fresh_alloc _ _)).congr (fun j hj => ldC_app _ _ hj)
      have HONE : Hid (∀ j, j < 3 → (ldC (keepL (mayB l b) pre ++ [((x : Int), y)]) ((keepL (mayB l b) pre).length * 3 + j)).oneCell' = true) := fun j hj => by unfold ldC; split <;> first | rfl | (split <;> rfl)
      clear q0 q1 q2
      gi_wp2_with (first
        | (refine ⟨trivial, ?_⟩; gi_at_call 43; refine (callsIn_wide.2 HC.out).mono ?_; rintro e W1 ⟨rfl, h9⟩; rw [h9]; clear h9)
        | (gi_at_builtin; refine wpListIn_own3 _ rfl _ _ 49 rfl W0.heap.size 70 (.agg #[.int .i64 0, .int .i64 0, .int .i64 0]) 24 Tryd.underlying49 infoPC rfl _ (keepL (mayB l b) pre).length (ldC (keepL (mayB l b) pre ++ [((x : Int), y)])) rfl HO3.out _ 1 rfl (HX.out _ _) HONE.out (by omega) (by omega) (by simp; omega) ?_))
      intro u' c' w1 hown' hgr
      have hne : some (w.heap.size + 1) ≠ (Value.slice u (keepL (mayB l b) pre).length uc).ownBlock := fun e => by have := (HO3.out.lt _ e.symm).1; omega
      have hne0 : some w.heap.size ≠ (Value.slice u (keepL (mayB l b) pre).length uc).ownBlock := fun e => by have := (HO3.out.lt _ e.symm).1; omega
      have b9 := (h1.alloc (.cells #[.int .i64 (x : Int), .int .i64 y, .int .i64 0] 70)).kept hgr hne
      have b8 := (h3.alloc (.cells #[.int .i64 (x : Int), .int .i64 y, .int .i64 0] 70)).kept hgr hne0
      have c9 := b9.cell
      have f9 := b9.frozen
      have hw1 := hgr.size
      have hkb : ∀ z, z < W0.heap.size → w1.heap[z]? = W.heap[z]? := fun z hz => (hgr.block z (by simp; omega) (fun e => by have := (HO3.out.lt _ e.symm).1; omega)).trans (Below.heap_alloc _ _ _ (by omega))
      have hf1 := (h4.alloc (by omega) (.cells #[.int .i64 (x : Int), .int .i64 y, .int .i64 0] 70)).grown hgr (by simp; omega) (fun z hz => by have := (HO3.out.lt _ hz).1; omega)
      gi_wp2
      refine ⟨(((KeepsOthers.alloc W _).trans (keeps_app hgr (fun r e => HO3.out.cells_ e))).trans (KeepsOthers.setCell _ _ _)).from _, ⟨by simp at hw1 ⊢; omega, (Below.heap_setCell _ _ _ _ (by show ¬ (_ = w.heap.size + 1); omega)).trans (hkb _ (by omega)), (Below.heap_setCell _ _ _ _ (by show ¬ (_ = w.heap.size + 1); omega)).trans (hkb _ (by omega))⟩, ?_⟩
      show CI w W0 _ _ (pre ++ [(x, y)]) _
      unfold CI
      rw [HK.out]
      refine ⟨_, b9.set _, ?_, b8.other (by omega) _, hf1.setCell (by show _ ≤ w.heap.size + 1; omega) _, by simp at hw1 ⊢; omega⟩
      have := ownsRow_setCell_below hown' (a := ⟨w.heap.size + 1, 0, none⟩) (by show w.heap.size + 1 < _; omega) (.slice u' ((keepL (mayB l b) pre).length + 1) c')
      rw [show (keepL (mayB l b) pre ++ [((x : Int), y)]).length = (keepL (mayB l b) pre).length + 1 by simp]
      exact this
  case done =>
    rintro D xs W hD rfl ⟨v, h1, h2, h3, h4, h5⟩ hW
    have hO2 := h2
    obtain ⟨u, uc, rfl, hrd⟩ := h2.rd
    have c1 := h1.cell
    gi_wp2
    refine ⟨by simp, .inl ⟨_, _, rfl, run_takeDeferred hW, ?_⟩⟩
    have hgr := grownBy_putObj' W D (.deferred none)
    have ho9 := (own_from 0 _ _ _ _ _ _ () W _ (some D) hO2 hgr (fun r e => by cases e; exact ⟨Nat.zero_le _, _, hW, rfl⟩)).weaken (base' := w.heap.size) (by omega)
    rw [keepL_all] at ho9
    refine ⟨.slice u (canL f n (mayB l b)).length uc, by simp [results, Tryd.f23, go_sem, keepL_all], u, uc, rfl, ho9, h4.trans (belowK_b (w := w) (Nat.le_refl _) W D _ _ (by omega) hW rfl rfl)⟩
  case stop =>
    rintro D cd pre W hD hp hF hW
    exact hF.elim
end Go.Proofs.YtjjfbpjejhjdiabDoor
