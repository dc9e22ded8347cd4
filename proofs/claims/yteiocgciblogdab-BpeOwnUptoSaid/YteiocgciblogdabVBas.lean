import Derived.Test.YteiocgciblogdabVAll
import Derived.Laws.Rows
namespace Go.Proofs.Yteiocgciblogdab
open Go.RowKit Go.Shelf
attribute [local go_sem] Oper.semAt_some
/-! baseTokens. -/
/-- each byte's token, when the tokens below k are gone through -/
def VD.btk (d : VD) : Nat → Nat → Int
  | 0, _ => 0
  | k + 1, b => if 1 ≤ k ∧ k ≤ d.nb ∧ d.B (k - 1) = (b : Int) then (k : Int) else d.btk k b
theorem in_load_row {F : Fence} {n : Nat} {P : Program} {ops : Array Oper} {rest : List Oper} {o : Oper} {a : Act} {w : World} {Q : Exit → Act → World → Prop} (hgd : o.guard = none) (ty : TypeId) (x : Operand) (ho : o.op = .load ty x)
    (g : Nat) (hx : a.eval x = .pointer (some ⟨g, 0, none⟩)) (t : TypeId) (cs : Array Value) (fr : Nat × Nat) (d : TypeDesc) (hg : w.heap[g]? = some (.cells cs t fr))
    (hu : P.underlying ty = some d) (hd : (match d with | .struct _ | .array _ _ => true | _ => false) = true) (hi : (P.info? ty).map (·.size) = some cs.size)
    (h : wpListIn F n P ops Q rest (a.put o.dst (.agg cs)) w) : wpListIn F n P ops Q (o :: rest) a w := by
  refine wpListIn_plain hgd fun K hK => ?_
  unfold Oper.wpIn
  refine ⟨?_, ?_⟩
  · simp [Oper.about, ho]
  · rw [Oper.semAt_plain F _ _ (by rw [ho]; intro c hc'; cases hc')]
    simp only [execOp, ho, hx, Instr.loadAt, Instr.sureAddr, Sem.run_bind, Sem.run_pure, Result.andThen_ok, run_loadVar_row w g t ty cs fr d hg hu hd hi]
    exact hK _ _ h
theorem in_store_row {F : Fence} {n : Nat} {P : Program} {ops : Array Oper} {rest : List Oper} {o : Oper} {a : Act} {w : World} {Q : Exit → Act → World → Prop} (hgd : o.guard = none) (ty : TypeId) (x y : Operand) (ho : o.op = .store ty x y)
    (g : Nat) (cells : Array Value) (hx : a.eval x = .pointer (some ⟨g, 0, none⟩)) (hy : a.eval y = .agg cells)
    (t : TypeId) (old : Array Value) (hg : w.heap[g]? = some (.cells old t (0, 0))) (hi : (P.info? ty).map (·.size) = some cells.size)
    (hold : old.size = cells.size) (h1 : cells.all (·.oneCell') = true)
    (h : wpListIn F n P ops Q rest (a.put o.dst undef) (w.setRow g cells)) : wpListIn F n P ops Q (o :: rest) a w := by
  refine wpListIn_plain hgd fun K hK => ?_
  unfold Oper.wpIn
  refine ⟨?_, ?_⟩
  · simp [Oper.about, ho]
  · rw [Oper.semAt_plain F _ _ (by rw [ho]; intro c hc'; cases hc')]
    simp only [execOp, ho, hx, hy, Instr.storeAt, Instr.sureAddr, Sem.run_bind, Sem.run_pure, Result.andThen_ok, run_storeVar_row w g t ty old cells hg hi hold h1]
    exact hK _ _ h
theorem infoA : (Try.prog.info? 51).map (fun i => (i.zero, i.size, i.bytes)) = some (some (.agg (Array.replicate 256 (.int .i64 0))), 256, 2048) := by kernel_rfl
theorem sizeA : (Try.prog.info? 51).map (·.size) = some 256 := by kernel_rfl
theorem zeroA : ∃ Z : Array Value, Z.size = 256 ∧ (∀ i, i < 256 → Z[i]? = some (.int .i64 0)) ∧ ∀ w, (zeroValue 51).run Try.prog w = .ok (.agg Z) w := by
  obtain ⟨i, hi, hz, _, _⟩ := info_parts infoA
  refine ⟨Array.replicate 256 (.int .i64 0), by simp, fun i hi => by simp [hi], fun w => ?_⟩
  simp [zeroValue, typeInfo, hi, hz]
theorem VD.btk_ge (d : VD) (b : Nat) : ∀ (j : Nat), d.btk (d.nb + 1 + j) b = d.btk (d.nb + 1) b
  | 0 => rfl
  | j + 1 => by
    rw [← VD.btk_ge d b j]
    show (if 1 ≤ d.nb + 1 + j ∧ d.nb + 1 + j ≤ d.nb ∧ _ then _ else _) = _
    rw [if_neg (by omega)]
    rfl
theorem cell_put {W : World} {l b o : Nat} {ob ob' : Obj} {v : Value} (hl : W.heap[l]? = some ob) (hc : ob.isCells = false) (h : W.cell? ⟨b, o, none⟩ = some v) : (W.putObj l ob').cell? ⟨b, o, none⟩ = some v :=
  cell_kept h (grownBy_putObj' _ _ _) (fun r e => by cases e; exact ⟨ob, hl, hc⟩)
theorem row_put {W : World} {l b n : Nat} {t : TypeId} {F : Nat → Value} {ob ob' : Obj} (hl : W.heap[l]? = some ob) (hc : ob.isCells = false) (h : W.rowIs b t n F) : (W.putObj l ob').rowIs b t n F := by
  refine h.of_block (put_other _ (fun e => ?_))
  subst e
  obtain ⟨c, hb, _⟩ := h
  rw [hb] at hl
  cases hl
  simp [Obj.isCells] at hc
theorem piece_put {W : World} {l base : Nat} {u : Value} {x : List Int} {ob ob' : Obj} (hl : W.heap[l]? = some ob) (hc : ob.isCells = false) (h : PieceAt W base u x) : PieceAt (W.putObj l ob') base u x := by
  obtain ⟨g, k, e, h1, h2, h3⟩ := h
  refine ⟨g, k, e, h1, h2, fun h0 => ?_⟩
  obtain ⟨b, e, hb, hlt, hcs⟩ := h3 h0
  exact ⟨b, e, hb, by simpa using hlt, fun j hj => cell_put hl hc (hcs j hj)⟩
theorem below_put {B l : Nat} {w W : World} {ob ob' : Obj} (hl : W.heap[l]? = some ob) (hB : B ≤ l) (h : Below B w W) : Below B w (W.putObj l ob') :=
  h.trans ((Below.refl B W).grown (grownBy_putObj' W l ob') (by have := (Array.getElem?_eq_some_iff.1 hl).1; omega) (fun k e => by cases e; omega))
theorem below_setRow' {B : Nat} {w W : World} (h : Below B w W) {g : Nat} (hg : B ≤ g) (hs : B ≤ W.heap.size) (cs : Array Value) : Below B w (W.setRow g cs) := by
  refine h.trans ?_
  refine (Below.refl B W).grown (row := some g) ⟨rfl, rfl, rfl, by simp [World.setRow], fun k _ hk => setRow_other _ _ _ _ (fun e => hk (by rw [e]))⟩ hs (fun k e => by cases e; exact hg)
set_option maxRecDepth 100000 in
set_option maxHeartbeats 8000000 in
theorem baset_any {w : World} {d : VD} {bo po : Option Addr} {cb cp : Nat} (hb : RdA w bo 1 d.nb cb (fun i => .int .u8 (d.B i))) (hp : RdA w po 2 d.np cp (tcs d.P d.Q)) (hR : d.Right) (hB : ∀ i, i < d.nb → 0 ≤ d.B i ∧ d.B i ≤ 255) :
    Calls Try.prog 23 #[.agg #[.slice bo d.nb cb, .slice po d.np cp]] w fun e w' => ∃ arr : Array Value, e = .returned (.agg arr) ∧ arr.size = 256 ∧ (∀ b, b < 256 → arr[b]? = some (.int .i64 (d.btk (d.nb + 1) b))) ∧ Below w.heap.size w w' := by
  have HR := hidd hR
  clear hR
  refine (callsIn_wide (n := 3)).1 ?_
  refine callsIn_of_wp_marks Try.func23 rfl trivial ?_ rfl
  simp only [Try.ntmps23, List.size_toArray, List.length_cons, List.length_nil, Nat.reduceAdd, Nat.reduceSub, Array.replicate_succ, Array.replicate_zero, List.push_toArray, List.append_toArray, List.nil_append, List.cons_append]
  obtain ⟨Z, hZ1, hZ2, hZ⟩ := zeroA
  have HZ1 := hidd hZ1
  have HZ2 := hidd hZ2
  clear hZ1 hZ2
  have hf0 := fresh_alloc w (.cells #[.slice bo d.nb cb, .slice po d.np cp] 25)
  have hf1 := fresh_trans hf0 (fresh_alloc _ (.cells Z 51))
  have hf2 := fresh_trans hf1 (fresh_alloc _ (.cells Z 51))
  have HA := hidd (all_any (hb.fresh hf2) (hp.fresh hf2))
  gi_wp2_with (refine ⟨trivial, ?_⟩; gi_at_call 14; refine (callsIn_wide.2 HA.out).mono ?_; rintro e w4 ⟨Ba, rfl, hAll, hBa, hf4⟩)
  rcases hAll with ⟨_, v, A, hT, hcell⟩ | ⟨hn, _⟩
  rotate_left
  · exact absurd HR.out hn
  obtain ⟨z1, z2, z3⟩ := HR.out.cnt
  have hS3 : (((w.alloc (.cells #[.slice bo d.nb cb, .slice po d.np cp] 25)).alloc (.cells Z 51)).alloc (.cells Z 51)).heap.size = w.heap.size + 3 := by simp
  have q0 := ((row2_new w 25 (.slice bo d.nb cb) (.slice po d.np cp)).alloc (.cells Z 51)).alloc (.cells Z 51)
  have q1 := ((World.rowIs_alloc (w.alloc (.cells #[.slice bo d.nb cb, .slice po d.np cp] 25)) Z 51 (fun _ => .int .i64 0) (fun i hi => HZ2.out i (by rw [← HZ1.out]; exact hi))).alloc (.cells Z 51))
  have q2 := World.rowIs_alloc ((w.alloc (.cells #[.slice bo d.nb cb, .slice po d.np cp] 25)).alloc (.cells Z 51)) Z 51 (fun _ => .int .i64 0) (fun i hi => HZ2.out i (by rw [← HZ1.out]; exact hi))
  simp only [World.size_alloc] at q1 q2
  rw [HZ1.out] at q1 q2
  generalize (((w.alloc (.cells #[.slice bo d.nb cb, .slice po d.np cp] 25)).alloc (.cells Z 51)).alloc (.cells Z 51)) = w3 at *
  have r0 := q0.of_block (hf4.block _ q0.lt)
  have r1 := q1.of_block (hf4.block _ q1.lt)
  have r2 := q2.of_block (hf4.block _ q2.lt)
  have hF4 := fresh_trans hf2 hf4
  have hz4 : w.heap.size + 3 ≤ w4.heap.size := by rw [← hS3]; exact hf4.size
  rw [hS3] at hT
  have hit := all_hands (d := d) (N := d.nb + 1 + d.np) (by omega) (by omega) HR.out.len_all hT (n₁ := w4.heap.size) rfl hcell
  clear hf0 hf1 hf2 hf4 q0 q1 q2 HA hT hcell
  refine range_hands (gf := 30) (lb := #[.pointer (some ⟨Ba, 0, none⟩)]) rfl (enters_of Try.func30 (by kernel_rfl) rfl) hit KpS.trans (fun W l o o' hl hW hc => ⟨by simp, fun b h1 h2 => put_other _ (by omega)⟩)
    (fun k args W h => by obtain ⟨u, rfl, _⟩ := h; rfl) (fun k args W l o o' hl hW hc h => by obtain ⟨u, e, hP⟩ := h; exact ⟨u, e, piece_put hW hc hP⟩)
    (fun k W => W.rowIs (w.heap.size + 1 + 1) 51 256 (fun b => .int .i64 (d.btk k b)) ∧ W.rowIs w.heap.size 25 2 (two (.slice bo d.nb cb) (.slice po d.np cp)) ∧ W.rowIs (w.heap.size + 1) 51 256 (fun _ => .int .i64 0) ∧ Below w.heap.size w W)
    (fun id _ W => id = 0 ∧ W.rowIs (w.heap.size + 1 + 1) 51 256 (fun b => .int .i64 (d.btk (d.nb + 1) b)) ∧ W.rowIs w.heap.size 25 2 (two (.slice bo d.nb cb) (.slice po d.np cp)) ∧ W.rowIs (w.heap.size + 1) 51 256 (fun _ => .int .i64 0) ∧ Below w.heap.size w W)
    ?bears ?puts ?putsx ⟨r2, r0, r1, hF4⟩
    (fun args => { tmps := #[.agg #[.slice bo d.nb cb, .slice po d.np cp], .pointer (some ⟨w.heap.size, 0, none⟩), .pointer (some ⟨w.heap.size + 1, 0, none⟩), .pointer (some ⟨w.heap.size + 1 + 1, 0, none⟩), args.getD 0 undef, args.getD 1 undef, undef, undef, .agg #[.slice bo d.nb cb, .slice po d.np cp], .func (.func 30) #[] #[.pointer (some ⟨Ba, 0, none⟩)], args.getD 0 undef, args.getD 1 undef, undef, undef, undef, undef, undef, undef, undef, undef, undef, undef, undef, undef, undef, undef, undef, undef], defers := [] }) ?assign ?body ?done ?stop
  case bears =>
    rintro k W W' ⟨h1, h2, h3, h4⟩ f
    exact ⟨h1.of_block (f.block _ h1.lt), h2.of_block (f.block _ h2.lt), h3.of_block (f.block _ h3.lt), fresh_trans h4 f⟩
  case puts =>
    rintro k W l o o' hl hW hc ⟨h1, h2, h3, h4⟩
    exact ⟨row_put hW hc h1, row_put hW hc h2, row_put hW hc h3, below_put hW (by omega) h4⟩
  case putsx =>
    rintro id k W l o o' hl hW hc ⟨e, h1, h2, h3, h4⟩
    exact ⟨e, row_put hW hc h1, row_put hW hc h2, row_put hW hc h3, below_put hW (by omega) h4⟩
  case assign =>
    rintro l k args W K ⟨u, rfl, hP⟩ hK
    gi_wp2
    exact hK
  case body =>
    rintro l k args W hk ⟨h1, h2, h3, h4⟩ ⟨u, rfl, hP⟩
    obtain ⟨y0, y1⟩ := row2 h2
    simp only [show (#[Value.int .i64 (k : Int), u] : Array Value).getD 0 undef = .int .i64 (k : Int) from rfl, show (#[Value.int .i64 (k : Int), u] : Array Value).getD 1 undef = u from rfl]
    by_cases hbig : d.nb < k
    · have HX : Hid (W.rowIs (w.heap.size + 1 + 1) 51 256 (fun b => .int .i64 (d.btk (d.nb + 1) b))) := h1.congr (fun b _ => by
        obtain ⟨j, rfl⟩ : ∃ j, k = d.nb + 1 + j := ⟨k - d.nb - 1, by omega⟩
        rw [d.btk_ge])
      clear hit h1
      gi_wp2
      exact ⟨KeepsOthers.refl _, rfl, HX.out, h2, h3, h4⟩
    · by_cases hk0 : k = 0
      · subst hk0
        rw [d.pc_zero] at hP
        obtain ⟨g, c, rfl, _⟩ := hP
        have HX : Hid (W.rowIs (w.heap.size + 1 + 1) 51 256 (fun b => .int .i64 (d.btk (0 + 1) b))) := h1.congr (fun b _ => by
          show _ = Value.int .i64 (if 1 ≤ 0 ∧ _ then _ else _)
          rw [if_neg (by omega)])
        clear hit h1
        gi_wp2
        refine wpIn_loop_rounds 1 ?_
        rw [roundsIn_succ]
        gi_wp2
        exact ⟨KeepsOthers.refl _, KpS.refl _ _ _, HX.out, h2, h3, h4⟩
      · obtain ⟨i, rfl⟩ : ∃ i, k = i + 1 := ⟨k - 1, by omega⟩
        have hi : i < d.nb := by omega
        rw [d.pc_base hi] at hP
        obtain ⟨g, c, rfl, _, _, h5⟩ := hP
        obtain ⟨b, rfl, _, _, hcs⟩ := h5 (by simp)
        have c5 := hcs 0 (by simp)
        obtain ⟨β, eB⟩ : ∃ β : Nat, d.B i = (β : Int) := ⟨(d.B i).toNat, by have := (hB i hi).1; omega⟩
        have hβ : β < 256 := by have := (hB i hi).2; omega
        have EB := hidd eB
        simp only [List.getD_cons_zero, eB] at c5
        have i1 : (0 : Int) ≤ (β : Int) := Int.natCast_nonneg _
        have i2 : (β : Int) < 256 := by omega
        have fa := h1.frozen
        have ca := h1.cell (i := β) hβ
        have HX : Hid ((W.setCell ⟨w.heap.size + 1 + 1, β, none⟩ (.int .i64 ((i : Int) + 1))).rowIs (w.heap.size + 1 + 1) 51 256 (fun b => .int .i64 (d.btk (i + 1 + 1) b))) := (h1.set β _).congr (fun b _ => by
          show _ = Value.int .i64 (if 1 ≤ i + 1 ∧ i + 1 ≤ d.nb ∧ d.B (i + 1 - 1) = (b : Int) then _ else _)
          by_cases e : b = β
          · rw [if_pos e, if_pos ⟨by omega, by omega, by rw [show i + 1 - 1 = i by omega, EB.out, e]⟩]; rfl
          · rw [if_neg e, if_neg (fun h => e (by have := h.2.2; rw [show i + 1 - 1 = i by omega, EB.out] at this; omega))])
        have H2 := hidd (h2.setOther (a := ⟨w.heap.size + 1 + 1, β, none⟩) (by dsimp only; omega) (.int .i64 ((i : Int) + 1)))
        have H3 := hidd (h3.setOther (a := ⟨w.heap.size + 1 + 1, β, none⟩) (by dsimp only; omega) (.int .i64 ((i : Int) + 1)))
        have H4 := hidd (h4.setCell (p := ⟨w.heap.size + 1 + 1, β, none⟩) (by dsimp only; omega) (.int .i64 ((i : Int) + 1)))
        clear hit h1 h2 h3 h4 eB hcs h5
        gi_wp2
        refine wpIn_loop_rounds 2 ?_
        rw [roundsIn_succ]
        gi_wp2
        rw [roundsIn_succ]
        gi_wp2
        exact ⟨KeepsOthers.setCell _ _ _, ⟨by simp, fun b h1 h2 => Go.Deep.blk_setCell_other _ _ _ _ (by dsimp only; omega)⟩, HX.out, H2.out, H3.out, H4.out⟩
  case done =>
    rintro D W hD ⟨h1, h2, h3, h4⟩ hK
    obtain ⟨c1, hb1, hs1, hc1⟩ := h1
    obtain ⟨c0, hb0, hs0, _⟩ := h3
    have ho1 : c1.all (·.oneCell') = true := by
      rw [Array.all_eq_true_iff_forall_mem]
      intro x hx
      obtain ⟨i, hi, e⟩ := Array.mem_iff_getElem.1 hx
      have := hc1 i (by omega)
      rw [Array.getElem?_eq_getElem hi, e] at this
      cases this; rfl
    have hD1 : D ≠ w.heap.size + 1 := by omega
    have hK' : (W.setRow (w.heap.size + 1) c1).heap[D]? = some (.deferred (some [])) := (setRow_other _ _ _ _ hD1).trans hK
    have hB' : ((W.setRow (w.heap.size + 1) c1).putObj D (.deferred none)).heap[w.heap.size + 1]? = some (.cells c1 51 (0, 0)) := (put_other _ (Ne.symm hD1)).trans (setRow_heap _ _ _ _ _ _ hb0)
    have hf9 : Below w.heap.size w ((W.setRow (w.heap.size + 1) c1).putObj D (.deferred none)) := below_put hK' (by omega) (below_setRow' h4 (by omega) h4.size _)
    clear hit
    gi_wp2_with (first | refine in_load_row rfl 51 _ rfl (w.heap.size + 1 + 1) rfl 51 c1 (0, 0) _ hb1 Try.underlying51 rfl (by rw [hs1]; exact sizeA) ?_ | refine in_store_row rfl 51 _ _ rfl (w.heap.size + 1) c1 rfl rfl 51 c0 hb0 (by rw [hs1]; exact sizeA) (hs0.trans hs1.symm) ho1 ?_)
    refine ⟨by simp, .inl ⟨_, _, rfl, run_takeDeferred hK', ?_⟩⟩
    refine ⟨.agg c1, results_cell_row Try.results23 _ _ (w.heap.size + 1) 51 c1 (0, 0) _ rfl hB' Try.underlying51 rfl (by rw [hs1]; exact sizeA), c1, rfl, hs1, fun b hb => by rw [hc1 b hb, d.btk_ge], hf9⟩
  case stop =>
    rintro D id k W hD hk ⟨rfl, h1, h2, h3, h4⟩ hK
    obtain ⟨c1, hb1, hs1, hc1⟩ := h1
    obtain ⟨c0, hb0, hs0, _⟩ := h3
    have ho1 : c1.all (·.oneCell') = true := by
      rw [Array.all_eq_true_iff_forall_mem]
      intro x hx
      obtain ⟨i, hi, e⟩ := Array.mem_iff_getElem.1 hx
      have := hc1 i (by omega)
      rw [Array.getElem?_eq_getElem hi, e] at this
      cases this; rfl
    have hD1 : D ≠ w.heap.size + 1 := by omega
    have hK' : (W.setRow (w.heap.size + 1) c1).heap[D]? = some (.deferred (some [])) := (setRow_other _ _ _ _ hD1).trans hK
    have hB' : ((W.setRow (w.heap.size + 1) c1).putObj D (.deferred none)).heap[w.heap.size + 1]? = some (.cells c1 51 (0, 0)) := (put_other _ (Ne.symm hD1)).trans (setRow_heap _ _ _ _ _ _ hb0)
    have hf9 : Below w.heap.size w ((W.setRow (w.heap.size + 1) c1).putObj D (.deferred none)) := below_put hK' (by omega) (below_setRow' h4 (by omega) h4.size _)
    clear hit
    gi_wp2_with (first | refine in_load_row rfl 51 _ rfl (w.heap.size + 1 + 1) rfl 51 c1 (0, 0) _ hb1 Try.underlying51 rfl (by rw [hs1]; exact sizeA) ?_ | refine in_store_row rfl 51 _ _ rfl (w.heap.size + 1) c1 rfl rfl 51 c0 hb0 (by rw [hs1]; exact sizeA) (hs0.trans hs1.symm) ho1 ?_)
    refine ⟨by simp, .inl ⟨_, _, rfl, run_takeDeferred hK', ?_⟩⟩
    refine ⟨.agg c1, results_cell_row Try.results23 _ _ (w.heap.size + 1) 51 c1 (0, 0) _ rfl hB' Try.underlying51 rfl (by rw [hs1]; exact sizeA), c1, rfl, hs1, hc1, hf9⟩
end Go.Proofs.Yteiocgciblogdab
