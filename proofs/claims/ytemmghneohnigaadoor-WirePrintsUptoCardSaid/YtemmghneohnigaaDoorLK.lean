import Derived.Test.YtemmghneohnigaaDoorWvG
import Derived.Test.YtemmghneohnigaaDoorVA
import Derived.Test.YtemmghneohnigaaDoorWvI
import Derived.Test.YtemmghneohnigaaDoorWvR
import Derived.Laws.OwnMore
import Derived.Test.YtemmghneohnigaaDoorVT
namespace Go.Proofs.YtemmghneohnigaaDoor
open Go.RowKit
/-! kept: a given line is as it was. -/
theorem sizeRl7 : (Tryd.prog.info? 35).map (·.size) = some 7 := by kernel_rfl
theorem own_at {w : World} {base : Nat} {e : TypeId} {g c n : Nat} {cs : Nat → Value} (h : Own w base e 1 (.slice (some ⟨g, 0, none⟩) n c) n cs) {j : Nat} (hj : j < n) : w.cell? ⟨g, j, none⟩ = some (cs j) := by
  obtain ⟨b, off, e1, hc⟩ := h.rdaW.at_ (by omega)
  injection e1 with e1
  injection e1 with e2 e3
  subst e2 e3
  have := hc j (by omega)
  simpa using this
set_option maxRecDepth 20000 in
set_option maxHeartbeats 8000000 in
theorem kept_any {w : World} {t nums : List Int} {st : List (List Int)} {wd gd : ByteArray} {n sd : Int} {ao bo co : Option Addr} {ac bc cc g1 c1 g2 c2 g3 c3 b1 b2 b3 : Nat} (hr : RdA w ao 1 t.length ac (byc t)) (hn : RdA w bo 1 nums.length bc (fun j => .int .i64 (nums.getD j 0))) (hs : RdA w co 1 st.length cc (stc st)) (htl : t.length ≤ 1048576) (hnl : nums.length ≤ 1048576) (hsl : st.length ≤ 1048576)
    (o1 : Own w b1 5 1 (.slice (some ⟨g1, 0, none⟩) (t.length + 64) c1) (t.length + 64) (mkB t)) (o2 : Own w b2 3 1 (.slice (some ⟨g2, 0, none⟩) (nums.length + 64) c2) (nums.length + 64) (mkI nums)) (o3 : Own w b3 9 1 (.slice (some ⟨g3, 0, none⟩) (st.length + 64) c3) (st.length + 64) (mkS st)) :
    Calls Tryd.prog 20 #[.agg (lnA wd n (some ⟨g1, 0, none⟩) t.length c1 (some ⟨g2, 0, none⟩) nums.length c2 sd gd (some ⟨g3, 0, none⟩) st.length c3), .agg (lnA wd n ao t.length ac bo nums.length bc sd gd co st.length cc)] w fun e w' => e = .returned (.bool true) ∧ Below w.heap.size w w' := by
  have r1 := o1.short (m := t.length) (by omega)
  have r2 := o2.short (m := nums.length) (by omega)
  have r3 := o3.short (m := st.length) (by omega)
  have l1 := o1.rdaW.le
  have m1 := o1.rdaW.top
  have l2 := o2.rdaW.le
  have m2 := o2.rdaW.top
  have l3 := o3.rdaW.le
  have m3 := o3.rdaW.top
  unfold maxLen at m1 m2 m3
  have HEQ := hidd (fun (w1 : World) (f1 : Below w.heap.size w w1) => eqLines_same (wd := wd) (gd := gd) (n := n) (sd := sd) (f := fun i => t.getD i 0) (h := fun i => nums.getD i 0) (s := fun i => strOfNums (st.getD i [])) ((r1.congr (fun j hj => mkBt t (by omega))).fresh f1) (hr.fresh f1) ((r2.congr (fun j hj => mkI_lt (by omega))).fresh f1) (hn.fresh f1) ((r3.congr (fun j hj => mkS_lt (by omega))).fresh f1) (hs.fresh f1))
  have HC1 : Hid (∀ j, j < 64 → w.cell? ⟨g1, t.length + j, none⟩ = some (.int .u8 77)) := fun j hj => by rw [own_at o1 (by omega), mkBg]
  have HC2 : Hid (∀ j, j < 64 → w.cell? ⟨g2, nums.length + j, none⟩ = some (.int .i64 77)) := fun j hj => by rw [own_at o2 (by omega), mkI_ge]
  have HC3 : Hid (∀ j, j < 64 → w.cell? ⟨g3, st.length + j, none⟩ = some (.string ⟨#[109, 97, 114, 107]⟩)) := fun j hj => by rw [own_at o3 (by omega), mkS_ge]
  obtain ⟨a, EA⟩ : ∃ a, Hid (a = t.length) := ⟨_, rfl⟩
  obtain ⟨b, EB⟩ : ∃ b, Hid (b = nums.length) := ⟨_, rfl⟩
  obtain ⟨c, EC⟩ : ∃ c, Hid (c = st.length) := ⟨_, rfl⟩
  simp only [← EA.out, ← EB.out, ← EC.out] at HEQ HC1 HC2 HC3 l1 l2 l3 htl hnl hsl ⊢
  clear hr hn hs o1 o2 o3 r1 r2 r3
  have HB1 := hidd ((Blk.new w 38 (lnA wd n (some ⟨g1, 0, none⟩) a c1 (some ⟨g2, 0, none⟩) b c2 sd gd (some ⟨g3, 0, none⟩) c c3)).fresh (fresh_alloc _ (.cells (lnA wd n ao a ac bo b bc sd gd co c cc) 35)))
  have HB2 : Hid (Blk ((w.alloc (.cells (lnA wd n (some ⟨g1, 0, none⟩) a c1 (some ⟨g2, 0, none⟩) b c2 sd gd (some ⟨g3, 0, none⟩) c c3) 38)).alloc (.cells (lnA wd n ao a ac bo b bc sd gd co c cc) 35)) (w.heap.size + 1) 35 (lnA wd n ao a ac bo b bc sd gd co c cc)) := by
    have := Blk.new (w.alloc (.cells (lnA wd n (some ⟨g1, 0, none⟩) a c1 (some ⟨g2, 0, none⟩) b c2 sd gd (some ⟨g3, 0, none⟩) c c3) 38)) 35 (lnA wd n ao a ac bo b bc sd gd co c cc)
    have e : (w.alloc (.cells (lnA wd n (some ⟨g1, 0, none⟩) a c1 (some ⟨g2, 0, none⟩) b c2 sd gd (some ⟨g3, 0, none⟩) c c3) 38)).heap.size = w.heap.size + 1 := by simp
    rw [e] at this
    exact this
  have HF := hidd (fresh_trans (fresh_alloc w (.cells (lnA wd n (some ⟨g1, 0, none⟩) a c1 (some ⟨g2, 0, none⟩) b c2 sd gd (some ⟨g3, 0, none⟩) c c3) 38)) (fresh_alloc _ (.cells (lnA wd n ao a ac bo b bc sd gd co c cc) 35)))
  go_enter Tryd.func20, Tryd.ntmps20
  go_upto_region 1 with fail
  generalize (w.alloc (.cells (lnA wd n (some ⟨g1, 0, none⟩) a c1 (some ⟨g2, 0, none⟩) b c2 sd gd (some ⟨g3, 0, none⟩) c c3) 38)).alloc (.cells (lnA wd n ao a ac bo b bc sd gd co c cc) 35) = w1 at *
  have HSZ := hidd HF.out.size
  obtain ⟨A, eA⟩ : ∃ A, A = w.heap.size := ⟨_, rfl⟩
  obtain ⟨B, eB⟩ : ∃ B, B = w.heap.size + 1 := ⟨_, rfl⟩
  rw [← eB] at HB2 ⊢
  rw [← eA] at HB1 ⊢
  clear eA eB HSZ
  have x2 := HB1.out.cell 2
  have x3 := HB1.out.cell 3
  have x6 := HB1.out.cell 6
  have y2 := HB2.out.cell 2
  have y3 := HB2.out.cell 3
  have y6 := HB2.out.cell 6
  simp at x2 x3 x6 y2 y3 y6
  have q1 : ((a : Int) + 64) ≤ (c1 : Int) := by omega
  have q2 : ((b : Int) + 64) ≤ (c2 : Int) := by omega
  have q3 : ((c : Int) + 64) ≤ (c3 : Int) := by omega
  go_wp2
  clear x2 x3 x6 q1 q2 q3
  go_loopw [8] (fun i wr => ∃ j : Nat, j ≤ 64 ∧ i = .int .i64 (j : Int) ∧ wr = w1) (fun i _ => 64 - (intOf i).toNat)
  case atStart => exact ⟨0, by omega, rfl, rfl⟩
  case round =>
    obtain ⟨j, hj, rfl, rfl⟩ := hrel
    by_cases hlt : j < 64
    · have k1 := fresh_cell HF.out (HC1.out j hlt)
      have k2 := fresh_cell HF.out (HC2.out j hlt)
      have k3 := fresh_cell HF.out (HC3.out j hlt)
      have j1 : (j : Int) < 64 := by omega
      have i0 : (0 : Int) ≤ (a : Int) + (j : Int) := by omega
      have i1 : (a : Int) + (j : Int) < (a : Int) + 64 := by omega
      have i2 : (0 : Int) ≤ (b : Int) + (j : Int) := by omega
      have i3 : (b : Int) + (j : Int) < (b : Int) + 64 := by omega
      have i4 : (0 : Int) ≤ (c : Int) + (j : Int) := by omega
      have i5 : (c : Int) + (j : Int) < (c : Int) + 64 := by omega
      go_wp2
      go_roundw
      case rel => exact ⟨j + 1, by omega, by go_num, trivial⟩
      case measure => simp [intOf]; omega
    · obtain rfl : j = 64 := by omega
      have SLX : Hid ((Tryd.prog.info? 38).map (·.size) = some (lnA wd n (some ⟨g1, 0, none⟩) a c1 (some ⟨g2, 0, none⟩) b c2 sd gd (some ⟨g3, 0, none⟩) c c3).size) := sizeLn7
      have SLY : Hid ((Tryd.prog.info? 35).map (·.size) = some (lnA wd n ao a ac bo b bc sd gd co c cc).size) := sizeRl7
      have HC := hidd (HEQ.out _ HF.out)
      go_wp2_with (first | refine wpList_load_row rfl 38 _ rfl A rfl 38 _ (0, 0) _ HB1.out Tryd.underlying38 rfl SLX.out ?_ | refine wpList_load_row rfl 35 _ rfl B rfl 35 _ (0, 0) _ HB2.out Tryd.underlying35 rfl SLY.out ?_ | (go_at_call 17; with_reducible refine (HC.out).mono ?_; rintro e w5 ⟨rfl, f5⟩))
      go_ret
      exact ⟨rfl, fresh_trans HF.out f5⟩
end Go.Proofs.YtemmghneohnigaaDoor
namespace Go.Proofs.YtemmghneohnigaaDoor
open Go.RowKit
/-! WirePrints, the law. -/
theorem Own.put {w : World} {base : Nat} {e : TypeId} {sz g cap n : Nat} {cs : Nat → Value} (h : Own w base e sz (.slice (some ⟨g, 0, none⟩) n cap) n cs) (j : Nat) (x : Value) : Own (w.setCell ⟨g, j, none⟩ x) base e sz (.slice (some ⟨g, 0, none⟩) n cap) n (fun i => if i = j then x else cs i) := by
  have := (World.ownsRow.stored h j x).1
  unfold Own
  have e1 : (List.range (n * sz)).map (fun i => if i = j then x else cs i) = ((List.range (n * sz)).map cs).set j x := by
    refine List.ext_getElem? (fun i => ?_)
    rw [List.getElem?_set]
    by_cases hi : i < n * sz
    · by_cases e : j = i
      · subst e
        simp [hi]
      · rw [if_neg e]
        simp [hi]
        exact fun q => absurd q.symm e
    · simp [hi]
      omega
  rw [e1]
  exact this
theorem run_append_zero {P : Program} (w : World) (t ty e : TypeId) (ht : P.underlying t = some (.slice e)) {i : TypeInfo} (hi : P.info? e = some i) (ao u : Option Addr) (n cap k : Nat) (hle : n ≤ cap) :
    (Builtin.append_ #[t, t] ty #[.slice ao n cap, .slice u 0 k]).run P w = .ok (.slice ao n cap) w := by
  have hF : ∀ w, (Builtin.firstCells i.size 0 (.slice u 0 k)).run P w = .ok #[] w := fun w => by
    cases u with
    | none => exact run_firstCells_none w i.size 0 0 k
    | some a => exact run_firstCells_some w i.size 0 a 0 k [] (by simp) (by simp)
  cases ao with
  | none => cases u <;> simp [Builtin.append_, run_underlying ht, sizeOf, typeInfo, hi, Builtin.lenOf, hle, hF]
  | some a => cases u <;> simp [Builtin.append_, run_underlying ht, sizeOf, typeInfo, hi, Builtin.lenOf, hle, hF, storeCells]
theorem wpList_app0 {P : Program} (w : World) {ops : Array Oper} {rest : List Oper} {o : Oper} {a : Act} {Q : Exit → Act → World → Prop}
    (hg : o.guard = none) (s x : Operand) (t e : TypeId) (hop : o.op = Op.call { callee := Callee.builtin Builtin.append, args := #[s, x], argTypes := #[t, t] })
    (h1 : P.underlying t = some (.slice e)) {i : TypeInfo} (hi : P.info? e = some i) (ao u : Option Addr) (n cap k : Nat) (hs : a.eval s = .slice ao n cap) (hx : a.eval x = .slice u 0 k) (hle : n ≤ cap)
    (hK : wpList P ops Q rest (a.put o.dst (.slice ao n cap)) w) : wpList P ops Q (o :: rest) a w := by
  refine wpList_plain hg fun K hK' => ?_
  have hr := run_append_zero (P := P) w t o.type e h1 hi ao u n cap k hle
  unfold Oper.wp execOp
  simp only [hop, resolve, invoke, builtin, Sem.run_bind, Sem.run_pure, Result.andThen_ok, List.map_toArray, List.map_cons, List.map_nil, hs, hx, hr]
  exact hK' _ _ hK
/-- both lines' boxes and the three lists -/
structure Pq (w0 : World) (B X : Nat) (LB LX : Array Value) (g1 tm c1 g2 nm c2 g3 sm c3 : Nat) (f1 f2 f3 : Nat → Value) (w : World) : Prop where
  bl : Blk w B 35 LB
  bx : Blk w X 38 LX
  o1 : Own w w0.heap.size 5 1 (.slice (some ⟨g1, 0, none⟩) (tm + 64) c1) (tm + 64) f1
  o2 : Own w w0.heap.size 3 1 (.slice (some ⟨g2, 0, none⟩) (nm + 64) c2) (nm + 64) f2
  o3 : Own w w0.heap.size 9 1 (.slice (some ⟨g3, 0, none⟩) (sm + 64) c3) (sm + 64) f3
  low : Below w0.heap.size w0 w
section
variable {w0 : World} {B X : Nat} {LB LX : Array Value} {g1 tm c1 g2 nm c2 g3 sm c3 : Nat} {f1 f2 f3 : Nat → Value} {w w' : World}
theorem own_frz {w : World} {base : Nat} {e : TypeId} {g c n : Nat} {cs : Nat → Value} (h : Own w base e 1 (.slice (some ⟨g, 0, none⟩) n c) n cs) (j : Nat) : w.frozen? ⟨g, j, none⟩ = false := by
  rcases h.2 with ⟨e4, _⟩ | ⟨g', cap', cur, e4, hb, hgg, _⟩
  · cases e4
  · injection e4 with e5 _ e6
    injection e5 with e5
    injection e5 with e7 e8
    subst e7
    simp [World.frozen?, hgg]
theorem Pq.frz1 (h : Pq w0 B X LB LX g1 tm c1 g2 nm c2 g3 sm c3 f1 f2 f3 w) (j : Nat) : w.frozen? ⟨g1, j, none⟩ = false := own_frz h.o1 j
theorem Pq.frz2 (h : Pq w0 B X LB LX g1 tm c1 g2 nm c2 g3 sm c3 f1 f2 f3 w) (j : Nat) : w.frozen? ⟨g2, j, none⟩ = false := own_frz h.o2 j
theorem Pq.frz3 (h : Pq w0 B X LB LX g1 tm c1 g2 nm c2 g3 sm c3 f1 f2 f3 w) (j : Nat) : w.frozen? ⟨g3, j, none⟩ = false := own_frz h.o3 j
theorem Pq.fresh (h : Pq w0 B X LB LX g1 tm c1 g2 nm c2 g3 sm c3 f1 f2 f3 w) (f : Below w.heap.size w w') : Pq w0 B X LB LX g1 tm c1 g2 nm c2 g3 sm c3 f1 f2 f3 w' :=
  ⟨h.bl.fresh f, h.bx.fresh f, h.o1.kept f, h.o2.kept f, h.o3.kept f, fresh_trans h.low f⟩
theorem own_ge {w : World} {base : Nat} {e : TypeId} {g c n : Nat} {cs : Nat → Value} (h : Own w base e 1 (.slice (some ⟨g, 0, none⟩) n c) n cs) : base ≤ g := (h.lt g rfl).1
theorem Pq.setM (h : Pq w0 B X LB LX g1 tm c1 g2 nm c2 g3 sm c3 f1 f2 f3 w) {M : Nat} {cs : Array Value} (hm : Blk w M 35 cs) (hB : B ≠ M) (hw : w0.heap.size ≤ M) (j : Nat) (v : Value) : Pq w0 B X LB LX g1 tm c1 g2 nm c2 g3 sm c3 f1 f2 f3 (w.setCell ⟨M, j, none⟩ v) := by
  have c := Chg.of_set w M j v
  have hX : X ≠ M := fun e => by
    subst e
    have h1 := h.bx
    unfold Blk at h1 hm
    rw [h1] at hm
    injection hm with hm
    injection hm with _ h3
    exact absurd h3 (by decide)
  exact ⟨h.bl.chg c hB, h.bx.chg c hX, h.o1.chg c (fun x hx e => by subst e; exact h.o1.off_blk hm (by decide) hx), h.o2.chg c (fun x hx e => by subst e; exact h.o2.off_blk hm (by decide) hx), h.o3.chg c (fun x hx e => by subst e; exact h.o3.off_blk hm (by decide) hx), c.below h.low h.low.size (fun x hx => by rw [hx]; exact hw)⟩
theorem infoSS : ∃ i, Tryd.prog.info? 9 = some i := by
  have h := infoT
  cases e : Tryd.prog.info? 9 with
  | none => rw [e] at h; cases h
  | some i => exact ⟨i, rfl⟩
theorem Pq.put1 (h : Pq w0 B X LB LX g1 tm c1 g2 nm c2 g3 sm c3 f1 f2 f3 w) (j : Nat) (v : Value) (_ : j < tm + 64) : Pq w0 B X LB LX g1 tm c1 g2 nm c2 g3 sm c3 (fun i => if i = j then v else f1 i) f2 f3 (w.setCell ⟨g1, j, none⟩ v) := by
  have cs := Chg.of_set w g1 j v
  exact ⟨h.bl.chg cs (fun e => by subst e; exact h.o1.off_blk h.bl (by decide) rfl), h.bx.chg cs (fun e => by subst e; exact h.o1.off_blk h.bx (by decide) rfl), h.o1.put j v, h.o2.chg cs (fun x hx e => by subst e; exact h.o1.unlike h.o2 (by decide) x rfl hx), h.o3.chg cs (fun x hx e => by subst e; exact h.o1.unlike h.o3 (by decide) x rfl hx), cs.below h.low h.low.size (fun x hx => by rw [hx]; exact own_ge h.o1)⟩
theorem Pq.congr1 {f' : Nat → Value} (h : Pq w0 B X LB LX g1 tm c1 g2 nm c2 g3 sm c3 f1 f2 f3 w) (e : ∀ k, k < tm + 64 → f1 k = f' k) : Pq w0 B X LB LX g1 tm c1 g2 nm c2 g3 sm c3 f' f2 f3 w :=
  ⟨h.bl, h.bx, h.o1.congr (fun k hk => e k (by omega)), h.o2, h.o3, h.low⟩
theorem Pq.put2 (h : Pq w0 B X LB LX g1 tm c1 g2 nm c2 g3 sm c3 f1 f2 f3 w) (j : Nat) (v : Value) (_ : j < nm + 64) : Pq w0 B X LB LX g1 tm c1 g2 nm c2 g3 sm c3 f1 (fun i => if i = j then v else f2 i) f3 (w.setCell ⟨g2, j, none⟩ v) := by
  have cs := Chg.of_set w g2 j v
  exact ⟨h.bl.chg cs (fun e => by subst e; exact h.o2.off_blk h.bl (by decide) rfl), h.bx.chg cs (fun e => by subst e; exact h.o2.off_blk h.bx (by decide) rfl), h.o1.chg cs (fun x hx e => by subst e; exact h.o2.unlike h.o1 (by decide) x rfl hx), h.o2.put j v, h.o3.chg cs (fun x hx e => by subst e; exact h.o2.unlike h.o3 (by decide) x rfl hx), cs.below h.low h.low.size (fun x hx => by rw [hx]; exact own_ge h.o2)⟩
theorem Pq.congr2 {f' : Nat → Value} (h : Pq w0 B X LB LX g1 tm c1 g2 nm c2 g3 sm c3 f1 f2 f3 w) (e : ∀ k, k < nm + 64 → f2 k = f' k) : Pq w0 B X LB LX g1 tm c1 g2 nm c2 g3 sm c3 f1 f' f3 w :=
  ⟨h.bl, h.bx, h.o1, h.o2.congr (fun k hk => e k (by omega)), h.o3, h.low⟩
theorem Pq.put3 (h : Pq w0 B X LB LX g1 tm c1 g2 nm c2 g3 sm c3 f1 f2 f3 w) (j : Nat) (v : Value) (_ : j < sm + 64) : Pq w0 B X LB LX g1 tm c1 g2 nm c2 g3 sm c3 f1 f2 (fun i => if i = j then v else f3 i) (w.setCell ⟨g3, j, none⟩ v) := by
  have cs := Chg.of_set w g3 j v
  exact ⟨h.bl.chg cs (fun e => by subst e; exact h.o3.off_blk h.bl (by decide) rfl), h.bx.chg cs (fun e => by subst e; exact h.o3.off_blk h.bx (by decide) rfl), h.o1.chg cs (fun x hx e => by subst e; exact h.o3.unlike h.o1 (by decide) x rfl hx), h.o2.chg cs (fun x hx e => by subst e; exact h.o3.unlike h.o2 (by decide) x rfl hx), h.o3.put j v, cs.below h.low h.low.size (fun x hx => by rw [hx]; exact own_ge h.o3)⟩
theorem Pq.congr3 {f' : Nat → Value} (h : Pq w0 B X LB LX g1 tm c1 g2 nm c2 g3 sm c3 f1 f2 f3 w) (e : ∀ k, k < sm + 64 → f3 k = f' k) : Pq w0 B X LB LX g1 tm c1 g2 nm c2 g3 sm c3 f1 f2 f' w :=
  ⟨h.bl, h.bx, h.o1, h.o2, h.o3.congr (fun k hk => e k (by omega)), h.low⟩
end
/-- what is written over the lists -/
def xb (c : Int) : Int := bits .xor .u8 c 1
def up1 (t : List Int) (j i : Nat) : Value := if i < j then .int .u8 (xb (t.getD i 0)) else mkB t i
def up2 (l : List Int) (j i : Nat) : Value := if i < j then .int .i64 ((l.getD i 0).tdiv 2) else mkI l i
def up3 (l : List (List Int)) (j i : Nat) : Value := if i < j then .string (strOfNums (l.getD i [] ++ [120])) else mkS l i
theorem up1_at {t : List Int} {j : Nat} (h : j < t.length) : up1 t j j = .int .u8 (t.getD j 0) := by unfold up1; rw [if_neg (by omega), mkBt t h]; rfl
theorem up2_at {t : List Int} {j : Nat} (h : j < t.length) : up2 t j j = .int .i64 (t.getD j 0) := by unfold up2; rw [if_neg (by omega), mkI_lt h]
theorem up3_at {t : List (List Int)} {j : Nat} (h : j < t.length) : up3 t j j = .string (strOfNums (t.getD j [])) := by unfold up3; rw [if_neg (by omega), mkS_lt h]; rfl
theorem up1_next (t : List Int) (j k : Nat) : (if k = j then Value.int .u8 (xb (t.getD j 0)) else up1 t j k) = up1 t (j + 1) k := by
  unfold up1
  by_cases e : k = j
  · subst e; rw [if_pos rfl, if_pos (by omega)]
  · rw [if_neg e]
    by_cases h : k < j
    · rw [if_pos h, if_pos (by omega)]
    · rw [if_neg h, if_neg (by omega)]
theorem up2_next (t : List Int) (j k : Nat) : (if k = j then Value.int .i64 ((t.getD j 0).tdiv 2) else up2 t j k) = up2 t (j + 1) k := by
  unfold up2
  by_cases e : k = j
  · subst e; rw [if_pos rfl, if_pos (by omega)]
  · rw [if_neg e]
    by_cases h : k < j
    · rw [if_pos h, if_pos (by omega)]
    · rw [if_neg h, if_neg (by omega)]
theorem up3_next (t : List (List Int)) (j k : Nat) : (if k = j then Value.string (strOfNums (t.getD j [] ++ [120])) else up3 t j k) = up3 t (j + 1) k := by
  unfold up3
  by_cases e : k = j
  · subst e; rw [if_pos rfl, if_pos (by omega)]
  · rw [if_neg e]
    by_cases h : k < j
    · rw [if_pos h, if_pos (by omega)]
    · rw [if_neg h, if_neg (by omega)]
theorem up1_0 (t : List Int) : up1 t 0 = mkB t := by funext i; unfold up1; rw [if_neg (by omega)]
theorem up2_0 (t : List Int) : up2 t 0 = mkI t := by funext i; unfold up2; rw [if_neg (by omega)]
theorem up3_0 (t : List (List Int)) : up3 t 0 = mkS t := by funext i; unfold up3; rw [if_neg (by omega)]
theorem up1_end {t : List Int} {i : Nat} (h : i < t.length) : up1 t t.length i = byc (t.map xb) i := by
  unfold up1 byc; rw [if_pos h]; simp [List.getD_eq_getElem?_getD, h]
theorem up2_end {t : List Int} {i : Nat} (h : i < t.length) : up2 t t.length i = .int .i64 ((t.map (fun x => x.tdiv 2)).getD i 0) := by
  unfold up2; rw [if_pos h]; simp [List.getD_eq_getElem?_getD, h]
theorem up3_end {t : List (List Int)} {i : Nat} (h : i < t.length) : up3 t t.length i = stc (t.map (fun x => x ++ [120])) i := by
  unfold up3 stc; rw [if_pos h]; simp [List.getD_eq_getElem?_getD, h]
theorem xb_byt {t : List Int} (h : Byt t) : Byt (t.map xb) := fun x hx => by
  obtain ⟨c, hc, rfl⟩ := List.mem_map.1 hx
  have hb := h c hc
  unfold xb
  obtain ⟨k, rfl⟩ := Int.eq_ofNat_of_zero_le hb.1
  rw [show (1 : Int) = ((1 : Nat) : Int) from rfl, u8_xor_nat k 1 (by omega) (by omega)]
  have : k ^^^ 1 < 2 ^ 8 := Nat.xor_lt_two_pow (by omega) (by omega)
  omega
theorem half_range {l : List Int} (h : ∀ x ∈ l, -9223372036854775808 ≤ x ∧ x ≤ 9223372036854775807) : ∀ x ∈ l.map (fun x => x.tdiv 2), -9223372036854775808 ≤ x ∧ x ≤ 9223372036854775807 := fun x hx => by
  obtain ⟨c, hc, rfl⟩ := List.mem_map.1 hx
  have hb := h c hc
  show -9223372036854775808 ≤ c.tdiv 2 ∧ c.tdiv 2 ≤ 9223372036854775807
  rcases Int.le_total 0 c with h0 | h0
  · rw [Int.tdiv_eq_ediv_of_nonneg h0]; omega
  · obtain ⟨d, rfl⟩ : ∃ d : Int, c = -d := ⟨-c, by omega⟩
    rw [Int.neg_tdiv, Int.tdiv_eq_ediv_of_nonneg (by omega)]
    omega
theorem own_emptyW (w : World) (t : TypeId) (sz : Nat) (cs : Nat → Value) : Own (w.alloc (.cells #[] t)) w.heap.size t sz (.slice (some ⟨w.heap.size, 0, none⟩) 0 0) 0 cs := by
  refine ⟨by simp, .inr ⟨w.heap.size, 0, #[], rfl, Nat.le_refl _, ?_, Nat.le_refl _, by simp [maxLen], by simp, by simp⟩⟩
  exact Blk.new w t #[]
/-- a line has one answer -/
theorem PrA.det (wl : List Int) (n : Int) (nums : List Int) (u : Nat) (g t : List Int) (st : List (List Int)) : ∃ (x : ByteArray) (c : Int), ∀ e, PrA wl n nums u g t st e → e = .returned (.tuple #[.string x, .int .i64 c]) := by
  by_cases h : ∃ x, LineP wl n nums u g t st x
  · obtain ⟨x, hx⟩ := h
    refine ⟨strOfNums x, 0, fun e he => ?_⟩
    rcases he with ⟨y, hy, rfl⟩ | ⟨hy, _⟩
    · rw [LineP.one hy hx]
    · exact absurd ⟨x, hx⟩ hy
  · refine ⟨⟨#[]⟩, 220, fun e he => ?_⟩
    rcases he with ⟨y, hy, _⟩ | ⟨_, rfl⟩
    · exact absurd ⟨y, hy⟩ h
    · rfl
theorem pr_fix {f : FuncId} {args : Array Value} {w : World} {wl : List Int} {n : Int} {nums : List Int} {u : Nat} {g t : List Int} {st : List (List Int)} {x : ByteArray} {c : Int} (hd : ∀ e, PrA wl n nums u g t st e → e = .returned (.tuple #[.string x, .int .i64 c])) (h : Calls Tryd.prog f args w fun e w' => PrA wl n nums u g t st e ∧ Below w.heap.size w w') : Calls Tryd.prog f args w fun e w' => e = .returned (.tuple #[.string x, .int .i64 c]) ∧ Below w.heap.size w w' := h.mono (fun e _ h => ⟨hd e h.1, h.2⟩)
theorem str_x (a : List Int) : strOfNums a ++ ⟨#[120]⟩ = strOfNums (a ++ [120]) := by
  rw [show (⟨#[120]⟩ : ByteArray) = strOfNums [120] from rfl, str_app]
set_option maxRecDepth 20000 in
set_option maxHeartbeats 8000000 in
theorem prints_law {w : World} {wl : List Int} (hwB : Byt wl) {n : Int} {t g nums : List Int} {u : Nat} {st : List (List Int)} {ao bo co : Option Addr} {ac bc cc : Nat} (hg : Byt g) (hgl : g.length ≤ 1048576) (ht : Byt t) (htl : t.length ≤ 1048576) (hst : ∀ s ∈ st, Byt s ∧ s.length ≤ 1048576) (hsl : st.length ≤ 1048576) (hnl : nums.length ≤ 1048576) (hu64 : u < 18446744073709551616) (hni : -9223372036854775808 ≤ n ∧ n ≤ 9223372036854775807) (hnr : ∀ x ∈ nums, -9223372036854775808 ≤ x ∧ x ≤ 9223372036854775807) (hE : Env w)
    (hr : RdA w ao 1 t.length ac (byc t)) (hn : RdA w bo 1 nums.length bc (fun j => .int .i64 (nums.getD j 0))) (hs : RdA w co 1 st.length cc (stc st)) :
    Calls Tryd.prog 7 #[.agg (lnA (strOfNums wl) n ao t.length ac bo nums.length bc (u : Int) (strOfNums g) co st.length cc)] w fun e w' => e = .returned (.bool true) ∧ Below w.heap.size w w' := by
  have hst2 : ∀ s ∈ st.map (fun x => x ++ [120]), Byt s ∧ s.length ≤ 2097152 := fun s hs => by
    obtain ⟨c, hc, rfl⟩ := List.mem_map.1 hs
    refine ⟨(hst c hc).1.app (byt_cons (by omega) byt_nil), ?_⟩
    have := (hst c hc).2
    simp
    omega
  obtain ⟨x1, k1, HD1⟩ := PrA.det wl n nums u g t st
  obtain ⟨x2, k2, HD2⟩ := PrA.det wl n (nums.map (fun x => x.tdiv 2)) u g (t.map xb) (st.map (fun x => x ++ [120]))
  have HWK := hidd (fun (w1 : World) (f1 : Below w.heap.size w w1) => works_any (hE.fresh f1))
  have HGV := hidd (fun (w1 : World) (f1 : Below w.heap.size w w1) => given_any (w := w1) (wd := strOfNums wl) (gd := strOfNums g) (n := n) (sd := (u : Int)) (hr.fresh f1) (hn.fresh f1) (hs.fresh f1) htl hnl hsl)
  have HPR := hidd (fun (w1 : World) (f1 : Below w.heap.size w w1) g1 c1 g2 c2 g3 c3 (h1 : RdA w1 (some ⟨g1, 0, none⟩) 1 t.length c1 (byc t)) (h2 : RdA w1 (some ⟨g2, 0, none⟩) 1 nums.length c2 (fun j => .int .i64 (nums.getD j 0))) (h3 : RdA w1 (some ⟨g3, 0, none⟩) 1 st.length c3 (stc st)) => pr_fix HD1 (print_any hwB (n := n) hg (by omega) ht (by omega) (fun s hs => ⟨(hst s hs).1, by have := (hst s hs).2; omega⟩) (by omega) hu64 hnr (hE.fresh f1) h1 h2 h3))
  have HRP := hidd (fun (w1 : World) (f1 : Below w.heap.size w w1) => pr_fix HD1 (rprint_any hwB (n := n) hg (by omega) ht (by omega) (fun s hs => ⟨(hst s hs).1, by have := (hst s hs).2; omega⟩) hsl hu64 hni hnr (hr.fresh f1) (hn.fresh f1) (hs.fresh f1)))
  have HPR2 := hidd (fun (w1 : World) (f1 : Below w.heap.size w w1) g1 c1 g2 c2 g3 c3 (h1 : RdA w1 (some ⟨g1, 0, none⟩) 1 (t.map xb).length c1 (byc (t.map xb))) (h2 : RdA w1 (some ⟨g2, 0, none⟩) 1 (nums.map (fun x => x.tdiv 2)).length c2 (fun j => .int .i64 ((nums.map (fun x => x.tdiv 2)).getD j 0))) (h3 : RdA w1 (some ⟨g3, 0, none⟩) 1 (st.map (fun x => x ++ [120])).length c3 (stc (st.map (fun x => x ++ [120])))) => pr_fix HD2 (print_any hwB (n := n) hg (by omega) (xb_byt ht) (by simp; omega) (fun s hs => ⟨(hst2 s hs).1, by have := (hst2 s hs).2; omega⟩) (by simp; omega) hu64 (half_range hnr) (hE.fresh f1) h1 h2 h3))
  have HRP2 := hidd (fun (w1 : World) a1 c1 a2 c2 a3 c3 (h1 : RdA w1 a1 1 (t.map xb).length c1 (byc (t.map xb))) (h2 : RdA w1 a2 1 (nums.map (fun x => x.tdiv 2)).length c2 (fun j => .int .i64 ((nums.map (fun x => x.tdiv 2)).getD j 0))) (h3 : RdA w1 a3 1 (st.map (fun x => x ++ [120])).length c3 (stc (st.map (fun x => x ++ [120])))) => pr_fix HD2 (rprint_any hwB (n := n) hg (by omega) (xb_byt ht) (by simp; omega) hst2 (by simp; omega) hu64 hni (half_range hnr) h1 h2 h3))
  simp only [List.length_map] at HPR2 HRP2
  clear HD1 HD2
  have HKP := hidd (fun (w1 : World) (f1 : Below w.heap.size w w1) g1 c1 g2 c2 g3 c3 b1 b2 b3 o1 o2 o3 => kept_any (wd := strOfNums wl) (gd := strOfNums g) (n := n) (sd := (u : Int)) (hr.fresh f1) (hn.fresh f1) (hs.fresh f1) htl hnl hsl (g1 := g1) (c1 := c1) (g2 := g2) (c2 := c2) (g3 := g3) (c3 := c3) (b1 := b1) (b2 := b2) (b3 := b3) o1 o2 o3)
  have E1 := hidd (fun i (h : i < t.length) => up1_end h)
  have E2 := hidd (fun i (h : i < nums.length) => up2_end h)
  have E3 := hidd (fun i (h : i < st.length) => up3_end h)
  have A1 := hidd (fun i (h : i < t.length) => up1_at h)
  have A2 := hidd (fun i (h : i < nums.length) => up2_at h)
  have A3 := hidd (fun i (h : i < st.length) => up3_at h)
  have Z3 : Hid (∀ i, i < st.length → (strOfNums (st.getD i [])).size ≤ 1048576) := fun i hi => by
    rw [strOfNums_size]
    have := (hst (st.getD i []) (by rw [List.getD_eq_getElem?_getD, List.getElem?_eq_getElem hi]; exact List.getElem_mem _)).2
    omega
  have R2 : Hid (∀ i, i < nums.length → IntKind.i64.wrap ((nums.getD i 0).tdiv 2) = (nums.getD i 0).tdiv 2) := fun i hi => by
    have h9 := half_range hnr ((nums.getD i 0).tdiv 2) (List.mem_map.2 ⟨nums.getD i 0, by rw [List.getD_eq_getElem?_getD, List.getElem?_eq_getElem hi]; exact List.getElem_mem _, rfl⟩)
    rw [IntKind.wrap_i64]
    omega
  have hcl : cc ≤ maxLen := hs.top
  have hS3 : (lnA (strOfNums wl) n ao t.length ac bo nums.length bc (u : Int) (strOfNums g) co st.length cc).size = 7 := rfl
  clear hS3 hcl
  obtain ⟨sw, ESW⟩ : ∃ sw, Hid (sw = strOfNums wl) := ⟨_, rfl⟩
  obtain ⟨gd, EGD⟩ : ∃ gd, Hid (gd = strOfNums g) := ⟨_, rfl⟩
  obtain ⟨tm, ETM⟩ : ∃ tm, Hid (tm = t.length) := ⟨_, rfl⟩
  obtain ⟨nm, ENM⟩ : ∃ nm, Hid (nm = nums.length) := ⟨_, rfl⟩
  obtain ⟨sm, ESM⟩ : ∃ sm, Hid (sm = st.length) := ⟨_, rfl⟩
  simp only [← ESW.out, ← EGD.out, ← ETM.out, ← ENM.out, ← ESM.out] at HWK HGV HPR HRP HPR2 HRP2 HKP E1 E2 E3 A1 A2 A3 Z3 R2 htl hnl hsl ⊢
  clear hr hn hs hst hst2 hnr hwB hg ht hu64 hni hE hgl
  have HBX0 := hidd (Blk.new w 35 (lnA sw n ao tm ac bo nm bc (u : Int) gd co sm cc))
  have HFB := hidd (fresh_alloc w (.cells (lnA sw n ao tm ac bo nm bc (u : Int) gd co sm cc) 35))
  have SLR : Hid ((Tryd.prog.info? 35).map (·.size) = some (lnA sw n ao tm ac bo nm bc (u : Int) gd co sm cc).size) := sizeRl7
  go_enter Tryd.func7, Tryd.ntmps7
  go_upto_region 1 with fail
  generalize w.alloc (.cells (lnA sw n ao tm ac bo nm bc (u : Int) gd co sm cc) 35) = w1 at *
  obtain ⟨B, eB⟩ : ∃ B, B = w.heap.size := ⟨_, rfl⟩
  have EB := hidd eB
  rw [← eB] at HBX0 ⊢
  clear eB
  have HCW := hidd (HWK.out _ HFB.out)
  go_upto_region 2 with (go_at_call 8; with_reducible refine (HCW.out).mono ?_; rintro e w2 ⟨rfl, f2⟩)
  have HF2 := hidd (fresh_trans HFB.out f2)
  have HB2 := hidd (HBX0.out.fresh f2)
  clear f2 HWK HBX0 HFB HCW
  have HC := hidd (HGV.out _ HF2.out)
  go_upto_region 3 with (first | refine wpList_load_row rfl 35 _ rfl B rfl 35 _ (0, 0) _ HB2.out Tryd.underlying35 rfl SLR.out ?_ | (go_at_call 15; with_reducible refine (HC.out).mono ?_; rintro e w3 ⟨g1, c1, g2, c2, g3, c3, rfl, og1, og2, og3, f3⟩))
  have fx := fresh_alloc w3 (.cells (lnA sw n (some ⟨g1, 0, none⟩) tm c1 (some ⟨g2, 0, none⟩) nm c2 (u : Int) gd (some ⟨g3, 0, none⟩) sm c3) 38)
  have hbX := Blk.new w3 38 (lnA sw n (some ⟨g1, 0, none⟩) tm c1 (some ⟨g2, 0, none⟩) nm c2 (u : Int) gd (some ⟨g3, 0, none⟩) sm c3)
  have HP0 : Hid (Pq w B w3.heap.size (lnA sw n ao tm ac bo nm bc (u : Int) gd co sm cc) (lnA sw n (some ⟨g1, 0, none⟩) tm c1 (some ⟨g2, 0, none⟩) nm c2 (u : Int) gd (some ⟨g3, 0, none⟩) sm c3) g1 tm c1 g2 nm c2 g3 sm c3 (mkB t) (mkI nums) (mkS st) (w3.alloc (.cells (lnA sw n (some ⟨g1, 0, none⟩) tm c1 (some ⟨g2, 0, none⟩) nm c2 (u : Int) gd (some ⟨g3, 0, none⟩) sm c3) 38))) :=
    ⟨HB2.out.fresh (fresh_trans f3 fx), hbX, (og1.kept fx).weaken HF2.out.size, (og2.kept fx).weaken HF2.out.size, (og3.kept fx).weaken HF2.out.size, fresh_trans HF2.out (fresh_trans f3 fx)⟩
  clear og1 og2 og3 f3 fx hbX HC HGV HF2 HB2
  generalize w3.alloc (.cells (lnA sw n (some ⟨g1, 0, none⟩) tm c1 (some ⟨g2, 0, none⟩) nm c2 (u : Int) gd (some ⟨g3, 0, none⟩) sm c3) 38) = w4 at *
  obtain ⟨X, eX⟩ : ∃ X, X = w3.heap.size := ⟨_, rfl⟩
  rw [← eX] at HP0 ⊢
  clear eX
  have SLX : Hid ((Tryd.prog.info? 38).map (·.size) = some (lnA sw n (some ⟨g1, 0, none⟩) tm c1 (some ⟨g2, 0, none⟩) nm c2 (u : Int) gd (some ⟨g3, 0, none⟩) sm c3).size) := sizeLn7
  have HC1 := hidd (HPR.out _ HP0.out.low g1 c1 g2 c2 g3 c3 (given_rd HP0.out.o1 (fun j hj => mkBt t (by rw [← ETM.out]; exact hj))) (given_rd HP0.out.o2 (fun j hj => mkI_lt (by rw [← ENM.out]; exact hj))) (given_rd HP0.out.o3 (fun j hj => mkS_lt (by rw [← ESM.out]; exact hj))))
  go_upto_region 4 with (first | refine wpList_load_row rfl 38 _ rfl X rfl 38 _ (0, 0) _ HP0.out.bx Tryd.underlying38 rfl SLX.out ?_ | (go_at_call 14; with_reducible refine (HC1.out).mono ?_; rintro e w5 ⟨rfl, f5⟩))
  have HP5 := hidd (HP0.out.fresh f5)
  clear f5 HP0 HC1 HPR
  have HC1 := hidd (HRP.out _ HP5.out.low)
  go_upto_region 5 with (first | refine wpList_load_row rfl 35 _ rfl B rfl 35 _ (0, 0) _ HP5.out.bl Tryd.underlying35 rfl SLR.out ?_ | (go_at_call 19; with_reducible refine (HC1.out).mono ?_; rintro e w6 ⟨rfl, f6⟩))
  have HP6 := hidd (HP5.out.fresh f6)
  clear f6 HP5 HC1 HRP
  have HC1 := hidd (HKP.out _ HP6.out.low g1 c1 g2 c2 g3 c3 _ _ _ HP6.out.o1 HP6.out.o2 HP6.out.o3)
  go_upto_region 6 with (first | refine wpList_load_row rfl 38 _ rfl X rfl 38 _ (0, 0) _ HP6.out.bx Tryd.underlying38 rfl SLX.out ?_ | refine wpList_load_row rfl 35 _ rfl B rfl 35 _ (0, 0) _ HP6.out.bl Tryd.underlying35 rfl SLR.out ?_ | (go_at_call 20; with_reducible refine (HC1.out).mono ?_; rintro e w7 ⟨rfl, f7⟩))
  have hp7 := HP6.out.fresh f7
  rw [← up1_0, ← up2_0, ← up3_0] at hp7
  have HP := hidd hp7
  clear f7 HP6 HC1 HKP hp7
  go_wp2
  go_loopw [10] (fun i wr => ∃ j : Nat, j ≤ tm ∧ i = .int .i64 (j : Int) ∧ Hid (Pq w B X (lnA sw n ao tm ac bo nm bc (u : Int) gd co sm cc) (lnA sw n (some ⟨g1, 0, none⟩) tm c1 (some ⟨g2, 0, none⟩) nm c2 (u : Int) gd (some ⟨g3, 0, none⟩) sm c3) g1 tm c1 g2 nm c2 g3 sm c3 (up1 t j) (up2 nums 0) (up3 st 0) wr)) (fun i _ => tm - (intOf i).toNat)
  case atStart => exact ⟨0, by omega, rfl, HP.out⟩
  case round =>
  clear HP
  obtain ⟨j, hj, rfl, hP⟩ := hrel
  have y2 := hP.out.bx.cell 2
  simp at y2
  by_cases hlt : j < tm
  · have j1 : (j : Int) < (tm : Int) := by omega
    have j0 : (0 : Int) ≤ (j : Int) := Int.natCast_nonneg _
    have k1 := own_at hP.out.o1 (show j < tm + 64 by omega)
    have k2 := hP.out.frz1 j
    rw [A1.out j hlt] at k1
    have HN := hidd (hP.out.put1 j (.int .u8 (xb (t.getD j 0))) (show j < tm + 64 by omega))
    unfold xb at HN
    go_wp2
    go_region
    have HN2 := hidd (HN.out.fresh (Below.refl _ _).drew)
    go_wp2
    go_roundw
    case rel => exact ⟨j + 1, by omega, by go_num, HN2.out.congr1 (fun k hk => up1_next t j k)⟩
    case measure => simp [intOf]; omega
  · obtain rfl : tm = j := by omega
    have HP := hidd hP.out
    clear hP
    go_wp2
    clear y2
    go_loopw [11] (fun i wr => ∃ j : Nat, j ≤ nm ∧ i = .int .i64 (j : Int) ∧ Hid (Pq w B X (lnA sw n ao tm ac bo nm bc (u : Int) gd co sm cc) (lnA sw n (some ⟨g1, 0, none⟩) tm c1 (some ⟨g2, 0, none⟩) nm c2 (u : Int) gd (some ⟨g3, 0, none⟩) sm c3) g1 tm c1 g2 nm c2 g3 sm c3 (up1 t tm) (up2 nums j) (up3 st 0) wr)) (fun i _ => nm - (intOf i).toNat)
    case atStart => exact ⟨0, by omega, rfl, HP.out⟩
    case round =>
    clear HP
    obtain ⟨j, hj, rfl, hP⟩ := hrel
    have y3 := hP.out.bx.cell 3
    simp at y3
    by_cases hlt : j < nm
    · have j1 : (j : Int) < (nm : Int) := by omega
      have j0 : (0 : Int) ≤ (j : Int) := Int.natCast_nonneg _
      have k1 := own_at hP.out.o2 (show j < nm + 64 by omega)
      have k2 := hP.out.frz2 j
      rw [A2.out j hlt] at k1
      have hw := R2.out j hlt
      have HN := hidd (hP.out.put2 j (.int .i64 ((nums.getD j 0).tdiv 2)) (show j < nm + 64 by omega))
      generalize hxj : nums.getD j 0 = xj at *
      have HXJ := hidd hxj
      clear hxj
      go_wp2
      go_region
      have HN2 := hidd (HN.out.fresh (Below.refl _ _).drew)
      go_wp2
      go_roundw
      case rel => exact ⟨j + 1, by omega, by go_num, HN2.out.congr2 (fun k hk => by rw [← HXJ.out]; exact up2_next nums j k)⟩
      case measure => simp [intOf]; omega
    · obtain rfl : nm = j := by omega
      have HP := hidd hP.out
      clear hP
      go_wp2
      clear y3
      go_loopw [12] (fun i wr => ∃ j : Nat, j ≤ sm ∧ i = .int .i64 (j : Int) ∧ Hid (Pq w B X (lnA sw n ao tm ac bo nm bc (u : Int) gd co sm cc) (lnA sw n (some ⟨g1, 0, none⟩) tm c1 (some ⟨g2, 0, none⟩) nm c2 (u : Int) gd (some ⟨g3, 0, none⟩) sm c3) g1 tm c1 g2 nm c2 g3 sm c3 (up1 t tm) (up2 nums nm) (up3 st j) wr)) (fun i _ => sm - (intOf i).toNat)
      case atStart => exact ⟨0, by omega, rfl, HP.out⟩
      case round =>
      clear HP
      obtain ⟨j, hj, rfl, hP⟩ := hrel
      have y6 := hP.out.bx.cell 6
      simp at y6
      by_cases hlt : j < sm
      · have j1 : (j : Int) < (sm : Int) := by omega
        have j0 : (0 : Int) ≤ (j : Int) := Int.natCast_nonneg _
        have k1 := own_at hP.out.o3 (show j < sm + 64 by omega)
        have k2 := hP.out.frz3 j
        rw [A3.out j hlt] at k1
        have hz := Z3.out j hlt
        have hz2 : (⟨#[120]⟩ : ByteArray).size = 1 := rfl
        have HN := hidd (hP.out.put3 j (.string (strOfNums (st.getD j []) ++ ⟨#[120]⟩)) (show j < sm + 64 by omega))
        generalize hsj : strOfNums (st.getD j []) = sj at *
        have HSJ := hidd hsj
        clear hsj
        go_wp2
        go_region
        have HN2 := hidd (HN.out.fresh (Below.refl _ _).drew)
        go_wp2
        go_roundw
        case rel => exact ⟨j + 1, by omega, by go_num, HN2.out.congr3 (fun k hk => by rw [← HSJ.out, str_x]; exact up3_next st j k)⟩
        case measure => simp [intOf]; omega
      · obtain rfl : sm = j := by omega
        have HP := hidd hP.out
        clear hP
        have r1 : RdA wr (some ⟨g1, 0, none⟩) 1 tm c1 (byc (t.map xb)) := given_rd HP.out.o1 (fun j hj => E1.out j hj)
        have r2 : RdA wr (some ⟨g2, 0, none⟩) 1 nm c2 (fun j => .int .i64 ((nums.map (fun x => x.tdiv 2)).getD j 0)) := given_rd HP.out.o2 (fun j hj => E2.out j hj)
        have r3 : RdA wr (some ⟨g3, 0, none⟩) 1 sm c3 (stc (st.map (fun x => x ++ [120]))) := given_rd HP.out.o3 (fun j hj => E3.out j hj)
        have HC1 := hidd (HPR2.out _ HP.out.low g1 c1 g2 c2 g3 c3 r1 r2 r3)
        clear r1 r2 r3
        go_upto_region 19 with (first | refine wpList_load_row rfl 38 _ rfl X rfl 38 _ (0, 0) _ HP.out.bx Tryd.underlying38 rfl SLX.out ?_ | (go_at_call 14; with_reducible refine (HC1.out).mono ?_; rintro e w8 ⟨rfl, f8⟩))
        have HP8 := hidd (HP.out.fresh f8)
        clear f8 HP HC1 HPR2
        go_upto_region 20 with (refine wpList_load_row rfl 35 _ rfl B rfl 35 _ (0, 0) _ HP8.out.bl Tryd.underlying35 rfl SLR.out ?_)
        have HP9 := hidd (HP8.out.fresh (fresh_alloc w8 (.cells (lnA sw n ao tm ac bo nm bc (u : Int) gd co sm cc) 35)))
        have HM9 := hidd (Blk.new w8 35 (lnA sw n ao tm ac bo nm bc (u : Int) gd co sm cc))
        have hBM : B ≠ w8.heap.size := by have := HP8.out.bl.lt; omega
        have hwM := HP8.out.low.size
        generalize w8.alloc (.cells (lnA sw n ao tm ac bo nm bc (u : Int) gd co sm cc) 35) = w9 at *
        obtain ⟨M, eM⟩ : ∃ M, M = w8.heap.size := ⟨_, rfl⟩
        rw [← eM] at HM9 hBM hwM ⊢
        clear eM HP8
        have z2 := HP9.out.bx.cell 2
        simp at z2
        have HC1 := hidd (copyB_any (w := w9) (f := fun j => (t.map xb).getD j 0) (given_rd HP9.out.o1 (fun j hj => E1.out j hj)) (by omega))
        go_upto_region 21 with (go_at_call 21; (with_reducible refine (HC1.out).mono ?_); rintro e w10 ⟨v10, rfl, o10, f10⟩; obtain ⟨aM, cM, rfl, _⟩ := o10.rd; have hm10 := HM9.out.fresh f10; have m2 := hm10.cell 2; have n2 := hm10.frozen 2; simp at m2)
        have cs10 := Chg.of_set w10 M 2 (.slice aM tm cM)
        have HM11 : Hid (Blk (w10.setCell ⟨M, 2, none⟩ (.slice aM tm cM)) M 35 (lnA sw n aM tm cM bo nm bc (u : Int) gd co sm cc)) := by have := hm10.put 2 (.slice aM tm cM); simp at this; exact this
        have HP11 := hidd ((HP9.out.fresh f10).setM hm10 hBM hwM 2 (.slice aM tm cM))
        have OA11 := hidd (o10.chg cs10 (fun x hx e => by subst e; exact o10.off_blk hm10 (by decide) hx))
        clear z2 HC1 o10 f10 hm10 m2 n2 cs10 HP9 HM9
        generalize w10.setCell ⟨M, 2, none⟩ (.slice aM tm cM) = w11 at *
        have z3 := HP11.out.bx.cell 3
        simp at z3
        have HC1 := hidd (copyI_any (w := w11) (f := fun j => (nums.map (fun x => x.tdiv 2)).getD j 0) (given_rd HP11.out.o2 (fun j hj => E2.out j hj)) (by omega))
        go_upto_region 22 with (go_at_call 22; (with_reducible refine (HC1.out).mono ?_); rintro e w12 ⟨v12, rfl, o12, f12⟩; obtain ⟨bM, dM, rfl, _⟩ := o12.rd; have hm12 := HM11.out.fresh f12; have m3 := hm12.cell 3; have n3 := hm12.frozen 3; simp at m3)
        have cs12 := Chg.of_set w12 M 3 (.slice bM nm dM)
        have HM13 : Hid (Blk (w12.setCell ⟨M, 3, none⟩ (.slice bM nm dM)) M 35 (lnA sw n aM tm cM bM nm dM (u : Int) gd co sm cc)) := by have := hm12.put 3 (.slice bM nm dM); simp at this; exact this
        have HP13 := hidd ((HP11.out.fresh f12).setM hm12 hBM hwM 3 (.slice bM nm dM))
        have OA13 := hidd ((OA11.out.kept f12).chg cs12 (fun x hx e => by subst e; exact (OA11.out.kept f12).off_blk hm12 (by decide) hx))
        have OB13 := hidd (o12.chg cs12 (fun x hx e => by subst e; exact o12.off_blk hm12 (by decide) hx))
        clear z3 HC1 o12 f12 hm12 m3 n3 cs12 HP11 HM11 OA11
        generalize w12.setCell ⟨M, 3, none⟩ (.slice bM nm dM) = w13 at *
        have fe := fresh_alloc w13 (.cells #[] 9)
        have HP14 := hidd (HP13.out.fresh fe)
        have HM14 := hidd (HM13.out.fresh fe)
        have OA14 := hidd (OA13.out.kept fe)
        have OB14 := hidd (OB13.out.kept fe)
        have OE := hidd (own_emptyW w13 9 1 (stc (st.map (fun x => x ++ [120]))))
        have z6 := HP14.out.bx.cell 6
        have m6 := HM14.out.cell 6
        have n6 := HM14.out.frozen 6
        simp at z6 m6
        have he1 : (x1.toList == x1.toList) = true := by simp
        have he2 : (x2.toList == x2.toList) = true := by simp
        by_cases hs0 : sm = 0
        · have HX : Hid (∀ wq : World, Below (w13.alloc (.cells #[] 9)).heap.size (w13.alloc (.cells #[] 9)) wq → True) := fun _ _ => trivial
          have HM15 : Hid (Blk ((w13.alloc (.cells #[] 9)).setCell ⟨M, 6, none⟩ (.slice (some ⟨w13.heap.size, 0, none⟩) 0 0)) M 35 (lnA sw n aM tm cM bM nm dM (u : Int) gd (some ⟨w13.heap.size, 0, none⟩) 0 0)) := by have := HM14.out.put 6 (.slice (some ⟨w13.heap.size, 0, none⟩) 0 0); simp at this; exact this
          have HF15 : Hid (Below w.heap.size w ((w13.alloc (.cells #[] 9)).setCell ⟨M, 6, none⟩ (.slice (some ⟨w13.heap.size, 0, none⟩) 0 0))) := (HP14.out.setM HM14.out hBM hwM 6 _).low
          have cs15 := Chg.of_set (w13.alloc (.cells #[] 9)) M 6 (.slice (some ⟨w13.heap.size, 0, none⟩) 0 0)
          have HR15 := hidd (HRP2.out ((w13.alloc (.cells #[] 9)).setCell ⟨M, 6, none⟩ (.slice (some ⟨w13.heap.size, 0, none⟩) 0 0)) aM cM bM dM (some ⟨w13.heap.size, 0, none⟩) 0 (OA14.out.chg cs15 (fun x hx e => by subst e; exact OA14.out.off_blk HM14.out (by decide) hx)).rdaW (OB14.out.chg cs15 (fun x hx e => by subst e; exact OB14.out.off_blk HM14.out (by decide) hx)).rdaW (by rw [hs0]; exact ⟨Nat.le_refl _, Nat.zero_le _, fun h => absurd h (by omega)⟩))
          subst hs0
          have SLM : Hid ((Tryd.prog.info? 35).map (·.size) = some (lnA sw n aM tm cM bM nm dM (u : Int) gd (some ⟨w13.heap.size, 0, none⟩) 0 0).size) := sizeRl7
          clear cs15 HX HP14 HM14 OA14 OB14 OE HP13 HM13 OA13 OB13 fe
          go_upto_region 23 with (at_builtin; refine wpList_app0 _ rfl _ _ 33 9 rfl Tryd.underlying33 infoSS.choose_spec _ _ 0 0 c3 rfl rfl (Nat.le_refl _) ?_)
          generalize (w13.alloc (.cells #[] 9)).setCell ⟨M, 6, none⟩ (.slice (some ⟨w13.heap.size, 0, none⟩) 0 0) = w15 at *
          go_wp2_with (first | refine wpList_load_row rfl 35 _ rfl M rfl 35 _ (0, 0) _ HM15.out Tryd.underlying35 rfl SLM.out ?_ | (go_at_call 19; with_reducible refine (HR15.out).mono ?_; rintro e w16 ⟨rfl, f16⟩))
          go_ret
          exact ⟨rfl, fresh_trans HF15.out f16⟩
        · have hsp : 0 < sm := by omega
          have HCL : Hid (∀ j, j < sm * 1 → (w13.alloc (.cells #[] 9)).cell? ⟨g3, j, none⟩ = some (stc (st.map (fun x => x ++ [120])) (0 * 1 + j))) := fun j hj => by rw [own_at HP14.out.o3 (by omega), E3.out j (by omega)]; simp
          have HON : Hid (∀ j, j < sm * 1 → (stc (st.map (fun x => x ++ [120])) (0 * 1 + j)).oneCell' = true) := fun j _ => rfl
          have hwz : w13.heap.size ≤ (w13.alloc (.cells #[] 9)).heap.size := fe.size
          have HFN : Hid (∀ v' w', Own w' w13.heap.size 9 1 v' (0 + sm) (stc (st.map (fun x => x ++ [120]))) → App (w13.alloc (.cells #[] 9)) w' (.slice (some ⟨w13.heap.size, 0, none⟩) 0 0) v' → ∃ vO vC, v' = .slice vO sm vC ∧ w'.cell? ⟨M, 6, none⟩ = some (.slice co sm cc) ∧ w'.frozen? ⟨M, 6, none⟩ = false ∧ Hid (Blk (w'.setCell ⟨M, 6, none⟩ (.slice vO sm vC)) M 35 (lnA sw n aM tm cM bM nm dM (u : Int) gd vO sm vC)) ∧ Hid (Below w.heap.size w (w'.setCell ⟨M, 6, none⟩ (.slice vO sm vC))) ∧ Hid (Calls Tryd.prog 19 #[.agg (lnA sw n aM tm cM bM nm dM (u : Int) gd vO sm vC)] (w'.setCell ⟨M, 6, none⟩ (.slice vO sm vC)) fun e w'' => e = .returned (.tuple #[.string x2, .int .i64 k2]) ∧ Below (w'.setCell ⟨M, 6, none⟩ (.slice vO sm vC)).heap.size (w'.setCell ⟨M, 6, none⟩ (.slice vO sm vC)) w'')) := fun v' w' o' p' => by
            rw [Nat.zero_add] at o'
            obtain ⟨vO, vC, rfl, _⟩ := o'.rd
            have ca := Chg.of_app p'
            have hm' := HM14.out.chg ca (OE.out.off_blk HM14.out (by decide))
            have hbB := HP14.out.bl.chg ca (OE.out.off_blk HP14.out.bl (by decide))
            have hlow : Below w.heap.size w w' := ca.below HP14.out.low HP14.out.low.size (fun x hx => by have := (OE.out.lt x hx).1; have := HP13.out.low.size; omega)
            have oa := p'.own OA14.out (OE.out.unlike OA14.out (by decide))
            have ob := p'.own OB14.out (OE.out.unlike OB14.out (by decide))
            have cs := Chg.of_set w' M 6 (.slice vO sm vC)
            refine ⟨vO, vC, rfl, by have := hm'.cell 6; simpa using this, hm'.frozen 6, by have := hm'.put 6 (.slice vO sm vC); simp at this; exact this, cs.below hlow hlow.size (fun x hx => by omega), HRP2.out _ aM cM bM dM vO vC (oa.chg cs (fun x hx e => by subst e; exact oa.off_blk hm' (by decide) hx)).rdaW (ob.chg cs (fun x hx e => by subst e; exact ob.off_blk hm' (by decide) hx)).rdaW (o'.chg cs (fun x hx e => by subst e; exact o'.off_blk hm' (by decide) hx)).rdaW⟩
          go_upto_region 23 with (at_builtin; refine wpList_app _ rfl _ _ 33 rfl w13.heap.size 9 (.string ⟨#[]⟩) 1 16 Tryd.underlying33 infoT rfl (by decide) _ 0 (stc (st.map (fun x => x ++ [120]))) rfl OE.out g3 sm c3 rfl HCL.out HON.out hsp (by unfold maxLen; omega) (by omega) hwz ?_; intro v14 w14 o14 p14; obtain ⟨vO, vC, rfl, u1, u2, U3, U4, U5⟩ := HFN.out v14 w14 o14 p14; clear o14 p14)
          have SLM : Hid ((Tryd.prog.info? 35).map (·.size) = some (lnA sw n aM tm cM bM nm dM (u : Int) gd vO sm vC).size) := sizeRl7
          clear HFN HCL HON HP14 HM14 OA14 OB14 OE HP13 HM13 OA13 OB13 fe u1 u2
          generalize w14.setCell ⟨M, 6, none⟩ (.slice vO sm vC) = w15 at *
          go_wp2_with (first | refine wpList_load_row rfl 35 _ rfl M rfl 35 _ (0, 0) _ U3.out Tryd.underlying35 rfl SLM.out ?_ | (go_at_call 19; with_reducible refine (U5.out).mono ?_; rintro e w16 ⟨rfl, f16⟩))
          go_ret
          exact ⟨rfl, fresh_trans U4.out f16⟩
end Go.Proofs.YtemmghneohnigaaDoor
namespace Go.Proofs.YtemmghneohnigaaDoor
open Go.ChangeShapes Go.WideShapes Go.ChangeAt Go.RowKit
/-! The law WirePrints, from what came in. -/
theorem line_id {H : Type} {enc : TypeId × Value → H} {w : World} {base : Nat} {sp : Nat → Bool} {held : Bool} {fuel : Nat} {cs : List Value} {x : DataW H × List MemPlace} (h : DataW.trod enc Tryd.prog w base sp held fuel 35 cs = some x) {n : Int} {c0 c2 c3 c4 c5 c6 : Value} (hcs : cs = [c0, .int .i64 n, c2, c3, c4, c5, c6]) : -9223372036854775808 ≤ n ∧ n ≤ 9223372036854775807 := by
  obtain ⟨ys, m, rfl, rfl, hl, hlen, hf⟩ := DataW.trod_struct Tryd.underlying35 h
  have e1 : DataW.trod enc Tryd.prog w base sp held m 3 ((cs.drop 1).take (Tryd.prog.cellsOf 3)) = ys[1]? := hf 1 _ rfl
  rw [ncI] at e1
  subst hcs
  replace e1 : DataW.trod enc Tryd.prog w base sp held m 3 [.int .i64 n] = ys[1]? := e1
  obtain ⟨y1, e1, _⟩ := some_of (show ys.length = 7 from hlen) (by decide) e1
  obtain ⟨n1, q1, _, w1⟩ := DataW.trod_int Tryd.underlying3 e1
  simp only [List.cons.injEq, and_true] at q1
  injection q1 with _ q2
  subst q2
  exact wf_i64 w1
set_option maxRecDepth 20000 in
theorem wirePrints_walk {H : Type} {enc : TypeId × Value → H} {base : Nat} {sp : Nat → Bool} {held : Bool} {r : Reach} {b0 : Nat} {v0 : Value} {d0 : DataW H} {ps0 : List MemPlace} (W : World) (hE : Env W)
    (hval0 : Value.okWide Tryd.prog W r b0 35 v0) (h0 : DataW.Trod enc Tryd.prog W base sp held 35 v0 d0 ps0)
    (hb : Rows.uptoBulkAll [d0] ≤ 1048576) :
    Calls Tryd.prog 7 #[v0] W fun e w' => e = .returned (.bool true) ∧ Below W.heap.size W w' := by
  obtain ⟨cs, rfl, _⟩ := okWide_struct Tryd.underlying35 hval0
  obtain ⟨fuel, hd⟩ := h0
  obtain ⟨wl, n, ao, t, ac, bo, nums, bc, u, g, co, st, cc, hcs, hwl, hr, ht, hn, hnr, hu, hg, hs, hsb, hsl, htl, hnl, hgl⟩ := open_line hd
  have hni := line_id hd hcs
  have hB : Rows.uptoBulk d0 ≤ 1048576 := Nat.le_trans (bulk_mem (by simp)) hb
  obtain rfl : cs = lnA (strOfNums wl) n ao t.length ac bo nums.length bc (u : Int) (strOfNums g) co st.length cc := Array.ext' hcs
  exact prints_law (n := n) hwl hg (Nat.le_trans hgl hB) ht (Nat.le_trans htl hB) (fun x hx => ⟨(hsb x hx).1, Nat.le_trans (hsb x hx).2 hB⟩) (Nat.le_trans hsl hB) (Nat.le_trans hnl hB) hu hni hnr hE hr hn hs
end Go.Proofs.YtemmghneohnigaaDoor
