import Derived.Test.YtdceahebkohbjabScE
namespace Go.Proofs.Ytdceahebkohbjab
open Go.RowKit
/-! room, wants. -/
theorem quiet_load_mid {P : Program} {o : Oper} {a : Act} {C : World → Prop} {K : Act → Prop} (ty : TypeId) (x : Operand) (ho : o.op = .load ty x) (b off : Nat) (hx : a.eval x = .pointer (some ⟨b, off, none⟩)) (cs : List Value) (d : TypeDesc) (hc : ∀ w, C w → w.rangeAt b off cs)
    (hu : P.underlying ty = some d) (hd : d.isRow = true) (hi : (P.info? ty).map (·.size) = some cs.length) (hk : K (a.put o.dst (.agg cs.toArray))) : o.quiet P a C K :=
  ⟨_, fun w hw => by
    unfold Oper.quietAt execOp
    simp only [ho, hx, Sem.run_bind, Sem.run_pure, Result.andThen_ok, run_loadAt_mid w b off ty cs d (hc w hw) hu hd hi]
    exact ⟨rfl, rfl⟩, hk⟩
theorem put_list (l : List Value) (ds : List Deferred) (d : Tmp) (v : Value) : Act.put { tmps := l.toArray, defers := ds } (some d) v = { tmps := (l.set d v).toArray, defers := ds } := by simp [Act.put]
theorem size16 : (Try.prog.info? 51).map (·.size) = some 16 := by kernel_rfl
theorem IsO.size {A : Array Value} {out : Nat → Bool} (h : IsO A out) : (Try.prog.info? 51).map (·.size) = some A.toList.length := by
  rw [size16]
  have := h.1
  simp [this]
theorem IsO.one {A : Array Value} {out : Nat → Bool} (h : IsO A out) : A.all (·.oneCell') = true := by
  rw [Array.all_eq_true_iff_forall_mem]
  intro v hv
  obtain ⟨i, hi, e⟩ := Array.mem_iff_getElem.1 hv
  have h2 := h.2 i (by have := h.1; omega)
  rw [Array.getElem?_eq_getElem hi, e] at h2
  cases h2
  rfl
theorem row_range {w : World} {b n : Nat} {t : TypeId} {f : Nat → Value} (h : w.rowIs b t n f) {A : Array Value} (ha : A.size ≤ n) (hf : ∀ i, i < A.size → A[i]? = some (f i)) : w.rangeAt b 0 A.toList := by
  intro j v hj
  have hjs : j < A.size := by
    have := (List.getElem?_eq_some_iff.1 hj).1
    simpa using this
  rw [Nat.zero_add, h.cell (by omega)]
  have := hf j hjs
  rw [Array.getElem?_toList] at hj
  rw [← this, hj]
theorem fre_bd {c : Me} {L : Nat → Se} {n : Nat} {g : Int} {out : Nat → Bool} (hc : okM c 1) (h0 : 0 ≤ g) (h1 : g ≤ 1000000) : -1000256 ≤ fre c L n g out ∧ fre c L n g out ≤ 256 := by
  unfold fre
  have := cnt_le (hs L n out) 256
  have := hc.2.2.1
  have := hc.2.2.2.1
  omega
theorem mul_bd {x b : Int} (h1 : -1000256 ≤ x) (h2 : x ≤ 1000) (h3 : 1 ≤ b) (h4 : b ≤ 16) : -16004096 ≤ x * b ∧ x * b ≤ 16000 := by
  have u1 : x * b ≤ 1000 * b := Int.mul_le_mul_of_nonneg_right h2 (by omega)
  have u2 : -1000256 * b ≤ x * b := Int.mul_le_mul_of_nonneg_right h1 (by omega)
  omega
set_option maxRecDepth 100000 in
set_option maxHeartbeats 1600000 in
theorem room_any {w : World} {b : Nat} {c : Me} {u : Option Addr} {n cp : Nat} {out0 : Nat → Bool} {left given : Int} {vO vZ : Value} {L : Nat → Se}
    (hD : DkA w b c (.slice u n cp) out0 left given vO vZ) (hS : SeA w u n cp L) (hn : n ≤ 16) (hc : okM c 1) (hk : ∀ i, i < n → okS c (L i)) (hg0 : 0 ≤ given) (hg1 : given ≤ 1000000) {A : Array Value} {out : Nat → Bool} (hA : IsO A out) {p : Nat} (hp : p < n) :
    Calls Try.prog 43 #[.pointer (some ⟨b, 0, none⟩), .int .i64 p, .agg A] w fun e w' => e = .returned (.int .i64 (rom c L n given p out)) ∧ Below w.heap.size w w' := by
  have HD := hidd hD
  have HS := hidd hS
  have HA := hidd hA
  have HFR : Hid (∀ z, Below w.heap.size w z → Calls Try.prog 54 #[.pointer (some ⟨b, 0, none⟩), .agg A] z fun e w' => e = .returned (.int .i64 (fre c L n given out)) ∧ Below z.heap.size z w') := fun z hz => free_any (hD.fresh hz) (hS.fresh hz) hn hc (fun i hi => (hk i hi).2.2.2.2.2) hg0 hg1 hA
  have hfb := fre_bd (L := L) (n := n) (out := out) hc hg0 hg1
  have hkp := hk p hp
  have hle := okB_le hkp.2.2.2.2.2 hc.2.2.2.1 hc.2.2.1
  obtain ⟨fr, HF0⟩ : ∃ x, Hid (x = fre c L n given out) := ⟨_, rfl⟩
  have HRM : Hid (rom c L n given p out = (((L p).hn : Int) + fr) * c.bl - (L p).ca) := by unfold rom; rw [HF0.out]; rfl
  rw [← HF0.out] at hfb HFR
  obtain ⟨hn0, HHN⟩ : ∃ y, Hid (y = (L p).hn) := ⟨_, rfl⟩
  obtain ⟨hc0, HHC⟩ : ∃ y, Hid (y = (L p).hc) := ⟨_, rfl⟩
  obtain ⟨hoo, HHO⟩ : ∃ y, Hid (y = (L p).ho) := ⟨_, rfl⟩
  obtain ⟨ca, HCA⟩ : ∃ y, Hid (y = (L p).ca) := ⟨_, rfl⟩
  obtain ⟨bl, HBL⟩ : ∃ y, Hid (y = c.bl) := ⟨_, rfl⟩
  have a1 : 0 ≤ ca := by rw [HCA.out]; exact hkp.2.2.1
  have a2 : ca ≤ 64 := by rw [HCA.out]; have := hkp.2.2.2.1; have := hkp.2.1; omega
  have a3 : (hn0 : Int) ≤ 256 := by rw [HHN.out]; have := hc.2.2.2.1; omega
  have a4 : 1 ≤ bl := by rw [HBL.out]; exact hc.2.2.2.2.1
  have a5 : bl ≤ 16 := by rw [HBL.out]; exact hc.2.2.2.2.2.1
  rw [← HHN.out, ← HCA.out, ← HBL.out] at HRM
  obtain ⟨X, hX⟩ : ∃ X, (hn0 : Int) + fr = X := ⟨_, rfl⟩
  obtain ⟨pr, hpr⟩ : ∃ pr, X * bl = pr := ⟨_, rfl⟩
  have hb := mul_bd (x := X) (b := bl) (by omega) (by omega) a4 a5
  rw [hpr] at hb
  obtain ⟨p1, p2⟩ := hb
  have x1 : -1000256 ≤ X := by omega
  have x2 : X ≤ 1000 := by omega
  rw [hX, hpr] at HRM
  obtain ⟨b1, o1, hu, hcell⟩ := hS.rd.seat (by omega)
  subst hu
  obtain ⟨q1, q2, q3, q4, q5⟩ := hcell p hp
  rw [← HHN.out, ← HHC.out, ← HHO.out] at q5
  rw [← HCA.out] at q3
  have k1 : (p : Int) < (n : Int) := by omega
  have dc := hD.cells
  have c1 := dc.c1
  have c5 := dc.c5
  rw [← HBL.out] at c1
  obtain ⟨w0, HW0⟩ : ∃ w0, Hid (w0 = w.alloc (.cells A 51)) := ⟨_, rfl⟩
  have HB0 : Hid (Below w.heap.size w w0) := by rw [HW0.out]; exact fresh_alloc _ _
  have HR0 : Hid (w0.rowIs w.heap.size 51 16 (fun i => .bool (out i))) := by
    have := World.rowIs_alloc w A 51 (fun i => .bool (out i)) (fun i hi => hA.2 i (by rw [hA.1] at hi; exact hi))
    rw [hA.1, ← HW0.out] at this
    exact this
  have hs0 : w0.heap.size = w.heap.size + 1 := by rw [HW0.out]; simp
  replace q1 := fresh_cell HB0.out q1
  replace q2 := fresh_cell HB0.out q2
  replace q3 := fresh_cell HB0.out q3
  replace q4 := fresh_cell HB0.out q4
  replace q5 := fresh_cell HB0.out q5
  replace c1 := fresh_cell HB0.out c1
  replace c5 := fresh_cell HB0.out c5
  obtain ⟨y0, HY0⟩ : ∃ y, Hid (y = (L p).id) := ⟨_, rfl⟩
  obtain ⟨y1, HY1⟩ : ∃ y, Hid (y = (L p).kn) := ⟨_, rfl⟩
  obtain ⟨y3, HY3⟩ : ∃ y, Hid (y = (L p).wa) := ⟨_, rfl⟩
  rw [← HY0.out] at q1
  rw [← HY1.out] at q2
  rw [← HY3.out] at q4
  obtain ⟨w1, HW1⟩ : ∃ w1, Hid (w1 = w0.alloc (.cells #[.int .i64 y0, .int .i64 y1, .int .i64 ca, .int .i64 y3, .slice hoo hn0 hc0] 32)) := ⟨_, rfl⟩
  have HB1 : Hid (Below w0.heap.size w0 w1) := by rw [HW1.out]; exact fresh_alloc _ _
  have hbx := box5 w0 (.int .i64 y0) (.int .i64 y1) (.int .i64 ca) (.int .i64 y3) (.slice hoo hn0 hc0) 32
  simp only at hbx
  rw [← HW1.out] at hbx
  obtain ⟨_, _, e3, _, e5⟩ := hbx
  have HRG : Hid (w1.rangeAt w.heap.size 0 A.toList) := row_range (HR0.out.of_block (HB1.out.block _ HR0.out.lt)) (by rw [hA.1]; exact Nat.le_refl _) (fun i hi => hA.2 i (by rw [hA.1] at hi; exact hi))
  have SL := hidd hA.size
  have HBW := hidd (HB0.out.trans (HB1.out.mono HB0.out.size))
  have d1 := later_cell (fresh_cell HB1.out c1)
  rw [hs0] at e3 e5
  have d3 := later_cell e3
  have d5 := later_cell e5
  have ne := later_some w1
  clear dc hD hS hA hkp hk hle hfb hcell e3 e5
  go_enter Try.func43, Try.ntmps43
  go_upto_region 1 with fail
  rw [← HW0.out]
  go_upto_region 2 with fail
  rw [← HW1.out]
  try rw [hs0]
  refine wp_region_later (by kernel_rfl) (by kernel_rfl) ?_
  iterate 4 (go_big_quiet_step (fail))
  refine Go.BigFrame.wpQuiet_want (by rfl) (fun K9 hK9 => ?_)
  refine quiet_load_mid 51 _ rfl w.heap.size 0 rfl A.toList _ (fun w9 hw9 => by obtain ⟨z9, rfl⟩ := hw9; exact fun j v h => fresh_cell z9.fresh (HRG.out j v h)) Try.underlying51 rfl SL.out (hK9 _ ?_)
  rw [put_list]
  simp only [List.set_cons_succ, List.set_cons_zero]
  go_big_quiet_step (exact later_of (HFR.out _ (HBW.out.trans ((Later.fresh _).mono HBW.out.size))))
  repeat (go_big_quiet_step (fail))
  refine wpQuiet_nil ?_
  rintro _ ⟨z, rfl⟩
  have HZ := hidd (HBW.out.trans (z.fresh.mono HBW.out.size))
  go_wp2
  go_ret
  exact ⟨ret_int HRM.out.symm, HZ.out⟩
end Go.Proofs.Ytdceahebkohbjab
