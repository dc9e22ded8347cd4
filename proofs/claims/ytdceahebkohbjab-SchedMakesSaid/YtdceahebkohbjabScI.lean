import Derived.Test.YtdceahebkohbjabScH
import Derived.Lib.AppendZeros
namespace Go.Proofs.Ytdceahebkohbjab
open Go.RowKit
/-! makeRoom. -/
theorem heap_new1 (w : World) (c : Array Value) (t : TypeId) : (w.alloc (.cells c t)).heap[w.heap.size]? = some (.cells c t (0, 0)) := World.alloc_heap_new w _
/-- rows of other types stand -/
def Kp (w w' : World) : Prop := ∀ x t m f, w.rowIs x t m f → t ≠ 53 → t ≠ 3 → w'.rowIs x t m f
theorem type_apart {w : World} {x m m' : Nat} {t t' : TypeId} {f f' : Nat → Value} (h : w.rowIs x t m f) (k : w.rowIs x t' m' f') : t = t' := by
  obtain ⟨c1, e1, _⟩ := h
  obtain ⟨c2, e2, _⟩ := k
  rw [e1] at e2
  cases e2
  rfl
theorem Kp.of_below {w w' : World} (h : Below w.heap.size w w') : Kp w w' := fun _ _ _ _ hr _ _ => hr.of_block (h.block _ hr.lt)
theorem Kp.trans {a b c : World} (h : Kp a b) (k : Kp b c) : Kp a c := fun x t m f hr h1 h2 => k x t m f (h x t m f hr h1 h2) h1 h2
theorem Kp.of_chg {w w' : World} {b m : Nat} {f : Nat → Value} (h : Chg w w' (fun x => x = b)) (hb : w.rowIs b 53 m f) : Kp w w' := fun _ _ _ _ hr h1 _ => h.row hr (fun e => h1 (by subst e; exact type_apart hr hb))
theorem Kp.of_app {w w' : World} {v v' : Value} {base n : Nat} {cs : Nat → Value} (h : App w w' v v') (ho : Own w base 3 1 v n cs) : Kp w w' := fun _ _ _ _ hr _ h2 => h.row hr (ho.apart hr (fun e => h2 e.symm))
def MrP (W : World) (c : Me) (u : Option Addr) (n cp : Nat) (L : Nat → Se) (b : Nat) (st : Pn) (R : Option ((Nat → Bool) × List Nat)) (w : World) (e : Ending) (w' : World) : Prop :=
  w.heap.size ≤ w'.heap.size ∧ Kp w w' ∧ ((R = none ∧ e = .returned (.bool false) ∧ Dsk W c u n cp L b w' st) ∨ ∃ ot ids, R = some (ot, ids) ∧ e = .returned (.bool true) ∧ Dsk W c u n cp L b w' ⟨ot, st.left, st.given, st.O ++ ids, st.Z⟩)
set_option maxRecDepth 100000 in
set_option maxHeartbeats 4000000 in
theorem putOut_any {W w : World} {c : Me} {u : Option Addr} {n cp : Nat} {L : Nat → Se} {b : Nat} {st : Pn} (hS : ∀ z, Chg W z (fun x => x = b) → SeA z u n cp L) (hn : n ≤ 16) (hc : okM c 1) (hk : ∀ i, i < n → okS c (L i)) (hg0 : 0 ≤ st.given) (hg1 : st.given ≤ 1000000) (hO : st.O.length ≤ 1000)
    (h : Dsk W c u n cp L b w st) {p : Nat} (hp : p < n) (l : Int) :
    Calls Try.prog 42 #[.pointer (some ⟨b, 0, none⟩), .int .i64 p, .int .i64 l] w (MrP W c u n cp L b st (vict c L n st.given p l (n - 1) st.out []) w) := by
  obtain ⟨vO, vZ, h1, h2, h3⟩ := h.ex
  have HLOW := hidd h.low
  have HD := hidd h1
  have HO1 := hidd h2
  have HZ1 := hidd h3
  have HDSK := hidd h
  have HSE := hidd (hS w h.low)
  obtain ⟨R, HR⟩ : ∃ R, Hid (R = vict c L n st.given p l (n - 1) st.out []) := ⟨_, rfl⟩
  rw [← HR.out]
  obtain ⟨A, hA⟩ := isO_ex st.out
  have RG := hidd (h1.out_range hA)
  have SL := hidd hA.size
  have HIA := hidd hA
  have H1 := hidd hA.one
  have S16 : Hid ((Try.prog.info? 51).map (·.size) = some A.size) := by rw [size16, hA.1]; rfl
  have HOZ : Hid ((#[.bool false, .bool false, .bool false, .bool false, .bool false, .bool false, .bool false, .bool false, .bool false, .bool false, .bool false, .bool false, .bool false, .bool false, .bool false, .bool false] : Array Value).size = A.size) := by rw [hA.1]; rfl
  have HRM : Hid (∀ (z : World) (B : Array Value) (ot : Nat → Bool), Below w.heap.size w z → IsO B ot → Calls Try.prog 43 #[.pointer (some ⟨b, 0, none⟩), .int .i64 p, .agg B] z fun e w' => e = .returned (.int .i64 (rom c L n st.given p ot)) ∧ Below z.heap.size z w') := fun z B ot hz hB => room_any (HD.out.fresh hz) (HSE.out.fresh hz) hn hc hk hg0 hg1 hB hp
  have dc := h1.cells
  have c5 := dc.c5
  have HRA : Hid ((w.alloc (.cells A 51)).rowIs w.heap.size 51 16 (fun i => .bool (st.out i))) := by
    have := World.rowIs_alloc w A 51 (fun i => .bool (st.out i)) (fun i hi => hA.2 i (by rw [hA.1] at hi; exact hi))
    rw [hA.1] at this
    exact this
  have HFA := hidd (fresh_alloc w (.cells A 51))
  clear dc h1 h2 h3 h hA hS hk
  go_enter Try.func42, Try.ntmps42
  go_wp2
  go_step3
  go_upto_region 2 with (first | refine wpList_load_mid rfl 51 _ rfl b 6 rfl A.toList _ RG.out Try.underlying51 rfl SL.out ?_ | refine wpList_store_row rfl 51 _ _ rfl w.heap.size A rfl rfl 51 _ (heap_new1 _ _ _) S16.out HOZ.out H1.out ?_)
  rw [World.setRow_alloc_new]
  replace c5 := fresh_cell HFA.out c5
  have hsz1 : (w.alloc (.cells A 51)).heap.size = w.heap.size + 1 := by simp
  generalize w.alloc (.cells A 51) = w1 at *
  go_wp2
  go_step3
  go_wp2
  clear c5
  obtain ⟨yq, HYQ⟩ : ∃ y : Nat, Hid (y = n - 1) := ⟨_, rfl⟩
  go_loopw [8, 9] (fun v i wr => ∃ (y : Nat) (ot : Nat → Bool) (ids : List Nat), p ≤ y ∧ y < n ∧ ids.length + y ≤ n ∧ i = .int .i64 y ∧ Hid (Own wr (w.heap.size + 1) 3 1 v ids.length (idF L ids)) ∧ Hid (wr.rowIs w.heap.size 51 16 (fun i => .bool (ot i))) ∧ Hid (Below w.heap.size w wr) ∧ Hid (w.heap.size + 1 ≤ wr.heap.size) ∧ Hid (R = vict c L n st.given p l y ot ids)) (fun _ i _ => (intOf i).toNat)
  case atStart => exact ⟨n - 1, st.out, [], by omega, by omega, (by simp), by first | rfl | (congr 1; omega), own_nil _ _ _ _ _, HRA, HFA, by show _ ≤ _; omega, HR⟩
  case round =>
    clear HRA HFA
    obtain ⟨y, ot, ids, hpy, hyn, hil, rfl, HOW, HRO, HF, HSZ, HRV⟩ := hrel
    obtain ⟨B, hB⟩ := isO_ex ot
    have RGB := hidd (row_range HRO.out (by rw [hB.1]; exact Nat.le_refl _) (fun i hi => hB.2 i (by rw [hB.1] at hi; exact hi)))
    have SLB := hidd hB.size
    have HIB := hidd hB
    have HRB := hidd (HRM.out wr B ot HF.out hB)
    have heq := vict_eq c L n st.given p l hpy ot ids
    rw [← HRV.out] at heq
    obtain ⟨rm, HRMO⟩ : ∃ x, Hid (x = rom c L n st.given p ot) := ⟨_, rfl⟩
    rw [← HRMO.out] at heq HRB
    clear hB
    by_cases hl : l ≤ rm
    · have HE : Hid (R = some (ot, ids)) := by rw [heq, if_pos hl]; rfl
      have dl : decide (l ≤ rm) = true := decide_eq_true hl
      clear heq hl
      obtain ⟨i0, HI, _, _, _⟩ := info_parts infoI
      have HI := hidd HI
      by_cases hid : ids = []
      · subst hid
        have HOW0 : Hid (Own wr (w.heap.size + 1) 3 1 u8 0 (idF L [])) := HOW
        obtain ⟨av, kv, rfl, _⟩ := HOW0.out.rd
        go_upto_region 11 with (first
          | refine wpList_load_mid rfl 51 _ rfl w.heap.size 0 rfl B.toList _ RGB.out Try.underlying51 rfl SLB.out ?_
          | (go_at_call 43; with_reducible refine HRB.out.mono ?_; rintro e w2 ⟨rfl, hb2⟩))
        have HB2 := hidd (HF.out.trans (hb2.mono HF.out.size))
        have HK2 := hidd (HDSK.out.fresh HB2.out)
        have RG2 : Hid (w2.rangeAt w.heap.size 0 B.toList) := fun j v h => fresh_cell hb2 (RGB.out j v h)
        have HD2 := hidd (HD.out.fresh HB2.out)
        have HO2 := hidd (HO1.out.kept HB2.out)
        have HZ2 := hidd (HZ1.out.kept HB2.out)
        have HT2 : Hid (w2.there b 6 B.size) := by rw [HIB.out.1]; exact HD2.out.there
        have SB : Hid ((Try.prog.info? 51).map (·.size) = some B.size) := by rw [size16, HIB.out.1]; rfl
        have H1B := hidd HIB.out.one
        obtain ⟨ao, ko, rfl, _⟩ := HO1.out.rd
        go_upto_region 12 with (first
          | refine wpList_load_mid rfl 51 _ rfl w.heap.size 0 rfl B.toList _ RG2.out Try.underlying51 rfl SLB.out ?_
          | refine wpList_store_mid rfl 51 _ _ rfl b 6 B rfl rfl HT2.out SB.out H1B.out ?_)
        have HC3 := hidd (Chg.of_setCells b B.toList 6 w2)
        have HD3 := hidd (HD2.out.setOut HIB.out)
        have HKP3 := hidd ((Kp.of_below HB2.out).trans (Kp.of_chg HC3.out HD2.out))
        have HO3 := hidd (HO2.out.chg HC3.out (fun k hk e => HO2.out.apart HD2.out (by decide) (by rw [hk, e])))
        have HZ3 := hidd (HZ2.out.chg HC3.out (fun k hk e => HZ2.out.apart HD2.out (by decide) (by rw [hk, e])))
        have HL3 := hidd ((HLOW.out.post HB2.out).same HC3.out)
        have hs3 : w.heap.size ≤ (w2.setCells b 6 B.toList).heap.size := Nat.le_trans HB2.out.size HC3.out.size
        generalize w2.setCells b 6 B.toList = w3 at *
        have hc24 := HD3.out.cells.c24
        have hfr := HD3.out.frozen
        have hle := (own_rda HO3.out).le
        go_wp2_with (at_builtin; refine Lib.wpList_append_run _ rfl _ _ _ _ rfl _ _ rfl rfl _ _ (run_append_zero _ 25 _ 3 Try.underlying25 HI.out ao av st.O.length ko kv hle) ?_)
        try rw [Exit.noGoto_ret]
        go_ret
        refine ⟨?_, HKP3.out.trans (Kp.of_chg (Chg.of_set w3 b 24 (.slice ao st.O.length ko)) HD3.out), .inr ⟨ot, [], HE.out, rfl, ⟨?_, _, vZ, HD3.out.setO _, ?_, ?_⟩⟩⟩
        · have := (Chg.of_set w3 b 24 (.slice ao st.O.length ko)).size
          omega
        · exact HL3.out.same (Chg.of_set w3 b 24 (.slice ao st.O.length ko))
        · simp only [List.append_nil]
          exact HO3.out.chg (Chg.of_set w3 b 24 _) (fun k hk e => HO3.out.apart HD3.out (by decide) (by rw [hk, e]))
        · exact HZ3.out.chg (Chg.of_set w3 b 24 _) (fun k hk e => HZ3.out.apart HD3.out (by decide) (by rw [hk, e]))
      · have hpos : 0 < ids.length := List.length_pos_iff.2 hid
        obtain ⟨av, kv, rfl, _⟩ := HOW.out.rd
        obtain ⟨gv, rfl⟩ : ∃ gv, av = some ⟨gv, 0, none⟩ := by
          rcases HOW.out.2 with ⟨e, e2⟩ | ⟨g, _, _, e, _⟩
          · omega
          · cases e; exact ⟨g, rfl⟩
        go_upto_region 11 with (first
          | refine wpList_load_mid rfl 51 _ rfl w.heap.size 0 rfl B.toList _ RGB.out Try.underlying51 rfl SLB.out ?_
          | (go_at_call 43; with_reducible refine HRB.out.mono ?_; rintro e w2 ⟨rfl, hb2⟩))
        have HB2 := hidd (HF.out.trans (hb2.mono HF.out.size))
        have HOW2 := hidd (HOW.out.kept hb2)
        have RG2 : Hid (w2.rangeAt w.heap.size 0 B.toList) := fun j v h => fresh_cell hb2 (RGB.out j v h)
        have HD2 := hidd (HD.out.fresh HB2.out)
        have HO2 := hidd (HO1.out.kept HB2.out)
        have HZ2 := hidd (HZ1.out.kept HB2.out)
        have HT2 : Hid (w2.there b 6 B.size) := by rw [HIB.out.1]; exact HD2.out.there
        have SB : Hid ((Try.prog.info? 51).map (·.size) = some B.size) := by rw [size16, HIB.out.1]; rfl
        have H1B := hidd HIB.out.one
        obtain ⟨ao, ko, rfl, _⟩ := HO1.out.rd
        go_upto_region 12 with (first
          | refine wpList_load_mid rfl 51 _ rfl w.heap.size 0 rfl B.toList _ RG2.out Try.underlying51 rfl SLB.out ?_
          | refine wpList_store_mid rfl 51 _ _ rfl b 6 B rfl rfl HT2.out SB.out H1B.out ?_)
        have HC3 := hidd (Chg.of_setCells b B.toList 6 w2)
        have HD3 := hidd (HD2.out.setOut HIB.out)
        have HKP3 := hidd ((Kp.of_below HB2.out).trans (Kp.of_chg HC3.out HD2.out))
        have HO3 := hidd (HO2.out.chg HC3.out (fun k hk e => HO2.out.apart HD2.out (by decide) (by rw [hk, e])))
        have HZ3 := hidd (HZ2.out.chg HC3.out (fun k hk e => HZ2.out.apart HD2.out (by decide) (by rw [hk, e])))
        have HOW3 := hidd (HOW2.out.chg HC3.out (fun k hk e => HOW2.out.apart HD2.out (by decide) (by rw [hk, e])))
        have HL3 := hidd ((HLOW.out.post HB2.out).same HC3.out)
        have hs3 : w.heap.size ≤ (w2.setCells b 6 B.toList).heap.size := Nat.le_trans HB2.out.size HC3.out.size
        generalize w2.setCells b 6 B.toList = w3 at *
        have hc24 := HD3.out.cells.c24
        have hfr := HD3.out.frozen
        have HOX : Hid (Own w3 W.heap.size 3 1 (.slice ao st.O.length ko) st.O.length (idF L (st.O ++ ids))) := HO3.out.congr (fun j hj => (idF_app L st.O ids (by omega)).symm)
        have HCX : Hid (∀ j, j < ids.length * 1 → w3.cell? ⟨gv, j, none⟩ = some (idF L (st.O ++ ids) (st.O.length * 1 + j))) := fun j hj => by
          obtain ⟨b9, o9, e9, hc9⟩ := (own_rda HOW3.out).one hpos
          cases e9
          have := hc9 j (by omega)
          rw [Nat.zero_add] at this
          rw [this, Nat.mul_one, idF_right]
        go_wp2_with (at_builtin; refine wpList_app _ rfl _ _ 25 rfl W.heap.size 3 (.int .i64 0) 1 8 Try.underlying25 infoI rfl (by decide) _ st.O.length (idF L (st.O ++ ids)) rfl HOX.out gv ids.length kv rfl HCX.out (fun j _ => rfl) hpos (by unfold maxLen; omega) (by omega) (by have := HL3.out.size; omega) ?_)
        intro v4 w4 ho4 ha4
        have HO4 := hidd ho4
        have HD4 : Hid (DkA w4 b c (.slice u n cp) ot st.left st.given (.slice ao st.O.length ko) vZ) := ha4.row HD3.out (HO3.out.apart HD3.out (by decide))
        have HZ4 := hidd (ha4.own HZ3.out (HO3.out.offT HZ3.out (by decide)))
        have HKP4 := hidd (HKP3.out.trans (Kp.of_app ha4 HO3.out))
        have HL4 := hidd (HL3.out.app ha4 HO3.out)
        have hs4 : w.heap.size ≤ w4.heap.size := Nat.le_trans hs3 ha4.grown.size
        obtain ⟨a4, k4, rfl, _⟩ := HO4.out.rd
        have hc24 := HD4.out.cells.c24
        have hfr := HD4.out.frozen
        clear ho4 ha4
        go_wp2
        try rw [Exit.noGoto_ret]
        go_ret
        refine ⟨?_, HKP4.out.trans (Kp.of_chg (Chg.of_set w4 b 24 (.slice a4 (st.O.length + ids.length) k4)) HD4.out), .inr ⟨ot, ids, HE.out, rfl, ⟨?_, _, vZ, HD4.out.setO _, ?_, ?_⟩⟩⟩
        · have := (Chg.of_set w4 b 24 (.slice a4 (st.O.length + ids.length) k4)).size
          omega
        · exact HL4.out.same (Chg.of_set w4 b 24 (.slice a4 (st.O.length + ids.length) k4))
        · simp only [List.length_append]
          exact HO4.out.chg (Chg.of_set w4 b 24 _) (fun k hk e => HO4.out.apart HD4.out (by decide) (by rw [hk, e]))
        · exact HZ4.out.chg (Chg.of_set w4 b 24 _) (fun k hk e => HZ4.out.apart HD4.out (by decide) (by rw [hk, e]))
    · rw [if_neg hl] at heq
      have dl : decide (l ≤ rm) = false := decide_eq_false hl
      by_cases hyp : y = p
      · rw [if_pos hyp] at heq
        have HE := hidd heq
        have dy : ((y : Int) == (p : Int)) = true := by simp; omega
        clear heq hl hyp
        go_wp2_with (first
          | refine wpList_load_mid rfl 51 _ rfl w.heap.size 0 rfl B.toList _ RGB.out Try.underlying51 rfl SLB.out ?_
          | (go_at_call 43; with_reducible refine HRB.out.mono ?_; rintro e w2 ⟨rfl, hb2⟩; have HB2 := hidd (HF.out.trans (hb2.mono HF.out.size)); clear hb2))
        try rw [Exit.noGoto_ret]
        go_ret
        exact ⟨HB2.out.size, Kp.of_below HB2.out, .inl ⟨HE.out, rfl, HDSK.out.fresh HB2.out⟩⟩
      · rw [if_neg hyp] at heq
        have dy : ((y : Int) == (p : Int)) = false := by simp; omega
        obtain ⟨q, HQ⟩ : ∃ q, Hid (y = q + 1) := ⟨y - 1, by show y = _; omega⟩
        have e1 : (y : Int) - 1 = (q : Int) := by have := HQ.out; omega
        have hq1 : y - 1 = q := by have := HQ.out; omega
        rw [hq1] at heq
        obtain ⟨av, kv, rfl, _⟩ := HOW.out.rd
        obtain ⟨b1, o1, hu, hcell⟩ := HSE.out.rd.seat (by omega)
        subst hu
        obtain ⟨x1, _, _, _, x5⟩ := hcell y hyn
        obtain ⟨yid, HYI⟩ : ∃ x, Hid (x = (L y).id) := ⟨_, rfl⟩
        obtain ⟨hn0, HHN⟩ : ∃ x, Hid (x = (L y).hn) := ⟨_, rfl⟩
        obtain ⟨hc0, HHC⟩ : ∃ x, Hid (x = (L y).hc) := ⟨_, rfl⟩
        obtain ⟨hoo, HHO⟩ : ∃ x, Hid (x = (L y).ho) := ⟨_, rfl⟩
        have hnb : hn0 ≤ 9223372036854775807 := by rw [HHN.out]; have := (HSE.out.hd y hyn).le; have := (HSE.out.hd y hyn).top; unfold maxLen at this; omega
        rw [← HYI.out] at x1
        rw [← HHN.out, ← HHC.out, ← HHO.out] at x5
        rw [← HHN.out] at heq
        have hc5 := HD.out.cells.c5
        have y1 : (y : Int) < (n : Int) := by omega
        have y2 : (y : Int) < 16 := by omega
        have y3 : y < 16 := by omega
        have HPQ : Hid (p ≤ q) := by have := HQ.out; show _ ≤ _; omega
        have HIL : Hid (ids.length + 1 + q ≤ n) := by have := HQ.out; show _ ≤ _; omega
        clear hcell hl hyp
        go_upto_region 8 with (first
          | refine wpList_load_mid rfl 51 _ rfl w.heap.size 0 rfl B.toList _ RGB.out Try.underlying51 rfl SLB.out ?_
          | (go_at_call 43; with_reducible refine HRB.out.mono ?_; rintro e w2 ⟨rfl, hb2⟩))
        have HB2 := hidd (HF.out.trans (hb2.mono HF.out.size))
        have HOW2 := hidd (HOW.out.kept hb2)
        have HRO2 := hidd (HRO.out.of_block (hb2.block _ HRO.out.lt))
        have HS2 : Hid (w.heap.size + 1 ≤ w2.heap.size) := Nat.le_trans HSZ.out hb2.size
        have HX1 := hidd x1
        have HC5 := hidd hc5
        replace x1 := fresh_cell HB2.out x1
        replace x5 := fresh_cell HB2.out x5
        replace hc5 := fresh_cell HB2.out hc5
        have z1 := HRO2.out.cell (i := y) y3
        clear hb2 dl dy
        by_cases hoy : ot y = true
        · rw [if_pos (Or.inl hoy)] at heq
          have HRX := hidd heq
          rw [hoy] at z1
          clear heq hoy
          go_wp2
          go_roundw
          case rel => exact ⟨q, ot, ids, HPQ.out, by have := HQ.out; omega, by have := HIL.out; omega, by go_num, HOW2, HRO2, HB2, HS2, HRX⟩
          case measure => simp [intOf]; have := HQ.out; omega
        · have hoy' : ot y = false := by rw [Bool.eq_false_iff]; exact hoy
          rw [hoy'] at z1
          by_cases hh : hn0 = 0
          · rw [if_pos (Or.inr hh)] at heq
            have HRX := hidd heq
            subst hh
            clear heq hoy hoy'
            go_wp2
            go_roundw
            case rel => exact ⟨q, ot, ids, HPQ.out, by have := HQ.out; omega, by have := HIL.out; omega, by go_num, HOW2, HRO2, HB2, HS2, HRX⟩
            case measure => simp [intOf]; have := HQ.out; omega
          · rw [if_neg (fun e => e.elim hoy hh)] at heq
            have HRX := hidd heq
            have dh : ((hn0 : Int) == 0) = false := by simp; omega
            have fr := HRO2.out.frozen
            clear heq hoy hoy' hh
            go_upto_region 10 with fail
            have HRO3 := hidd ((HRO2.out.set y (.bool true)).congr (fun i _ => put_row ot y i))
            have HOW3 := hidd (HOW2.out.chg (Chg.of_set w2 w.heap.size y (.bool true)) (fun k hk e => by have := (HOW2.out.lt k hk).1; omega))
            have HB3 := hidd (HB2.out.setCell (p := ⟨w.heap.size, y, none⟩) (Nat.le_refl _) (.bool true))
            have HS3 : Hid (w.heap.size + 1 ≤ (w2.setCell ⟨w.heap.size, y, none⟩ (.bool true)).heap.size) := Nat.le_trans HS2.out (Chg.of_set w2 w.heap.size y (.bool true)).size
            clear z1 fr dh x1 x5 hc5 HRO2 HOW2 HB2 HS2
            generalize w2.setCell ⟨w.heap.size, y, none⟩ (.bool true) = w3 at *
            have x1 := fresh_cell HB3.out HX1.out
            have hc5 := fresh_cell HB3.out HC5.out
            have HOX : Hid (Own w3 (w.heap.size + 1) 3 1 (.slice av ids.length kv) ids.length (idF L (ids ++ [y]))) := HOW3.out.congr (fun j hj => (idF_app L ids [y] (by omega)).symm)
            have HCX : Hid (∀ (w0 : World) (t : TypeId), (w0.alloc (.cells #[.int .i64 yid] t)).cell? ⟨w0.heap.size, 0, none⟩ = some (idF L (ids ++ [y]) ids.length)) := fun w0 t => by
              have := idF_right L ids [y] 0
              rw [Nat.add_zero] at this
              rw [this, HYI.out]
              exact new_cell _ _ _
            have hs3 := HS3.out
            go_wp2_with (at_builtin; refine wpList_app1 _ rfl _ _ 25 rfl (w.heap.size + 1) 3 (.int .i64 0) 8 Try.underlying25 infoI rfl _ ids.length (idF L (ids ++ [y])) rfl (HOX.out.kept (fresh_alloc _ _)) _ 1 rfl (HCX.out _ _) rfl (by omega) (by omega) (by simp; omega) ?_)
            intro v4 w4 ho4 ha4
            have HO4 := hidd ho4
            have HR4 := hidd (ha4.row (HRO3.out.alloc _) (HOX.out.apart HRO3.out (by decide)))
            have HB4 := hidd (ha4.below ((HB3.out.alloc HB3.out.size _)) (HOX.out.kept (fresh_alloc _ _)) (by omega) (by simp; omega))
            have HS4 : Hid (w.heap.size + 1 ≤ w4.heap.size) := by
              have := ha4.grown.size
              simp at this
              show _ ≤ _
              omega
            obtain ⟨a4, k4, rfl, _⟩ := HO4.out.rd
            clear ho4 ha4 hs3 x1 hc5
            go_wp2
            go_roundw
            case rel => exact ⟨q, put ot y, ids ++ [y], HPQ.out, by have := HQ.out; omega, by have := HIL.out; simp; omega, by go_num, by simp only [List.length_append, List.length_singleton]; exact HO4, HR4, HB4, HS4, HRX⟩
            case measure => simp [intOf]; have := HQ.out; omega
end Go.Proofs.Ytdceahebkohbjab
