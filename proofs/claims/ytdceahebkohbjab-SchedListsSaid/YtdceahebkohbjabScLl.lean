import Derived.Test.YtdceahebkohbjabScLa
namespace Go.Proofs.Ytdceahebkohbjab
open Go.RowKit
/-! SchedLists. -/
def apA (no : Nat) (cv : Nat → Value) (j : Nat) : Value := if j < no then cv j else .int .i64 (-79)
def apB (nz : Nat) (cz : Nat → Value) (j : Nat) : Value := if j < nz * 3 then cz j else if j % 3 = 0 then .int .i64 (-80) else .int .i64 0
/-- a list that grows, out of a list whose block is known -/
structure Grw (W wr : World) (base : Nat) (t : TypeId) (sz : Nat) (v0 v : Value) (k : Nat) (cs : Nat → Value) : Prop where
  own : Own wr base t sz v k cs
  blk : ∀ x, v.ownBlock = some x → v0.ownBlock = some x ∨ W.heap.size ≤ x
theorem box3 (w : World) (x0 x1 x2 : Value) (t : TypeId) : (w.alloc (.cells #[x0, x1, x2] t)).cell? ⟨w.heap.size, 0, none⟩ = some x0 ∧ (w.alloc (.cells #[x0, x1, x2] t)).cell? ⟨w.heap.size, 1, none⟩ = some x1 ∧ (w.alloc (.cells #[x0, x1, x2] t)).cell? ⟨w.heap.size, 2, none⟩ = some x2 := by
  have h : (w.alloc (.cells #[x0, x1, x2] t)).heap[w.heap.size]? = some (.cells #[x0, x1, x2] t) := World.alloc_heap_new _ _
  refine ⟨?_, ?_, ?_⟩ <;> (unfold World.cell?; rw [h]; rfl)
theorem apB_new (nz k : Nat) (cz : Nat → Value) (w0 : World) (t : TypeId) (hk : nz ≤ k) (j : Nat) (hj : j < 1 * 3) : (w0.alloc (.cells #[.int .i64 (-80), .int .i64 0, .int .i64 0] t)).cell? ⟨w0.heap.size, j, none⟩ = some (apB nz cz (k * 3 + j)) := by
  obtain ⟨t0, t1, t2⟩ := box3 w0 (.int .i64 (-80)) (.int .i64 0) (.int .i64 0) t
  unfold apB
  rw [if_neg (by omega)]
  have : j = 0 ∨ j = 1 ∨ j = 2 := by omega
  rcases this with rfl | rfl | rfl
  · rw [if_pos (by omega)]; exact t0
  · rw [if_neg (by omega)]; exact t1
  · rw [if_neg (by omega)]; exact t2
theorem apB_one (nz k : Nat) (cz : Nat → Value) (hk : nz ≤ k) (j : Nat) : (apB nz cz (k * 3 + j)).oneCell' = true := by
  unfold apB
  rw [if_neg (by omega)]
  split <;> rfl
set_option maxRecDepth 100000 in
set_option maxHeartbeats 16000000 in
theorem lists_law {w : World} (c : Me) {ao po : Option Addr} {n cap m cp : Nat} {S : Nat → Se} {P : Nat → Int} (hS : SeA w ao n cap S) (hn : n * 56 ≤ 140737488351232) (hh : ∀ i, i < n → (S i).hn ≤ 17592186043904) (hP : RdA w po 1 m cp (fun i => .int .i64 (P i))) (hm : m ≤ 17592186043904) :
    Calls Try.prog 4 #[mV c, .slice ao n cap, .slice po m cp] w fun e w' => e = .returned (.bool true) ∧ Below w.heap.size w w' := by
  have HSE := hidd hS
  have HPK := hidd hP
  have HHH := hidd hh
  obtain ⟨no, nz, x, pf, pa, pq, pd, K⟩ := known c n S m P
  have HAG := hidd (fun (z : World) (hz : Below w.heap.size w z) => again_any c (hS.fresh hz) hn hh (hP.fresh hz) hm)
  have HKP := hidd (fun (z : World) (x9 y9 : Option Addr) (k1 k2 : Nat) (S9 : Nat → Se) (h1 : SeA z x9 n k1 S9) (h0 : x9 = none → k1 = 0) (h2 : ∀ i, i < n → er (S9 i) = er (S i)) (h3 : RdA z y9 1 m k2 (fun i => .int .i64 (P i))) => K.prog h1 h0 h2 h3)
  have HKR := hidd (fun (z : World) (hz : Below w.heap.size w z) => K.ref (hS.fresh hz) (fun _ _ => rfl) (hP.fresh hz))
  have hno := K.mo
  have hnz := K.mz
  obtain ⟨bs, bl, bu, ch, tr⟩ := c
  have HF := hidd (fresh_alloc w (.cells #[.int .i64 bs, .int .i64 bl, .int .i64 bu, .int .i64 ch, .int .i64 tr] 23))
  have HBX := hidd (box5 w (.int .i64 bs) (.int .i64 bl) (.int .i64 bu) (.int .i64 ch) (.int .i64 tr) 23)
  have hmv : mV ⟨bs, bl, bu, ch, tr⟩ = .agg #[.int .i64 bs, .int .i64 bl, .int .i64 bu, .int .i64 ch, .int .i64 tr] := rfl
  rw [hmv]
  rw [hmv] at HAG HKP HKR
  unfold PlnP at HKP HKR
  clear hS hP hh hmv K
  go_enter Try.func4, Try.ntmps4
  go_upto_region 1 with fail
  generalize w.alloc (.cells #[.int .i64 bs, .int .i64 bl, .int .i64 bu, .int .i64 ch, .int .i64 tr] 23) = w0 at *
  go_upto_region 2 with (go_at_call 11; with_reducible refine (works_any _).mono ?_; rintro e w1 ⟨rfl, hb1⟩)
  have HF1 := hidd (HF.out.trans (hb1.mono HF.out.size))
  have HB01 := hidd hb1
  have HC1 := hidd (copyS_own (HSE.out.fresh HF1.out) hn HHH.out)
  clear hb1
  go_upto_region 3 with (go_at_call 12; with_reducible refine HC1.out.mono ?_; rintro e w2 ⟨u1, c1, S1, rfl, hcp, hb2⟩)
  have HF2 := hidd (HF1.out.trans (hb2.mono HF1.out.size))
  have HB02 := hidd (HB01.out.trans (hb2.mono HB01.out.size))
  have HSW2 := hidd hcp.seats
  have HER : Hid (∀ i, i < n → er (S1 i) = er (S i)) := hcp.same
  have h0c : Hid (u1 = none → c1 = 0) := hcp.cap0
  have HCI := hidd (copyI_any (HPK.out.fresh HF2.out) hm)
  clear hcp hb2 HC1 HB01
  go_upto_region 4 with (go_at_call 13; with_reducible refine HCI.out.mono ?_; rintro e w3 ⟨u2, c2, rfl, ho3, hb3⟩)
  have HO3 := hidd (own_rda ho3)
  have HF3 := hidd (HF2.out.trans (hb3.mono HF2.out.size))
  have HB03 := hidd (HB02.out.trans (hb3.mono HB02.out.size))
  have HSW3 := hidd (HSW2.out.fresh hb3)
  obtain ⟨t0, t1, t2, t3, t4⟩ := HBX.out
  have s0 := fresh_cell HB03.out t0
  have s1 := fresh_cell HB03.out t1
  have s2 := fresh_cell HB03.out t2
  have s3 := fresh_cell HB03.out t3
  have s4 := fresh_cell HB03.out t4
  have HR3 := hidd (HKR.out w3 HF3.out)
  clear t0 t1 t2 t3 t4 HCI ho3 hb3 HSW2 HBX HB02 HF2 HF1 HKR
  go_upto_region 5 with (go_at_call 14; with_reducible refine HR3.out.mono ?_; rintro e wa ⟨uw, uy, kw, ky, rfl, hba, o1, o2⟩)
  have HFA := hidd (fresh_alloc wa (.cells #[.slice uw no kw, .slice uy nz ky] 28))
  have HRW := hidd (two_new wa (.slice uw no kw) (.slice uy nz ky) 28)
  have HW1 := hidd (own_rda (o1.kept HFA.out))
  have HW2 := hidd (own_rda (o2.kept HFA.out))
  have HB34 := hidd (hba.trans (HFA.out.mono hba.size))
  obtain ⟨wb, HWB⟩ : ∃ pb, Hid (pb = wa.heap.size) := ⟨_, rfl⟩
  rw [← HWB.out] at HRW ⊢
  generalize wa.alloc (.cells #[.slice uw no kw, .slice uy nz ky] 28) = w4 at *
  replace s0 := fresh_cell HB34.out s0
  replace s1 := fresh_cell HB34.out s1
  replace s2 := fresh_cell HB34.out s2
  replace s3 := fresh_cell HB34.out s3
  replace s4 := fresh_cell HB34.out s4
  have HF4 := hidd (HF3.out.trans (HB34.out.mono HF3.out.size))
  have HX4 := hidd (HSW3.out.fresh HB34.out)
  have HY4 := hidd (HO3.out.fresh HB34.out)
  have S4 : Hid (∀ z, Below w4.heap.size w4 z → z.cell? ⟨w.heap.size, 0, none⟩ = some (.int .i64 bs) ∧ z.cell? ⟨w.heap.size, 1, none⟩ = some (.int .i64 bl) ∧ z.cell? ⟨w.heap.size, 2, none⟩ = some (.int .i64 bu) ∧ z.cell? ⟨w.heap.size, 3, none⟩ = some (.int .i64 ch) ∧ z.cell? ⟨w.heap.size, 4, none⟩ = some (.int .i64 tr)) := fun z hz => ⟨fresh_cell hz s0, fresh_cell hz s1, fresh_cell hz s2, fresh_cell hz s3, fresh_cell hz s4⟩
  have HM4 := hidd (HKP.out w4 _ _ _ _ _ HX4.out h0c.out HER.out HY4.out)
  clear hba o1 o2 HWB HR3 HSW3 HO3 HF3 HB34 HB03 HFA
  go_upto_region 6 with (go_at_call 9; with_reducible refine HM4.out.mono ?_; rintro e wp ⟨uo, uz, ko, kz, rfl, hbp, o1, o2⟩)
  have HFA := hidd (fresh_alloc wp (.cells #[.slice uo no ko, .slice uz nz kz] 28))
  have HRP := hidd (two_new wp (.slice uo no ko) (.slice uz nz kz) 28)
  have HP1 := hidd (o1.kept HFA.out)
  have HP2 := hidd (o2.kept HFA.out)
  have HL1 := hidd (fun q (hq : (Value.slice uo no ko).ownBlock = some q) => o1.lt q hq)
  have HL2 := hidd (fun q (hq : (Value.slice uz nz kz).ownBlock = some q) => o2.lt q hq)
  have HOF := hidd (o1.offT o2 (by decide))
  have HB45 := hidd (hbp.trans (HFA.out.mono hbp.size))
  obtain ⟨pb, HPB⟩ : ∃ pb, Hid (pb = wp.heap.size) := ⟨_, rfl⟩
  rw [← HPB.out] at HRP HL1 HL2 ⊢
  have HPL : Hid (pb < (wp.alloc (.cells #[.slice uo no ko, .slice uz nz kz] 28)).heap.size) := HRP.out.lt
  generalize wp.alloc (.cells #[.slice uo no ko, .slice uz nz kz] 28) = w5 at *
  clear s0 s1 s2 s3 s4
  obtain ⟨s0, s1, s2, s3, s4⟩ := S4.out w5 HB45.out
  have HM5 := hidd (HKP.out w5 _ _ _ _ _ (HX4.out.fresh HB45.out) h0c.out HER.out (HY4.out.fresh HB45.out))
  clear hbp o1 o2 HPB HM4 HFA
  go_upto_region 7 with (go_at_call 9; with_reducible refine HM5.out.mono ?_; rintro e wq ⟨vo, vz, k1, k2, rfl, hbq, o1, o2⟩)
  have HFA := hidd (fresh_alloc wq (.cells #[.slice vo no k1, .slice vz nz k2] 28))
  have HRQ := hidd (two_new wq (.slice vo no k1) (.slice vz nz k2) 28)
  have HQ1 := hidd (o1.kept HFA.out)
  have HQ2 := hidd (o2.kept HFA.out)
  have HB56 := hidd (hbq.trans (HFA.out.mono hbq.size))
  obtain ⟨qb, HQB⟩ : ∃ pb, Hid (pb = wq.heap.size) := ⟨_, rfl⟩
  have HQG : Hid (pb < qb) := by have := HPL.out; have := hbq.size; have := HQB.out; show _ < _; omega
  rw [← HQB.out] at HRQ ⊢
  generalize wq.alloc (.cells #[.slice vo no k1, .slice vz nz k2] 28) = w6 at *
  have HB46 := hidd (HB45.out.trans (HB56.out.mono HB45.out.size))
  have HP1' := hidd (HP1.out.kept HB56.out)
  have HP2' := hidd (HP2.out.kept HB56.out)
  have HRP' := hidd (HRP.out.of_block (HB56.out.block _ HRP.out.lt))
  clear hbq o1 o2 HQB HM5 HFA s0 s1 s2 s3 s4 HP1 HP2 HRP HB45
  have HL56 : Hid (w5.heap.size ≤ w6.heap.size) := HB56.out.size
  clear HB56
  go_wp2
  go_loopw [16] (fun i wr => ∃ (k : Nat) (cv : Nat → Value), k ≤ no ∧ i = .int .i64 (k : Int) ∧ Hid (Own wr w4.heap.size 3 1 (.slice uo no ko) no cv) ∧ Hid (Chg w6 wr (fun q => (Value.slice uo no ko).ownBlock = some q))) (fun i _ => no - (intOf i).toNat)
  case atStart => exact ⟨0, _, by omega, rfl, HP1', Chg.refl _ _⟩
  case round =>
    clear HP1'
    obtain ⟨k, cv, hk, rfl, HO, HC⟩ := hrel
    have p0 : wr.cell? ⟨pb, 0, none⟩ = some (.slice uo no ko) := HC.out.cell (HRP'.out.cell (i := 0) (by decide)) (fun q => by have := HL1.out _ q; omega)
    by_cases hlt : k < no
    · obtain ⟨g, rfl, _, _⟩ := own_blk HO.out (by omega)
      obtain ⟨b1, o1, e1, h1⟩ := (own_rda HO.out).one (by omega)
      cases e1
      have x1 := h1 k hlt
      simp only [Nat.zero_add] at x1
      have fz := own_fz HO.out
      have k0 : (0 : Int) ≤ (k : Int) := by omega
      have kk1 : (k : Int) < (no : Int) := by omega
      have HP := hidd (HO.out.put k (.int .i64 (-77)))
      have HC2 : Hid (Chg w6 (wr.setCell ⟨g, k, none⟩ (.int .i64 (-77))) (fun q => (Value.slice (some ⟨g, 0, none⟩) no ko).ownBlock = some q)) := HC.out.trans (Chg.of_set wr g k (.int .i64 (-77))) (fun b _ e => by rw [e]; rfl)
      clear h1 HO HC
      generalize cv k = yk at x1
      go_wp2
      go_roundw
      case rel => exact ⟨k + 1, _, by omega, by go_num, HP, HC2⟩
      case measure => simp [intOf]; omega
    · obtain rfl : k = no := by omega
      generalize wr = w7 at *
      have HA7 := HO
      have HC67 := HC
      have HP2'' : Hid (Own w7 w4.heap.size 45 3 (.slice uz nz kz) nz (trF pa pq pd)) := HP2'.out.chg HC.out (fun q hq t => HOF.out q t hq)
      clear HO HC HP2'
      go_wp2_with fail
      clear p0
      go_loopw [17] (fun i wr => ∃ (j : Nat) (cz : Nat → Value), j ≤ nz ∧ i = .int .i64 (j : Int) ∧ Hid (Own wr w4.heap.size 45 3 (.slice uz nz kz) nz cz) ∧ Hid (Chg w7 wr (fun q => (Value.slice uz nz kz).ownBlock = some q))) (fun i _ => nz - (intOf i).toNat)
      case atStart => exact ⟨0, _, by omega, rfl, HP2'', Chg.refl _ _⟩
      case round =>
        clear HP2''
        obtain ⟨j, cz, hj, rfl, HO, HC⟩ := hrel
        have HC6r : Hid (Chg w6 wr (fun q => (Value.slice uo k ko).ownBlock = some q ∨ (Value.slice uz nz kz).ownBlock = some q)) := (HC67.out.imp (fun _ _ t => .inl t)).trans HC.out (fun _ _ t => .inr t)
        have HNP : Hid (¬ ((Value.slice uo k ko).ownBlock = some pb ∨ (Value.slice uz nz kz).ownBlock = some pb)) := fun q => by
          rcases q with q | q
          · have := HL1.out _ q; omega
          · have := HL2.out _ q; omega
        have p0 : wr.cell? ⟨pb, 0, none⟩ = some (.slice uo k ko) := HC6r.out.cell (HRP'.out.cell (i := 0) (by decide)) HNP.out
        have p1 : wr.cell? ⟨pb, 1, none⟩ = some (.slice uz nz kz) := HC6r.out.cell (HRP'.out.cell (i := 1) (by decide)) HNP.out
        by_cases hlt : j < nz
        · obtain ⟨g, rfl, _, _⟩ := own_blk HO.out (by omega)
          obtain ⟨b1, o1, e1, h1⟩ := (own_rda HO.out).at_ (by omega)
          cases e1
          have x0 := h1 (j * 3) (by omega)
          have x1 := h1 (j * 3 + 1) (by omega)
          have x2 := h1 (j * 3 + 2) (by omega)
          simp only [Nat.zero_add] at x0 x1 x2
          have fz := own_fz HO.out
          have j0 : (0 : Int) ≤ (j : Int) := by omega
          have j1 : (j : Int) < (nz : Int) := by omega
          have HP := hidd (((HO.out.put (j * 3) (.int .i64 (-78))).put (j * 3 + 1) (.int .i64 0)).put (j * 3 + 2) (.int .i64 0))
          have HC2 : Hid (Chg w7 (((wr.setCell ⟨g, j * 3, none⟩ (.int .i64 (-78))).setCell ⟨g, j * 3 + 1, none⟩ (.int .i64 0)).setCell ⟨g, j * 3 + 2, none⟩ (.int .i64 0)) (fun q => (Value.slice (some ⟨g, 0, none⟩) nz kz).ownBlock = some q)) := ((HC.out.trans (Chg.of_set wr g (j * 3) (.int .i64 (-78))) (fun b _ e => by rw [e]; rfl)).trans (Chg.of_set _ g (j * 3 + 1) (.int .i64 0)) (fun b _ e => by rw [e]; rfl)).trans (Chg.of_set _ g (j * 3 + 2) (.int .i64 0)) (fun b _ e => by rw [e]; rfl)
          clear h1 HO HC p0 HC6r
          generalize cz (j * 3) = y0 at x0
          generalize cz (j * 3 + 1) = y1 at x1
          generalize cz (j * 3 + 2) = y2 at x2
          go_wp2
          go_roundw
          case rel => exact ⟨j + 1, _, by omega, by go_num, HP, HC2⟩
          case measure => simp [intOf]; omega
        · obtain rfl : j = nz := by omega
          generalize wr = w8 at *
          have HA8 : Hid (Own w8 w4.heap.size 3 1 (.slice uo k ko) k (apA k cv)) := (HA7.out.chg HC.out (fun q hq t => HOF.out q hq t)).congr (fun i hi => by unfold apA; rw [if_pos (by omega)])
          have HZ8 : Hid (Own w8 w4.heap.size 45 3 (.slice uz j kz) j (apB j cz)) := HO.out.congr (fun i hi => by unfold apB; rw [if_pos hi])
          have HG8 := HC6r
          have HSZ8 : Hid (w6.heap.size ≤ w8.heap.size) := HC6r.out.size
          have HB48 : Hid (Below w4.heap.size w4 w8) := HC6r.out.below HB46.out HB46.out.size (fun q t => t.elim (fun t => (HL1.out q t).1) (fun t => (HL2.out q t).1))
          clear HO HC HC6r HA7 HC67
          go_upto_region 18 with fail
          go_loopw [18, 19, 20] (fun va vb i wr => ∃ r : Nat, r ≤ 64 ∧ i = .int .i64 (r : Int) ∧ Hid (Grw w8 wr w4.heap.size 3 1 (.slice uo k ko) va (k + r) (apA k cv)) ∧ Hid (Grw w8 wr w4.heap.size 45 3 (.slice uz j kz) vb (j + r) (apB j cz)) ∧ Hid (Chg w8 wr (fun q => (Value.slice uo k ko).ownBlock = some q ∨ (Value.slice uz j kz).ownBlock = some q))) (fun _ _ i _ => 64 - (intOf i).toNat)
          case atStart => exact ⟨0, by omega, rfl, ⟨HA8.out, fun _ h => .inl h⟩, ⟨HZ8.out, fun _ h => .inl h⟩, Chg.refl _ _⟩
          case round =>
            clear HA8 HZ8 p0 p1
            obtain ⟨r, hr, rfl, HA, HZ, HC⟩ := hrel
            obtain ⟨va, ka, rfl, _⟩ := HA.out.own.rd
            obtain ⟨vb, kb, rfl, _⟩ := HZ.out.own.rd
            by_cases hlt : r < 64
            · have hsz : w4.heap.size ≤ wr.heap.size := Nat.le_trans HB48.out.size HC.out.size
              have r0 : (r : Int) < 64 := by omega
              have HNA : Hid (∀ (z : World) (t : TypeId), (z.alloc (.cells #[.int .i64 (-79)] t)).cell? ⟨z.heap.size, 0, none⟩ = some (apA k cv (k + r))) := fun z t => by rw [new_cell]; unfold apA; rw [if_neg (by omega)]
              have HNO : Hid ((apA k cv (k + r)).oneCell' = true) := by unfold apA; rw [if_neg (by omega)]; rfl
              go_upto_region 21 with (at_builtin; refine wpList_app1 _ rfl _ _ 25 rfl w4.heap.size 3 (.int .i64 0) 8 Try.underlying25 infoI rfl _ (k + r) (apA k cv) rfl (HA.out.own.kept (fresh_alloc _ _)) _ 1 rfl (HNA.out _ _) HNO.out (by omega) (by omega) (by simp; omega) ?_; intro v5 w9 ho5 ha5)
              have HA5 : Hid (Grw w8 w9 w4.heap.size 3 1 (.slice uo k ko) v5 (k + r + 1) (apA k cv)) := ⟨ho5, fun q hq => (by
                rcases ha5.blk q hq with e | e
                · exact HA.out.blk q e
                · have := HC.out.size
                  simp at e
                  exact .inr (by omega))⟩
              have HC5 : Hid (Chg w8 w9 (fun q => (Value.slice uo k ko).ownBlock = some q ∨ (Value.slice uz j kz).ownBlock = some q)) := (HC.out.post (fresh_alloc _ _)).trans (Chg.of_app ha5) (fun q hq t => by
                rcases HA.out.blk q t with e | e
                · exact .inl e
                · omega)
              have HZ5 : Hid (Grw w8 w9 w4.heap.size 45 3 (.slice uz j kz) (.slice vb (j + r) kb) (j + r) (apB j cz)) := ⟨ha5.own (HZ.out.own.kept (fresh_alloc _ _)) (HA.out.own.offT HZ.out.own (by decide)), HZ.out.blk⟩
              obtain ⟨v5', k5, rfl, _⟩ := ho5.rd
              clear ho5 ha5 HA HZ HC HNA HNO
              have hsz9 : w4.heap.size ≤ w9.heap.size := Nat.le_trans HB48.out.size HC5.out.size
              go_wp2_with (at_builtin; refine wpList_app _ rfl _ _ 26 rfl w4.heap.size 45 _ 3 24 Try.underlying26 infoSl rfl (by decide) _ (j + r) (apB j cz) rfl (HZ5.out.own.kept (fresh_alloc _ _)) _ 1 1 rfl (apB_new j (j + r) cz _ _ (by omega)) (fun i _ => apB_one j (j + r) cz (by omega) i) (by decide) (by unfold maxLen; omega) (by omega) (by simp; omega) ?_)
              intro v6 wA ho6 ha6
              have HZ6 : Hid (Grw w8 wA w4.heap.size 45 3 (.slice uz j kz) v6 (j + r + 1) (apB j cz)) := ⟨ho6, fun q hq => (by
                rcases ha6.blk q hq with e | e
                · exact HZ5.out.blk q e
                · have := HC5.out.size
                  simp at e
                  exact .inr (by omega))⟩
              have HC6 : Hid (Chg w8 wA (fun q => (Value.slice uo k ko).ownBlock = some q ∨ (Value.slice uz j kz).ownBlock = some q)) := (HC5.out.post (fresh_alloc _ _)).trans (Chg.of_app ha6) (fun q hq t => by
                rcases HZ5.out.blk q t with e | e
                · exact .inr e
                · omega)
              have HA6 : Hid (Grw w8 wA w4.heap.size 3 1 (.slice uo k ko) (.slice v5' (k + r + 1) k5) (k + r + 1) (apA k cv)) := ⟨ha6.own (HA5.out.own.kept (fresh_alloc _ _)) (HZ5.out.own.offT HA5.out.own (by decide)), HA5.out.blk⟩
              obtain ⟨v6', k6, rfl, _⟩ := ho6.rd
              clear ho6 ha6 HA5 HZ5 HC5
              go_wp2
              go_roundw
              case rel => exact ⟨r + 1, by omega, by go_num, HA6, HZ6, HC6⟩
              case measure => simp [intOf]; omega
            · obtain rfl : r = 64 := by omega
              generalize wr = w9 at *
              have HC69 : Hid (Chg w6 w9 (fun q => (Value.slice uo k ko).ownBlock = some q ∨ (Value.slice uz j kz).ownBlock = some q)) := HG8.out.trans HC.out (fun _ _ t => t)
              have HB49 : Hid (Below w4.heap.size w4 w9) := HC69.out.below HB46.out HB46.out.size (fun q t => t.elim (fun t => (HL1.out q t).1) (fun t => (HL2.out q t).1))
              have HNH : Hid (∀ q, pb ≤ q → ¬ ((Value.slice uo k ko).ownBlock = some q ∨ (Value.slice uz j kz).ownBlock = some q)) := fun q hq t => t.elim (fun t => (by have := HL1.out _ t; omega)) (fun t => (by have := HL2.out _ t; omega))
              have HRP9 := hidd (HC69.out.row HRP'.out (HNH.out pb (Nat.le_refl _)))
              have HRQ9 := hidd (HC69.out.row HRQ.out (HNH.out qb (Nat.le_of_lt HQG.out)))
              have HQ19 := hidd (own_rda (HQ1.out.chg HC69.out (fun q hq => HNH.out q (by have := (HQ1.out.lt q hq).1; have := HPL.out; omega))))
              have HQ29 := hidd (own_rda (HQ2.out.chg HC69.out (fun q hq => HNH.out q (by have := (HQ2.out.lt q hq).1; have := HPL.out; omega))))
              have HM9 := hidd (HKP.out w9 _ _ _ _ _ (HX4.out.fresh HB49.out) h0c.out HER.out (HY4.out.fresh HB49.out))
              obtain ⟨s0, s1, s2, s3, s4⟩ := S4.out w9 HB49.out
              clear HA HZ HC HG8 HC69 HB48 HKP HNP
              go_upto_region 23 with (go_at_call 9; with_reducible refine HM9.out.mono ?_; rintro e wt ⟨ta, tz, l1, l2, rfl, hbt, o1, o2⟩)
              have HFA := hidd (fresh_alloc wt (.cells #[.slice ta k l1, .slice tz j l2] 28))
              have HRT := hidd (two_new wt (.slice ta k l1) (.slice tz j l2) 28)
              have HT1 := hidd (own_rda (o1.kept HFA.out))
              have HT2 := hidd (own_rda (o2.kept HFA.out))
              have HB9A := hidd (hbt.trans (HFA.out.mono hbt.size))
              obtain ⟨tb, HTB⟩ : ∃ pb, Hid (pb = wt.heap.size) := ⟨_, rfl⟩
              rw [← HTB.out] at HRT ⊢
              generalize wt.alloc (.cells #[.slice ta k l1, .slice tz j l2] 28) = wA at *
              have HB4A := hidd (HB49.out.trans (HB9A.out.mono HB49.out.size))
              have HF0A := hidd (HF4.out.trans (HB4A.out.mono HF4.out.size))
              have HAG1 := hidd (HAG.out wA HF0A.out)
              clear s0 s1 s2 s3 s4 hbt o1 o2 HTB HM9 HAG HFA
              obtain ⟨s0, s1, s2, s3, s4⟩ := S4.out wA HB4A.out
              go_upto_region 24 with (go_at_call 15; with_reducible refine HAG1.out.mono ?_; rintro e wB ⟨rfl, hbB⟩)
              have HB9B := hidd (HB9A.out.trans (hbB.mono HB9A.out.size))
              have HB4B := hidd (HB4A.out.trans (hbB.mono HB4A.out.size))
              have HBAB := hidd hbB
              clear s0 s1 s2 s3 s4 hbB HAG1 S4
              have q0 : wB.cell? ⟨qb, 0, none⟩ = some (.slice vo k k1) := fresh_cell HB9B.out (HRQ9.out.cell (i := 0) (by decide))
              have q1 : wB.cell? ⟨qb, 1, none⟩ = some (.slice vz j k2) := fresh_cell HB9B.out (HRQ9.out.cell (i := 1) (by decide))
              have y0 : wB.cell? ⟨wb, 0, none⟩ = some (.slice uw k kw) := fresh_cell HB4B.out (HRW.out.cell (i := 0) (by decide))
              have y1 : wB.cell? ⟨wb, 1, none⟩ = some (.slice uy j ky) := fresh_cell HB4B.out (HRW.out.cell (i := 1) (by decide))
              have t0 : wB.cell? ⟨tb, 0, none⟩ = some (.slice ta k l1) := fresh_cell HBAB.out (HRT.out.cell (i := 0) (by decide))
              have t1 : wB.cell? ⟨tb, 1, none⟩ = some (.slice tz j l2) := fresh_cell HBAB.out (HRT.out.cell (i := 1) (by decide))
              have HE1 := hidd (eqPlan_same (HQ19.out.fresh HB9B.out) (HQ29.out.fresh HB9B.out) (HW1.out.fresh HB4B.out) (HW2.out.fresh HB4B.out))
              have HE2 := hidd (fun (z : World) (hz : Below wB.heap.size wB z) => (⟨fresh_cell hz y0, fresh_cell hz y1, fresh_cell hz t0, fresh_cell hz t1, hz, eqPlan_same ((HT1.out.fresh HBAB.out).fresh hz) ((HT2.out.fresh HBAB.out).fresh hz) ((HW1.out.fresh HB4B.out).fresh hz) ((HW2.out.fresh HB4B.out).fresh hz)⟩ : _ ∧ _ ∧ _ ∧ _ ∧ _ ∧ _))
              clear HRQ9 HRW HRT
              go_upto_region 25 with (first
                | (go_at_call 10; with_reducible refine HE1.out.mono ?_; rintro e wC ⟨rfl, hbC⟩; obtain ⟨y0', y1', t0', t1', hbC', HE3⟩ := HE2.out wC hbC; clear HE1 HE2 y0 y1 t0 t1 q0 q1)
                | (go_at_call 10; with_reducible refine HE3.mono ?_; rintro e wD ⟨rfl, hbD⟩))
              have HBCD := hidd (hbC'.trans (hbD.mono hbC'.size))
              have HB4D := hidd (HB4B.out.trans (HBCD.out.mono HB4B.out.size))
              have HB9D := hidd (HB9B.out.trans (HBCD.out.mono HB9B.out.size))
              have HF0D := hidd (HF4.out.trans (HB4D.out.mono HF4.out.size))
              have p0 : wD.cell? ⟨pb, 0, none⟩ = some (.slice uo k ko) := fresh_cell HB9D.out (HRP9.out.cell (i := 0) (by decide))
              have p1 : wD.cell? ⟨pb, 1, none⟩ = some (.slice uz j kz) := fresh_cell HB9D.out (HRP9.out.cell (i := 1) (by decide))
              have HES := hidd (eqSeats_same (HX4.out.fresh HB4D.out) (HSE.out.fresh HF0D.out) HER.out)
              have HEI := hidd (fun (z : World) (hz : Below wD.heap.size wD z) => eqI_same ((HY4.out.fresh HB4D.out).fresh hz) ((HPK.out.fresh HF0D.out).fresh hz))
              have HPZ := hidd (fun (z : World) (hz : Below wD.heap.size wD z) => (⟨fresh_cell hz p0, fresh_cell hz p1⟩ : _ ∧ _))
              clear hbC' hbC hbD HE3 y0' y1' t0' t1' p0 p1 HRP9
              go_wp2_with (first
                | (go_at_call 16; with_reducible refine HES.out.mono ?_; rintro e wE ⟨rfl, hbE⟩; have HEJ := hidd (HEI.out wE hbE); have HBE := hidd hbE; clear hbE HES HEI)
                | (go_at_call 17; with_reducible refine HEJ.out.mono ?_; rintro e wG ⟨rfl, hbG⟩; have HBG := hidd (HBE.out.trans (hbG.mono HBE.out.size)); obtain ⟨p0, p1⟩ := HPZ.out wG HBG.out; clear hbG HEJ HPZ))
              go_ret
              exact ⟨rfl, HF0D.out.trans (HBG.out.mono HF0D.out.size)⟩
end Go.Proofs.Ytdceahebkohbjab
