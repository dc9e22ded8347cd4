import Derived.Test.YtdceahebkohbjabScX
namespace Go.Proofs.Ytdceahebkohbjab
open Go.RowKit
/-! planned. -/
theorem MkR.fresh {w w' w'' : World} {c : Me} {n : Nat} {S : Nat → Se} {pk : Int → Bool} {vO vZ : Value} {no nz : Nat} {x : Int} (h : MkR w w' c n S pk vO vZ no nz x) (f : Below w'.heap.size w' w'') : MkR w w'' c n S pk vO vZ no nz x :=
  ⟨h.low.trans (f.mono h.low.size), h.sO, h.sZ, fun h1 h2 => by
    obtain ⟨e, L, q1, q2, q3, q4⟩ := h.ok h1 h2
    exact ⟨e, L, q1, q2, q3.kept f, q4.kept f⟩, h.bad⟩
/-- what is known when the plan lies in its own variable -/
structure FnP (w3 W9 : World) (pb : Nat) (c : Me) (n : Nat) (S : Nat → Se) (pk : Int → Bool) (vO vZ : Value) (no nz : Nat) (x : Int) : Prop where
  row : W9.rowIs pb 28 2 (two vO vZ)
  ok : okM c 1 → okA c n S → x = 0 ∧ PlD W9 w3.heap.size c n S pk vO vZ
  bad : ¬ (okM c 1 ∧ okA c n S) → ¬ x = 0 ∧ no = 0 ∧ nz = 0
theorem fin_planned {w3 z W : World} {g : Nat} {bs bl bu ch tr : Int} {c : Me} {n : Nat} {S : Nat → Se} {pk : Int → Bool} {vO vZ : Value} {no nz : Nat} {x : Int} {pb : Nat} {old : Array Value} (hm : MkR z W c n S pk vO vZ no nz x) (hs : (Below w3.heap.size w3 W ∧ W.cell? ⟨g, 0, none⟩ = some (.int .i64 bs) ∧ W.cell? ⟨g, 1, none⟩ = some (.int .i64 bl) ∧ W.cell? ⟨g, 2, none⟩ = some (.int .i64 bu) ∧ W.cell? ⟨g, 3, none⟩ = some (.int .i64 ch) ∧ W.cell? ⟨g, 4, none⟩ = some (.int .i64 tr))) (hold : W.heap[pb]? = some (.cells old 28 (0, 0))) (hosz : old.size = 2) (hpw : w3.heap.size ≤ pb) (hg : g < w3.heap.size) (hz : w3.heap.size ≤ z.heap.size) :
    (Below w3.heap.size w3 (W.setRow pb #[vO, vZ]) ∧ (W.setRow pb #[vO, vZ]).cell? ⟨g, 0, none⟩ = some (.int .i64 bs) ∧ (W.setRow pb #[vO, vZ]).cell? ⟨g, 1, none⟩ = some (.int .i64 bl) ∧ (W.setRow pb #[vO, vZ]).cell? ⟨g, 2, none⟩ = some (.int .i64 bu) ∧ (W.setRow pb #[vO, vZ]).cell? ⟨g, 3, none⟩ = some (.int .i64 ch) ∧ (W.setRow pb #[vO, vZ]).cell? ⟨g, 4, none⟩ = some (.int .i64 tr)) ∧ FnP w3 (W.setRow pb #[vO, vZ]) pb c n S pk vO vZ no nz x := by
  have hrow : W.rowIs pb 28 2 (fun i => old.getD i undef) := ⟨old, hold, hosz, fun i hi => by simp [hosz, hi]⟩
  have hc := chg_setRow W pb #[vO, vZ]
  refine ⟨sc_set hs _ hpw hg, ⟨?_, fun h1 h2 => ?_, hm.bad⟩⟩
  · refine ⟨_, setRow_heap W pb old _ 28 (0, 0) hold, rfl, fun i hi => ?_⟩
    have : i = 0 ∨ i = 1 := by omega
    rcases this with rfl | rfl <;> rfl
  · obtain ⟨e, L, q1, q2, q3, q4⟩ := hm.ok h1 h2
    exact ⟨e, L, q1, q2, (q3.chg hc (fun k hk e => q3.apart hrow (by decide) (by rw [hk, e]))).weaken hz, (q4.chg hc (fun k hk e => q4.apart hrow (by decide) (by rw [hk, e]))).weaken hz⟩
theorem PlD.chg {w' w'' : World} {base : Nat} {c : Me} {n : Nat} {S : Nat → Se} {pk : Int → Bool} {vO vZ : Value} {T : Nat → Prop} (h : PlD w' base c n S pk vO vZ) (k : Chg w' w'' T) (hT : ∀ x, T x → x < base) : PlD w'' base c n S pk vO vZ := by
  obtain ⟨L, q1, q2, q3, q4⟩ := h
  exact ⟨L, q1, q2, q3.chg k (fun x hx t => by have := (q3.lt x hx).1; have := hT x t; omega), q4.chg k (fun x hx t => by have := (q4.lt x hx).1; have := hT x t; omega)⟩
theorem PlD.weaken {w' : World} {base base' : Nat} {c : Me} {n : Nat} {S : Nat → Se} {pk : Int → Bool} {vO vZ : Value} (h : PlD w' base c n S pk vO vZ) (k : base' ≤ base) : PlD w' base' c n S pk vO vZ := by
  obtain ⟨L, q1, q2, q3, q4⟩ := h
  exact ⟨L, q1, q2, q3.weaken k, q4.weaken k⟩
theorem PlD.kept {w' w'' : World} {base : Nat} {c : Me} {n : Nat} {S : Nat → Se} {pk : Int → Bool} {vO vZ : Value} (h : PlD w' base c n S pk vO vZ) (f : Below w'.heap.size w' w'') : PlD w'' base c n S pk vO vZ := by
  obtain ⟨L, q1, q2, q3, q4⟩ := h
  exact ⟨L, q1, q2, q3.kept f, q4.kept f⟩
/-- what planned answers -/
structure PdR (w w' : World) (c : Me) (n : Nat) (S : Nat → Se) (pk : Int → Bool) (vO vZ : Value) (may : Bool) : Prop where
  low : Below w.heap.size w w'
  sO : ∃ u m k, vO = .slice u m k
  sZ : ∃ u m k, vZ = .slice u m k
  iff : may = true ↔ okM c 1 ∧ okA c n S
  ok : may = true → PlD w' w.heap.size c n S pk vO vZ
def PdP (w : World) (c : Me) (n : Nat) (S : Nat → Se) (pk : Int → Bool) (e : Ending) (w' : World) : Prop := ∃ vO vZ may, e = .returned (.tuple #[.agg #[vO, vZ], .bool may, .bool true]) ∧ PdR w w' c n S pk vO vZ may
set_option maxRecDepth 100000 in
set_option maxHeartbeats 8000000 in
theorem planned_any {w : World} (c : Me) {ao po : Option Addr} {n cap m cp : Nat} {S : Nat → Se} {P : Nat → Int} (hS : SeA w ao n cap S) (hn : n * 56 ≤ 140737488351232) (hh : ∀ i, i < n → (S i).hn ≤ 17592186043904) (hP : RdA w po 1 m cp (fun i => .int .i64 (P i))) (hm : m ≤ 17592186043904) :
    Calls Try.prog 6 #[mV c, .slice ao n cap, .slice po m cp] w (PdP w c n S (hasI P m)) := by
  have HWK := hidd works_any
  have HSE := hidd hS
  have HPK := hidd hP
  have HCK := hidd (fun w x h1 h2 => rcheck_any w c 1 x h1 h2)
  have HRS := hidd (fun (hc : okM c 1) (z : World) (hz : Below w.heap.size w z) x h1 h2 => rseats_any c hc (hS.fresh hz) x h1 h2)
  obtain ⟨bs, bl, bu, ch, tr⟩ := c
  unfold mV at *
  simp only at HCK HRS ⊢
  have HF : Hid (Below w.heap.size w ((w.alloc (.cells #[.int .i64 bs, .int .i64 bl, .int .i64 bu, .int .i64 ch, .int .i64 tr] 23)).alloc (.cells #[.slice none 0 0, .slice none 0 0] 28))) := ((Below.refl _ w).alloc (Nat.le_refl _) _).alloc (by simp) _
  have HC6 : Hid (((w.alloc (.cells #[.int .i64 bs, .int .i64 bl, .int .i64 bu, .int .i64 ch, .int .i64 tr] 23)).alloc (.cells #[.slice none 0 0, .slice none 0 0] 28)).rowIs (w.heap.size + 1) 28 2 (two (.slice none 0 0) (.slice none 0 0))) := by
    have := two_new (w.alloc (.cells #[.int .i64 bs, .int .i64 bl, .int .i64 bu, .int .i64 ch, .int .i64 tr] 23)) (.slice none 0 0) (.slice none 0 0) 28
    rwa [show (w.alloc (.cells #[.int .i64 bs, .int .i64 bl, .int .i64 bu, .int .i64 ch, .int .i64 tr] 23)).heap.size = w.heap.size + 1 by simp] at this
  have HC5 : Hid (∀ z, Below ((w.alloc (.cells #[.int .i64 bs, .int .i64 bl, .int .i64 bu, .int .i64 ch, .int .i64 tr] 23)).alloc (.cells #[.slice none 0 0, .slice none 0 0] 28)).heap.size ((w.alloc (.cells #[.int .i64 bs, .int .i64 bl, .int .i64 bu, .int .i64 ch, .int .i64 tr] 23)).alloc (.cells #[.slice none 0 0, .slice none 0 0] 28)) z → z.cell? ⟨w.heap.size, 0, none⟩ = some (.int .i64 bs) ∧ z.cell? ⟨w.heap.size, 1, none⟩ = some (.int .i64 bl) ∧ z.cell? ⟨w.heap.size, 2, none⟩ = some (.int .i64 bu) ∧ z.cell? ⟨w.heap.size, 3, none⟩ = some (.int .i64 ch) ∧ z.cell? ⟨w.heap.size, 4, none⟩ = some (.int .i64 tr)) := fun z hz => by
    obtain ⟨e0, e1, e2, e3, e4⟩ := box5 w (.int .i64 bs) (.int .i64 bl) (.int .i64 bu) (.int .i64 ch) (.int .i64 tr) 23
    have f := fresh_trans (fresh_alloc (w.alloc (.cells #[.int .i64 bs, .int .i64 bl, .int .i64 bu, .int .i64 ch, .int .i64 tr] 23)) (.cells #[.slice none 0 0, .slice none 0 0] 28)) hz
    exact ⟨fresh_cell f e0, fresh_cell f e1, fresh_cell f e2, fresh_cell f e3, fresh_cell f e4⟩
  go_enter Try.func6, Try.ntmps6
  go_upto_region 2 with (go_at_call 11; with_reducible refine (HWK.out _).mono ?_; rintro e w3 ⟨rfl, hb3⟩)
  have HB3 := hidd (HF.out.trans (hb3.mono HF.out.size))
  have HR3 := hidd (HC6.out.of_block (hb3.block _ HC6.out.lt))
  obtain ⟨e0, e1, e2, e3, e4⟩ := HC5.out w3 hb3
  have HGW : Hid (w.heap.size < w3.heap.size) := by have := HR3.out.lt; show _ < _; omega
  have HSK : Hid (∀ z, Below w3.heap.size w3 z → (Below w3.heap.size w3 z ∧ z.cell? ⟨w.heap.size, 0, none⟩ = some (.int .i64 bs) ∧ z.cell? ⟨w.heap.size, 1, none⟩ = some (.int .i64 bl) ∧ z.cell? ⟨w.heap.size, 2, none⟩ = some (.int .i64 bu) ∧ z.cell? ⟨w.heap.size, 3, none⟩ = some (.int .i64 ch) ∧ z.cell? ⟨w.heap.size, 4, none⟩ = some (.int .i64 tr))) := fun z hz => ⟨hz, fresh_cell hz e0, fresh_cell hz e1, fresh_cell hz e2, fresh_cell hz e3, fresh_cell hz e4⟩
  have s0 := HSK.out w3.drew (Below.refl _ _).drew
  have HSP := hidd (HSK.out (w3.alloc (.cells #[.slice none 0 0, .slice none 0 0] 28)).drew (fresh_trans (fresh_alloc _ _) (Below.refl _ _).drew))
  have HCS : Hid (∀ z, Below w3.heap.size w3 z → Calls Try.prog 12 #[.slice ao n cap] z fun e w' => ∃ u c S', e = .returned (.slice u n c) ∧ SeA w' u n c S' ∧ (u = none → c = 0) ∧ (∀ i, i < n → er (S' i) = er (S i)) ∧ Below z.heap.size z w') := fun z hz => copyS_any (HSE.out.fresh (HB3.out.trans (hz.mono HB3.out.size))) hn hh
  have HCI : Hid (∀ z, Below w3.heap.size w3 z → Calls Try.prog 13 #[.slice po m cp] z fun e w' => ∃ u c, e = .returned (.slice u m c) ∧ RdA w' u 1 m c (fun i => .int .i64 (P i)) ∧ Below z.heap.size z w') := fun z hz => (copyI_any (HPK.out.fresh (HB3.out.trans (hz.mono HB3.out.size))) hm).mono (fun e w' q => by
    obtain ⟨u, c, q1, q2, q3⟩ := q
    exact ⟨u, c, q1, own_rda q2, q3⟩)
  clear hb3 e0 e1 e2 e3 e4 HC5 HC6 HF hS hP hh
  go_cut [10, 11, 14, 15, 16, 17, 18, 19, 20, 21, 22] (fun vp ve _ _ _ _ _ _ _ _ _ wx => ∃ qb uo no ko uz nz kz x, vp = .pointer (some ⟨qb, 0, none⟩) ∧ ve = .int .i64 x ∧ w3.heap.size ≤ qb ∧ FnP w3 wx qb ⟨bs, bl, bu, ch, tr⟩ n S (hasI P m) (.slice uo no ko) (.slice uz nz kz) no nz x ∧ (Below w3.heap.size w3 wx ∧ wx.cell? ⟨w.heap.size, 0, none⟩ = some (.int .i64 bs) ∧ wx.cell? ⟨w.heap.size, 1, none⟩ = some (.int .i64 bl) ∧ wx.cell? ⟨w.heap.size, 2, none⟩ = some (.int .i64 bu) ∧ wx.cell? ⟨w.heap.size, 3, none⟩ = some (.int .i64 ch) ∧ wx.cell? ⟨w.heap.size, 4, none⟩ = some (.int .i64 tr)))
  case first =>
    refine wp_region_held_drew (S := fun z => (Below w3.heap.size w3 z ∧ z.cell? ⟨w.heap.size, 0, none⟩ = some (.int .i64 bs) ∧ z.cell? ⟨w.heap.size, 1, none⟩ = some (.int .i64 bl) ∧ z.cell? ⟨w.heap.size, 2, none⟩ = some (.int .i64 bu) ∧ z.cell? ⟨w.heap.size, 3, none⟩ = some (.int .i64 ch) ∧ z.cell? ⟨w.heap.size, 4, none⟩ = some (.int .i64 tr))) (by kernel_rfl) s0 (fun hHeld => ?_)
    refine wpAnyH_take (i := 0) (v := ?vt1) rfl (by kernel_rfl) (by kernel_rfl) (by kernel_rfl) (fun _ _ _ h => h) (Or.inl ⟨by rfl, ?yt1⟩) s0 ?rt1
    case yt1 =>
      intro z hz
      obtain ⟨z0, z1, z2, z3, z4, z5⟩ := hz
      go_simp
      try with_reducible rfl
    refine wpAnyH_take (i := 1) (v := ?vt2) rfl (by kernel_rfl) (by kernel_rfl) (by kernel_rfl) (fun _ _ _ h => h) (Or.inl ⟨by rfl, ?yt2⟩) s0 ?rt2
    case yt2 =>
      intro z hz
      obtain ⟨z0, z1, z2, z3, z4, z5⟩ := hz
      go_simp
      try with_reducible rfl
    refine wpAnyH_take (i := 3) (v := ?vt3) rfl (by kernel_rfl) (by kernel_rfl) (by kernel_rfl) (fun _ _ _ h => h) (Or.inl ⟨by rfl, ?yt3⟩) s0 ?rt3
    case yt3 =>
      intro z hz
      obtain ⟨z0, z1, z2, z3, z4, z5⟩ := hz
      go_simp
      try with_reducible rfl
    refine wpAnyH_ready (rs := [2, 9]) (by kernel_rfl) (by simp) (AllReadyH.cons rfl (fun K hK => ?bt4) (AllReadyH.cons rfl (fun K hK => ?bt5) AllReadyH.nil))
    case bt4 =>
      go_simp
      refine (HCS.out _ s0.1).mono ?_
      rintro e wA ⟨u1, c1, S1, rfl, hse, hu0, her, hbA⟩
      have sA := sc_next s0 hbA
      refine hK.out _ _ sA (fun _ => ?_)
      clear hK K
      refine wpAnyH_ready (rs := [4, 9]) (by kernel_rfl) (by simp) (AllReadyH.cons rfl (fun K hK => ?bt6) (AllReadyH.cons rfl (fun K hK => ?bt7) AllReadyH.nil))
      case bt6 =>
        go_simp
        refine (HCI.out _ sA.1).mono ?_
        rintro e wB ⟨u2, c2, rfl, hri, hbB⟩
        have sB := sc_next sA hbB
        refine hK.out _ _ sB (fun _ => ?_)
        clear hK K
        replace hse := hse.fresh hbB
        refine wpAnyH_ready (rs := [5, 9]) (by kernel_rfl) (by simp) (AllReadyH.cons rfl (fun K hK => ?bt8) (AllReadyH.cons rfl (fun K hK => ?bt9) AllReadyH.nil))
        case bt8 =>
          go_simp
          refine (make_any ⟨bs, bl, bu, ch, tr⟩ hse hu0 her hri).mono ?_
          rintro e wM ⟨vO, vZ, no, nz, x, rfl, hmk⟩
          have hbM := hmk.low
          have hmz := sB.1.size
          obtain ⟨uo, ko, rfl⟩ := hmk.sO
          obtain ⟨uz, kz, rfl⟩ := hmk.sZ
          have sM := sc_next sB hbM
          refine hK.out _ _ sM (fun _ => ?_)
          clear hK K
          refine wpAnyH_take (i := 6) (v := ?vt10) rfl (by kernel_rfl) (by kernel_rfl) (by kernel_rfl) (fun _ _ _ h => h) (Or.inl ⟨by rfl, ?yt10⟩) sM ?rt10
          case yt10 =>
            intro z hz
            obtain ⟨z0, z1, z2, z3, z4, z5⟩ := hz
            go_simp
            try with_reducible rfl
          refine wpAnyH_take (i := 7) (v := ?vt11) rfl (by kernel_rfl) (by kernel_rfl) (by kernel_rfl) (fun _ _ _ h => h) (Or.inl ⟨by rfl, ?yt11⟩) sM ?rt11
          case yt11 =>
            intro z hz
            obtain ⟨z0, z1, z2, z3, z4, z5⟩ := hz
            go_simp
            try with_reducible rfl
          refine wpAnyH_take (i := 8) (v := ?vt12) rfl (by kernel_rfl) (by kernel_rfl) (by kernel_rfl) (fun _ _ _ h => h) (Or.inl ⟨by rfl, ?yt12⟩) sM ?rt12
          case yt12 =>
            intro z hz
            obtain ⟨z0, z1, z2, z3, z4, z5⟩ := hz
            go_simp
            try with_reducible rfl
          refine wpAnyH_ready (rs := [9]) (by kernel_rfl) (by simp) (AllReadyH.cons rfl (fun K hK => ?_) AllReadyH.nil)
          go_simp
          have hfp := fresh_alloc wM (.cells #[.slice none 0 0, .slice none 0 0] 28)
          have sP := sc_next sM hfp
          have hpb : ((wM.alloc (.cells #[.slice none 0 0, .slice none 0 0] 28))).rowIs wM.heap.size 28 2 (two (.slice none 0 0) (.slice none 0 0)) := two_new wM _ _ 28
          refine hK.out _ _ sP (fun _ => ?_)
          clear hK K
          obtain ⟨pb, hpe⟩ : ∃ pb, pb = wM.heap.size := ⟨_, rfl⟩
          rw [← hpe] at hpb
          have hpw : w3.heap.size ≤ pb := by rw [hpe]; exact sM.1.size
          replace hmk := MkR.fresh hmk hfp
          obtain ⟨old, hold, hosz, _⟩ := hpb
          refine wpAnyH_ready (rs := [10]) (by kernel_rfl) (by simp) (AllReadyH.cons rfl (fun K hK => ?_) AllReadyH.nil)
          refine step_store_row rfl 28 (.tmp 10) (.tmp 21) rfl wM.heap.size #[.slice uo no ko, .slice uz nz kz] rfl rfl 28 old (by rw [← hpe]; exact hold) size_plan hosz (all2 _ _ rfl rfl) ?_
          have hfin := fin_planned hmk sP hold hosz hpw HGW.out hmz
          rw [hpe] at hfin
          refine hK.out _ _ hfin.1 (fun _ => ?_)
          clear hK K
          refine wpAnyH_take (i := 11) (v := ?vt13) rfl (by kernel_rfl) (by kernel_rfl) (by kernel_rfl) (fun _ _ _ h => h) (Or.inl ⟨by rfl, ?yt13⟩) hfin.1 ?rt13
          case yt13 =>
            intro z hz
            obtain ⟨z0, z1, z2, z3, z4, z5⟩ := hz
            go_simp
            try with_reducible rfl
          refine wpAnyH_done (by kernel_rfl) ?_ _
          go_wp2_with fail
          go_meet
          case rel =>
            exact ⟨_, uo, no, ko, uz, nz, kz, x, rfl, rfl, Nat.le_trans hpw (Nat.le_of_eq hpe), hfin.2, hfin.1⟩
        case bt9 =>
          go_simp
          have hfp := fresh_alloc wB (.cells #[.slice none 0 0, .slice none 0 0] 28)
          have sP := sc_next sB hfp
          have hpb : ((wB.alloc (.cells #[.slice none 0 0, .slice none 0 0] 28))).rowIs wB.heap.size 28 2 (two (.slice none 0 0) (.slice none 0 0)) := two_new wB _ _ 28
          refine hK.out _ _ sP (fun _ => ?_)
          clear hK K
          obtain ⟨pb, hpe⟩ : ∃ pb, pb = wB.heap.size := ⟨_, rfl⟩
          rw [← hpe] at hpb
          have hpw : w3.heap.size ≤ pb := by rw [hpe]; exact sB.1.size
          replace hse := hse.fresh hfp
          replace hri := hri.fresh hfp
          refine wpAnyH_ready (rs := [5]) (by kernel_rfl) (by simp) (AllReadyH.cons rfl (fun K hK => ?bt14) AllReadyH.nil)
          case bt14 =>
            go_simp
            refine (make_any ⟨bs, bl, bu, ch, tr⟩ hse hu0 her hri).mono ?_
            rintro e wM ⟨vO, vZ, no, nz, x, rfl, hmk⟩
            have hbM := hmk.low
            have hmz := sP.1.size
            obtain ⟨uo, ko, rfl⟩ := hmk.sO
            obtain ⟨uz, kz, rfl⟩ := hmk.sZ
            have sM := sc_next sP hbM
            refine hK.out _ _ sM (fun _ => ?_)
            clear hK K
            replace hpb := hpb.of_block (hbM.block _ hpb.lt)
            refine wpAnyH_take (i := 6) (v := ?vt15) rfl (by kernel_rfl) (by kernel_rfl) (by kernel_rfl) (fun _ _ _ h => h) (Or.inl ⟨by rfl, ?yt15⟩) sM ?rt15
            case yt15 =>
              intro z hz
              obtain ⟨z0, z1, z2, z3, z4, z5⟩ := hz
              go_simp
              try with_reducible rfl
            refine wpAnyH_take (i := 7) (v := ?vt16) rfl (by kernel_rfl) (by kernel_rfl) (by kernel_rfl) (fun _ _ _ h => h) (Or.inl ⟨by rfl, ?yt16⟩) sM ?rt16
            case yt16 =>
              intro z hz
              obtain ⟨z0, z1, z2, z3, z4, z5⟩ := hz
              go_simp
              try with_reducible rfl
            refine wpAnyH_take (i := 8) (v := ?vt17) rfl (by kernel_rfl) (by kernel_rfl) (by kernel_rfl) (fun _ _ _ h => h) (Or.inl ⟨by rfl, ?yt17⟩) sM ?rt17
            case yt17 =>
              intro z hz
              obtain ⟨z0, z1, z2, z3, z4, z5⟩ := hz
              go_simp
              try with_reducible rfl
            obtain ⟨old, hold, hosz, _⟩ := hpb
            refine wpAnyH_ready (rs := [10]) (by kernel_rfl) (by simp) (AllReadyH.cons rfl (fun K hK => ?_) AllReadyH.nil)
            refine step_store_row rfl 28 (.tmp 10) (.tmp 21) rfl wB.heap.size #[.slice uo no ko, .slice uz nz kz] rfl rfl 28 old (by rw [← hpe]; exact hold) size_plan hosz (all2 _ _ rfl rfl) ?_
            have hfin := fin_planned hmk sM hold hosz hpw HGW.out hmz
            rw [hpe] at hfin
            refine hK.out _ _ hfin.1 (fun _ => ?_)
            clear hK K
            refine wpAnyH_take (i := 11) (v := ?vt18) rfl (by kernel_rfl) (by kernel_rfl) (by kernel_rfl) (fun _ _ _ h => h) (Or.inl ⟨by rfl, ?yt18⟩) hfin.1 ?rt18
            case yt18 =>
              intro z hz
              obtain ⟨z0, z1, z2, z3, z4, z5⟩ := hz
              go_simp
              try with_reducible rfl
            refine wpAnyH_done (by kernel_rfl) ?_ _
            go_wp2_with fail
            go_meet
            case rel =>
              exact ⟨_, uo, no, ko, uz, nz, kz, x, rfl, rfl, Nat.le_trans hpw (Nat.le_of_eq hpe), hfin.2, hfin.1⟩
      case bt7 =>
        go_simp
        have hfp := fresh_alloc wA (.cells #[.slice none 0 0, .slice none 0 0] 28)
        have sP := sc_next sA hfp
        have hpb : ((wA.alloc (.cells #[.slice none 0 0, .slice none 0 0] 28))).rowIs wA.heap.size 28 2 (two (.slice none 0 0) (.slice none 0 0)) := two_new wA _ _ 28
        refine hK.out _ _ sP (fun _ => ?_)
        clear hK K
        obtain ⟨pb, hpe⟩ : ∃ pb, pb = wA.heap.size := ⟨_, rfl⟩
        rw [← hpe] at hpb
        have hpw : w3.heap.size ≤ pb := by rw [hpe]; exact sA.1.size
        replace hse := hse.fresh hfp
        refine wpAnyH_ready (rs := [4]) (by kernel_rfl) (by simp) (AllReadyH.cons rfl (fun K hK => ?bt19) AllReadyH.nil)
        case bt19 =>
          go_simp
          refine (HCI.out _ sP.1).mono ?_
          rintro e wB ⟨u2, c2, rfl, hri, hbB⟩
          have sB := sc_next sP hbB
          refine hK.out _ _ sB (fun _ => ?_)
          clear hK K
          replace hse := hse.fresh hbB
          replace hpb := hpb.of_block (hbB.block _ hpb.lt)
          refine wpAnyH_ready (rs := [5]) (by kernel_rfl) (by simp) (AllReadyH.cons rfl (fun K hK => ?bt20) AllReadyH.nil)
          case bt20 =>
            go_simp
            refine (make_any ⟨bs, bl, bu, ch, tr⟩ hse hu0 her hri).mono ?_
            rintro e wM ⟨vO, vZ, no, nz, x, rfl, hmk⟩
            have hbM := hmk.low
            have hmz := sB.1.size
            obtain ⟨uo, ko, rfl⟩ := hmk.sO
            obtain ⟨uz, kz, rfl⟩ := hmk.sZ
            have sM := sc_next sB hbM
            refine hK.out _ _ sM (fun _ => ?_)
            clear hK K
            replace hpb := hpb.of_block (hbM.block _ hpb.lt)
            refine wpAnyH_take (i := 6) (v := ?vt21) rfl (by kernel_rfl) (by kernel_rfl) (by kernel_rfl) (fun _ _ _ h => h) (Or.inl ⟨by rfl, ?yt21⟩) sM ?rt21
            case yt21 =>
              intro z hz
              obtain ⟨z0, z1, z2, z3, z4, z5⟩ := hz
              go_simp
              try with_reducible rfl
            refine wpAnyH_take (i := 7) (v := ?vt22) rfl (by kernel_rfl) (by kernel_rfl) (by kernel_rfl) (fun _ _ _ h => h) (Or.inl ⟨by rfl, ?yt22⟩) sM ?rt22
            case yt22 =>
              intro z hz
              obtain ⟨z0, z1, z2, z3, z4, z5⟩ := hz
              go_simp
              try with_reducible rfl
            refine wpAnyH_take (i := 8) (v := ?vt23) rfl (by kernel_rfl) (by kernel_rfl) (by kernel_rfl) (fun _ _ _ h => h) (Or.inl ⟨by rfl, ?yt23⟩) sM ?rt23
            case yt23 =>
              intro z hz
              obtain ⟨z0, z1, z2, z3, z4, z5⟩ := hz
              go_simp
              try with_reducible rfl
            obtain ⟨old, hold, hosz, _⟩ := hpb
            refine wpAnyH_ready (rs := [10]) (by kernel_rfl) (by simp) (AllReadyH.cons rfl (fun K hK => ?_) AllReadyH.nil)
            refine step_store_row rfl 28 (.tmp 10) (.tmp 21) rfl wA.heap.size #[.slice uo no ko, .slice uz nz kz] rfl rfl 28 old (by rw [← hpe]; exact hold) size_plan hosz (all2 _ _ rfl rfl) ?_
            have hfin := fin_planned hmk sM hold hosz hpw HGW.out hmz
            rw [hpe] at hfin
            refine hK.out _ _ hfin.1 (fun _ => ?_)
            clear hK K
            refine wpAnyH_take (i := 11) (v := ?vt24) rfl (by kernel_rfl) (by kernel_rfl) (by kernel_rfl) (fun _ _ _ h => h) (Or.inl ⟨by rfl, ?yt24⟩) hfin.1 ?rt24
            case yt24 =>
              intro z hz
              obtain ⟨z0, z1, z2, z3, z4, z5⟩ := hz
              go_simp
              try with_reducible rfl
            refine wpAnyH_done (by kernel_rfl) ?_ _
            go_wp2_with fail
            go_meet
            case rel =>
              exact ⟨_, uo, no, ko, uz, nz, kz, x, rfl, rfl, Nat.le_trans hpw (Nat.le_of_eq hpe), hfin.2, hfin.1⟩
    case bt5 =>
      go_simp
      have sP := HSP.out
      have hpb : ((w3.alloc (.cells #[.slice none 0 0, .slice none 0 0] 28)).drew).rowIs w3.heap.size 28 2 (two (.slice none 0 0) (.slice none 0 0)) := two_new w3 _ _ 28
      have hpw : w3.heap.size ≤ w3.heap.size := Nat.le_refl _
      refine hK.out _ _ sP (fun _ => ?_)
      clear hK K
      obtain ⟨pb, hpe⟩ : ∃ pb, pb = w3.heap.size := ⟨_, rfl⟩
      rw [← hpe] at hpb
      have hpw : w3.heap.size ≤ pb := Nat.le_of_eq hpe.symm
      refine wpAnyH_ready (rs := [2]) (by kernel_rfl) (by simp) (AllReadyH.cons rfl (fun K hK => ?bt25) AllReadyH.nil)
      case bt25 =>
        go_simp
        refine (HCS.out _ sP.1).mono ?_
        rintro e wA ⟨u1, c1, S1, rfl, hse, hu0, her, hbA⟩
        have sA := sc_next sP hbA
        refine hK.out _ _ sA (fun _ => ?_)
        clear hK K
        replace hpb := hpb.of_block (hbA.block _ hpb.lt)
        refine wpAnyH_ready (rs := [4]) (by kernel_rfl) (by simp) (AllReadyH.cons rfl (fun K hK => ?bt26) AllReadyH.nil)
        case bt26 =>
          go_simp
          refine (HCI.out _ sA.1).mono ?_
          rintro e wB ⟨u2, c2, rfl, hri, hbB⟩
          have sB := sc_next sA hbB
          refine hK.out _ _ sB (fun _ => ?_)
          clear hK K
          replace hse := hse.fresh hbB
          replace hpb := hpb.of_block (hbB.block _ hpb.lt)
          refine wpAnyH_ready (rs := [5]) (by kernel_rfl) (by simp) (AllReadyH.cons rfl (fun K hK => ?bt27) AllReadyH.nil)
          case bt27 =>
            go_simp
            refine (make_any ⟨bs, bl, bu, ch, tr⟩ hse hu0 her hri).mono ?_
            rintro e wM ⟨vO, vZ, no, nz, x, rfl, hmk⟩
            have hbM := hmk.low
            have hmz := sB.1.size
            obtain ⟨uo, ko, rfl⟩ := hmk.sO
            obtain ⟨uz, kz, rfl⟩ := hmk.sZ
            have sM := sc_next sB hbM
            refine hK.out _ _ sM (fun _ => ?_)
            clear hK K
            replace hpb := hpb.of_block (hbM.block _ hpb.lt)
            refine wpAnyH_take (i := 6) (v := ?vt28) rfl (by kernel_rfl) (by kernel_rfl) (by kernel_rfl) (fun _ _ _ h => h) (Or.inl ⟨by rfl, ?yt28⟩) sM ?rt28
            case yt28 =>
              intro z hz
              obtain ⟨z0, z1, z2, z3, z4, z5⟩ := hz
              go_simp
              try with_reducible rfl
            refine wpAnyH_take (i := 7) (v := ?vt29) rfl (by kernel_rfl) (by kernel_rfl) (by kernel_rfl) (fun _ _ _ h => h) (Or.inl ⟨by rfl, ?yt29⟩) sM ?rt29
            case yt29 =>
              intro z hz
              obtain ⟨z0, z1, z2, z3, z4, z5⟩ := hz
              go_simp
              try with_reducible rfl
            refine wpAnyH_take (i := 8) (v := ?vt30) rfl (by kernel_rfl) (by kernel_rfl) (by kernel_rfl) (fun _ _ _ h => h) (Or.inl ⟨by rfl, ?yt30⟩) sM ?rt30
            case yt30 =>
              intro z hz
              obtain ⟨z0, z1, z2, z3, z4, z5⟩ := hz
              go_simp
              try with_reducible rfl
            obtain ⟨old, hold, hosz, _⟩ := hpb
            refine wpAnyH_ready (rs := [10]) (by kernel_rfl) (by simp) (AllReadyH.cons rfl (fun K hK => ?_) AllReadyH.nil)
            refine step_store_row rfl 28 (.tmp 10) (.tmp 21) rfl w3.heap.size #[.slice uo no ko, .slice uz nz kz] rfl rfl 28 old (by rw [← hpe]; exact hold) size_plan hosz (all2 _ _ rfl rfl) ?_
            have hfin := fin_planned hmk sM hold hosz hpw HGW.out hmz
            rw [hpe] at hfin
            refine hK.out _ _ hfin.1 (fun _ => ?_)
            clear hK K
            refine wpAnyH_take (i := 11) (v := ?vt31) rfl (by kernel_rfl) (by kernel_rfl) (by kernel_rfl) (fun _ _ _ h => h) (Or.inl ⟨by rfl, ?yt31⟩) hfin.1 ?rt31
            case yt31 =>
              intro z hz
              obtain ⟨z0, z1, z2, z3, z4, z5⟩ := hz
              go_simp
              try with_reducible rfl
            refine wpAnyH_done (by kernel_rfl) ?_ _
            go_wp2_with fail
            go_meet
            case rel =>
              exact ⟨_, uo, no, ko, uz, nz, kz, x, rfl, rfl, Nat.le_trans hpw (Nat.le_of_eq hpe), hfin.2, hfin.1⟩
  case rest =>
    obtain ⟨qb, uo, no, ko, uz, nz, kz, x, h1, h2, hqb, hfi, hsc⟩ := hcut
    subst h1 h2
    have HFI := hidd hfi
    have HSC := hidd hsc
    have hne : ¬ qb = w.heap.size + 1 := by have := HR3.out.lt; omega
    have hne2 : ¬ w.heap.size + 1 = qb := fun e => hne e.symm
    clear hfi hsc s0 HSP hqb
    generalize wc = W9 at *
    obtain ⟨hbw, f0, f1, f2, f3, f4⟩ := HSC.out
    have HBW := hidd (HB3.out.trans (hbw.mono HB3.out.size))
    have HB39 := hidd hbw
    clear hbw
    by_cases hc : okM ⟨bs, bl, bu, ch, tr⟩ 1
    · have HC1 := hidd (HCK.out W9 0 (fun _ => rfl) (fun h => absurd hc h))
      by_cases ha : okA ⟨bs, bl, bu, ch, tr⟩ n S
      · obtain ⟨hx, hpl⟩ := HFI.out.ok hc ha
        subst hx
        have HPL := hidd hpl
        have HROW := hidd HFI.out.row
        have HS1 : Hid (∀ z, Below W9.heap.size W9 z → Calls Try.prog 23 #[.agg #[.int .i64 bs, .int .i64 bl, .int .i64 bu, .int .i64 ch, .int .i64 tr], .slice ao n cap] z fun e w' => e = .returned (.int .i64 0) ∧ Below z.heap.size z w') := fun z hz => HRS.out hc z (HBW.out.trans (hz.mono HBW.out.size)) 0 (fun _ => rfl) (fun h => absurd ha h)
        have HIFF : Hid (okM ⟨bs, bl, bu, ch, tr⟩ 1 ∧ okA ⟨bs, bl, bu, ch, tr⟩ n S) := ⟨hc, ha⟩
        clear hpl hc ha
        go_upto_region 6 with (first
          | (go_at_call 22; with_reducible refine HC1.out.mono ?_; rintro e w10 ⟨rfl, hb10⟩; have f0 := fresh_cell hb10 f0; have f1 := fresh_cell hb10 f1; have f2 := fresh_cell hb10 f2; have f3 := fresh_cell hb10 f3; have f4 := fresh_cell hb10 f4; have HB10 := hidd hb10; clear hb10; have HS2 := hidd (HS1.out w10 HB10.out)) | (go_at_call 23; with_reducible refine HS2.out.mono ?_; rintro e w11 ⟨rfl, hb11⟩; have HB11 := hidd (HB10.out.trans (hb11.mono HB10.out.size)); clear hb11))
        have r1 := HROW.out.of_block (HB11.out.block _ HROW.out.lt)
        have p0 : w11.cell? ⟨qb, 0, none⟩ = some (.slice uo no ko) := r1.cell (i := 0) (by decide)
        have p1 : w11.cell? ⟨qb, 1, none⟩ = some (.slice uz nz kz) := r1.cell (i := 1) (by decide)
        have HB3b := hidd (HB39.out.trans (HB11.out.mono HB39.out.size))
        have r3 := HR3.out.of_block (HB3b.out.block _ HR3.out.lt)
        have g0 := r3.cell (i := 0) (by decide)
        have g1 := r3.cell (i := 1) (by decide)
        have gf := r3.frozen
        have HR3b := hidd r3
        have HBF := hidd (HBW.out.trans (HB11.out.mono HBW.out.size))
        have HPF := hidd (HPL.out.kept HB11.out)
        clear r1 r3 f0 f1 f2 f3 f4
        go_wp2
        (try simp only [Exit.inBlock, Exit.then]); refine bodyPost_ret (ret_plan3 rfl _ _ (w.heap.size + 1) _ _ _ _ rfl (two_set2 HR3b.out _ _) rfl rfl) rfl ?_
        refine ⟨_, _, true, rfl, ⟨(HBF.out.setCell (by simp) _).setCell (by simp) _, ⟨_, _, _, rfl⟩, ⟨_, _, _, rfl⟩, ⟨fun _ => HIFF.out, fun _ => rfl⟩, fun _ => ?_⟩⟩
        have hlt := HR3.out.lt
        exact ((HPF.out.chg (Chg.of_set w11 (w.heap.size + 1) 0 _) (fun x e => by omega)).chg (Chg.of_set _ (w.heap.size + 1) 1 _) (fun x e => by omega)).weaken (by omega)
      · obtain ⟨hx, hno, hnz⟩ := HFI.out.bad (fun h => ha h.2)
        subst hno hnz
        have dx : (x != 0) = true := by simp; exact hx
        have HROW := hidd HFI.out.row
        have HS1 : Hid (∀ z, Below W9.heap.size W9 z → Calls Try.prog 23 #[.agg #[.int .i64 bs, .int .i64 bl, .int .i64 bu, .int .i64 ch, .int .i64 tr], .slice ao n cap] z fun e w' => e = .returned (.int .i64 1) ∧ Below z.heap.size z w') := fun z hz => HRS.out hc z (HBW.out.trans (hz.mono HBW.out.size)) 1 (fun h => absurd h ha) (fun _ => rfl)
        have HIFF : Hid (¬ (okM ⟨bs, bl, bu, ch, tr⟩ 1 ∧ okA ⟨bs, bl, bu, ch, tr⟩ n S)) := fun h => ha h.2
        clear hc ha hx
        go_upto_region 5 with (first
          | (go_at_call 22; with_reducible refine HC1.out.mono ?_; rintro e w10 ⟨rfl, hb10⟩; have f0 := fresh_cell hb10 f0; have f1 := fresh_cell hb10 f1; have f2 := fresh_cell hb10 f2; have f3 := fresh_cell hb10 f3; have f4 := fresh_cell hb10 f4; have HB10 := hidd hb10; clear hb10; have HS2 := hidd (HS1.out w10 HB10.out)) | (go_at_call 23; with_reducible refine HS2.out.mono ?_; rintro e w11 ⟨rfl, hb11⟩; have HB11 := hidd (HB10.out.trans (hb11.mono HB10.out.size)); clear hb11))
        have r1 := HROW.out.of_block (HB11.out.block _ HROW.out.lt)
        have p0 : w11.cell? ⟨qb, 0, none⟩ = some (.slice uo 0 ko) := r1.cell (i := 0) (by decide)
        have p1 : w11.cell? ⟨qb, 1, none⟩ = some (.slice uz 0 kz) := r1.cell (i := 1) (by decide)
        have HB3b := hidd (HB39.out.trans (HB11.out.mono HB39.out.size))
        have r3 := HR3.out.of_block (HB3b.out.block _ HR3.out.lt)
        have HR3b := hidd r3
        have HBF := hidd (HBW.out.trans (HB11.out.mono HBW.out.size))
        have g0 := r3.cell (i := 0) (by decide)
        have g1 := r3.cell (i := 1) (by decide)
        have gf := r3.frozen
        clear r1 r3 f0 f1 f2 f3 f4
        go_region
        all_goals
          go_wp2
          (try simp only [Exit.inBlock, Exit.then]); refine bodyPost_ret (ret_plan3 rfl _ _ (w.heap.size + 1) _ _ _ _ rfl (two_set2 HR3b.out _ _) rfl rfl) rfl ?_
          exact ⟨_, _, false, rfl, ⟨((HBF.out.setCell (by simp) _).setCell (by simp) _).drew, ⟨_, _, _, rfl⟩, ⟨_, _, _, rfl⟩, ⟨fun h => (by cases h), fun h => absurd h HIFF.out⟩, fun h => (by cases h)⟩⟩
    · obtain ⟨hx, hno, hnz⟩ := HFI.out.bad (fun h => hc h.1)
      subst hno hnz
      have dx : (x != 0) = true := by simp; exact hx
      have HROW := hidd HFI.out.row
      have HC1 := hidd (HCK.out W9 200 (fun h => absurd h hc) (fun _ => rfl))
      have HIFF : Hid (¬ (okM ⟨bs, bl, bu, ch, tr⟩ 1 ∧ okA ⟨bs, bl, bu, ch, tr⟩ n S)) := fun h => hc h.1
      clear hc hx
      go_upto_region 5 with (first
        | (go_at_call 22; with_reducible refine HC1.out.mono ?_; rintro e w10 ⟨rfl, hb10⟩; have f0 := fresh_cell hb10 f0; have f1 := fresh_cell hb10 f1; have f2 := fresh_cell hb10 f2; have f3 := fresh_cell hb10 f3; have f4 := fresh_cell hb10 f4; have HB10 := hidd hb10; clear hb10))
      have r1 := HROW.out.of_block (HB10.out.block _ HROW.out.lt)
      have p0 : w10.cell? ⟨qb, 0, none⟩ = some (.slice uo 0 ko) := r1.cell (i := 0) (by decide)
      have p1 : w10.cell? ⟨qb, 1, none⟩ = some (.slice uz 0 kz) := r1.cell (i := 1) (by decide)
      have HB3b := hidd (HB39.out.trans (HB10.out.mono HB39.out.size))
      have r3 := HR3.out.of_block (HB3b.out.block _ HR3.out.lt)
      have HR3b := hidd r3
      have HBF := hidd (HBW.out.trans (HB10.out.mono HBW.out.size))
      have g0 := r3.cell (i := 0) (by decide)
      have g1 := r3.cell (i := 1) (by decide)
      have gf := r3.frozen
      clear r1 r3 f0 f1 f2 f3 f4
      go_region
      all_goals
        go_wp2
        (try simp only [Exit.inBlock, Exit.then]); refine bodyPost_ret (ret_plan3 rfl _ _ (w.heap.size + 1) _ _ _ _ rfl (two_set2 HR3b.out _ _) rfl rfl) rfl ?_
        exact ⟨_, _, false, rfl, ⟨((HBF.out.setCell (by simp) _).setCell (by simp) _).drew, ⟨_, _, _, rfl⟩, ⟨_, _, _, rfl⟩, ⟨fun h => (by cases h), fun h => absurd h HIFF.out⟩, fun h => (by cases h)⟩⟩
end Go.Proofs.Ytdceahebkohbjab
