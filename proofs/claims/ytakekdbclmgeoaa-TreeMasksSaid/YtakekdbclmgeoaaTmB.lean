import Derived.Test.YtakekdbclmgeoaaTpG
import Derived.Test.YtakekdbclmgeoaaTmA
import Derived.Test.YtakekdbclmgeoaaTmQ
import Derived.Test.YtakekdbclmgeoaaTmL
namespace Go.Proofs.Ytakekdbclmgeoaa
open Go.RowKit Go.Shelf
attribute [local go_sem] Oper.semAt_some
/-! TreeMasks. -/
theorem paths_okS {w : World} {b n cap : Nat} {P T D : Nat → Int} (h : RdA w (some ⟨b, 0, none⟩) 3 n cap (nds P T D)) (hk : okT n P T D) :
    Calls Try.prog 25 #[.slice (some ⟨b, 0, none⟩) n cap] w fun e w' => ∃ lb, e = .returned (.func (.func 37) #[] lb) ∧ (∀ (W : World) (S : Nat → Prop), Below w'.heap.size w' W → (∀ b, S b → b < w.heap.size) → Hands2 Try.prog 37 lb (lvL n P).length (ptG n P) (KpC S) W) ∧ Below w.heap.size w w' := by
  refine (paths_ok h hk).mono ?_
  rintro e w' ⟨B, u, c, rfl, hB, hB2, ho, f⟩
  refine ⟨_, rfl, fun W S hW hS => ?_, f⟩
  have hr := own_rda ho
  obtain ⟨g, rfl, hg1, hg, hc, _⟩ := ho.at_ hk.1
  have hsz := f.size
  have hsW := hW.size
  refine ptf_hands (ao := some ⟨g, 0, none⟩) (cap := c) hk (fun b hb => by have := hS b hb; omega) (fun V hV => ⟨?_, hr.le, hr.top, fun _ => ⟨g, 0, rfl, fun j hj => ?_⟩⟩)
  · refine hV.cell (fun hs => by have := hS _ hs; omega) (fresh_cell hW ?_)
    unfold World.cell?
    rw [hB]
    rfl
  · rw [Nat.zero_add]
    exact hV.cell (fun hs => by have := hS _ hs; omega) (fresh_cell hW (hc j hj))
theorem own_b0 {w : World} {base : Nat} {e : TypeId} {sz n c : Nat} {u : Option Addr} {cs : Nat → Value} (h : Own w base e sz (.slice u n c) n cs) (hn : 0 < n) : ∃ b, u = some ⟨b, 0, none⟩ := by
  obtain ⟨g, e, _⟩ := h.at_ hn
  exact ⟨g, e⟩
set_option maxRecDepth 100000 in
set_option maxHeartbeats 8000000 in
theorem masks_law {w : World} {ao : Option Addr} {n cap : Nat} {P T D : Nat → Int} (h : RdA w ao 3 n cap (nds P T D)) (hn : n * 24 ≤ 140737488351232) :
    Calls Try.prog 8 #[.slice ao n cap] w fun e w' => e = .returned (.bool true) ∧ Below w.heap.size w w' := by
  refine (callsIn_wide (n := 3)).1 ?_
  refine callsIn_of_wp_marks Try.func8 rfl trivial ?_ rfl
  simp only [Try.ntmps8, List.size_toArray, List.length_cons, List.length_nil, Nat.reduceAdd, Nat.reduceSub, Array.replicate_succ, Array.replicate_zero, List.push_toArray, List.append_toArray, List.nil_append, List.cons_append]
  have hf0 := fresh_alloc w (.cells #[.slice ao n cap] 29)
  have hf1 := fresh_trans hf0 (fresh_alloc _ (.cells #[.bool false] 4))
  have q0 := (row1_new w 29 (.slice ao n cap)).alloc (.cells #[.bool false] 4)
  have q1 := row1_new (w.alloc (.cells #[.slice ao n cap] 29)) 4 (.bool false)
  simp only [World.size_alloc] at q1
  gi_wp2_with fail
  generalize ((w.alloc (.cells #[.slice ao n cap] 29)).alloc (.cells #[.bool false] 4)) = w1 at *
  refine ⟨trivial, ?_⟩
  gi_at_call 27
  refine (callsIn_wide.2 (lives_any w1)).mono ?_
  rintro e w2 ⟨rfl, f2⟩
  have hF2 := fresh_trans hf1 f2
  have p0 := q0.of_block (f2.block _ q0.lt)
  have p1 := q1.of_block (f2.block _ q1.lt)
  clear q0 q1 hf0 hf1 f2
  obtain ⟨y0, _⟩ := row1 p0
  gi_wp2_with fail
  refine ⟨trivial, ?_⟩
  gi_at_call 28
  refine (callsIn_wide.2 (copyN_any (h.fresh hF2) hn)).mono ?_
  rintro e w3 ⟨u3, c3, rfl, ho3, f3⟩
  have hr3 := own_rda ho3
  have hF3 := fresh_trans hF2 f3
  have r0 := p0.of_block (f3.block _ p0.lt)
  have r1 := p1.of_block (f3.block _ p1.lt)
  clear p0 p1 f3 ho3 hF2 y0
  by_cases hk : okT n P T D
  · have h1n := hk.1
    have h2n := hk.2.1
    have HK := hidd hk
    gi_wp2_with fail
    refine ⟨trivial, ?_⟩
    gi_at_call 21
    refine (callsIn_wide.2 (above_ok hr3 hk)).mono ?_
    rintro e w4 ⟨u4, c4, rfl, hL, f4⟩
    have fA := fresh_alloc w4 (.cells #[.slice u4 n c4] 38)
    have rL := row1_new w4 38 (.slice u4 n c4)
    have f5 := fresh_trans f4 fA
    have s0 := r0.of_block (f5.block _ r0.lt)
    have s1 := r1.of_block (f5.block _ r1.lt)
    have hF5 := fresh_trans hF3 f5
    have HL5 := hidd (hL.fresh fA)
    obtain ⟨bl, ol, rfl, hcl⟩ := HL5.out.one (by omega)
    have HCL := hidd hcl
    have cl0 : (w4.alloc (.cells #[.slice (some ⟨bl, ol, none⟩) n c4] 38)).cell? ⟨bl, ol, none⟩ = some (.int .u64 1) := by
      have := hcl 0 (by omega)
      rw [Nat.add_zero] at this
      rw [this]
      unfold bF
      rw [abv]
      rfl
    have HNC := hL.le
    clear hcl hL f4 fA r0 r1 hr3 hk
    obtain ⟨y0, _⟩ := row1 s0
    obtain ⟨y1, _⟩ := row1 rL
    have K5 := hidd (rcheck_any (h.fresh hF5))
    rw [erT_ok HK.out] at K5
    gi_wp2_with fail
    generalize (w4.alloc (.cells #[.slice (some ⟨bl, ol, none⟩) n c4] 38)) = w5 at *
    generalize w4.heap.size = C at *
    refine ⟨trivial, ?_⟩
    gi_at_call 16
    refine (callsIn_wide.2 K5.out).mono ?_
    rintro e w6 ⟨rfl, f6⟩
    have t0 := s0.of_block (f6.block _ s0.lt)
    have t1 := s1.of_block (f6.block _ s1.lt)
    have tL := rL.of_block (f6.block _ rL.lt)
    have hF6 := fresh_trans hF5 f6
    have HC6 : Hid (∀ j, j < n → w6.cell? ⟨bl, ol + j, none⟩ = some (.int .u64 ((abv P j : Nat) : Int))) := fun j hj => fresh_cell f6 (HCL.out j hj)
    have cl6 := fresh_cell f6 cl0
    clear s0 s1 rL y0 y1 cl0 f6 HL5 HCL hF5 hF3 K5 f5
    obtain ⟨y0, _⟩ := row1 t0
    obtain ⟨y1, _⟩ := row1 tL
    have tn : ((n : Int) != (n : Int)) = false := by simp
    have gn : (0 : Int) < (n : Int) := by omega
    have gn' : 0 < n := by omega
    have hq := eql1 1
    gi_wp2_with fail
    clear hq cl6 gn gn' tn y0 y1
    have hsz6 := hF6.size
    gi_loopw [6] (fun v wr => ∃ i : Nat, 1 ≤ i ∧ i ≤ n ∧ v = .int .i64 (i : Int) ∧ Hid (Below w6.heap.size w6 wr)) (fun v _ => n - (intOf v).toNat)
    case atStart => exact ⟨1, by omega, by omega, rfl, Below.refl _ _⟩
    case round =>
      obtain ⟨i, hi1, hi2, rfl, HF⟩ := hrel
      have u0 := t0.of_block (HF.out.block _ t0.lt)
      have uL := tL.of_block (HF.out.block _ tL.lt)
      obtain ⟨y0, _⟩ := row1 u0
      obtain ⟨y1, _⟩ := row1 uL
      by_cases hlt : i < n
      · have d1 : decide ((i : Int) < (n : Int)) = true := decide_eq_true (by omega)
        have g1 : (i : Int) < (n : Int) := by omega
        obtain ⟨b1, o1, rfl, hc1⟩ := (h.fresh (fresh_trans hF6 HF.out)).node (by omega)
        obtain ⟨n1, _, _⟩ := hc1 i hlt
        obtain ⟨p1, p2, _⟩ := HK.out.2.2.2.2 i hi1 hlt
        obtain ⟨p, hp⟩ : ∃ p : Nat, P i = (p : Int) := ⟨(P i).toNat, by omega⟩
        rw [hp] at n1 p2
        have g2 : (p : Int) < (n : Int) := by omega
        have g3 : p < n := by omega
        have cp := fresh_cell HF.out (HC6.out p g3)
        have ci := fresh_cell HF.out (HC6.out i hlt)
        have HOR : Hid (abv P p ||| 2 ^ i = abv P i) := by
          have := abv_or HK.out hi1 hlt
          rw [hp, Int.toNat_natCast] at this
          exact this
        have ha := abv_32 HK.out g3
        obtain ⟨a, HA⟩ : ∃ a, Hid (a = abv P p) := ⟨_, rfl⟩
        obtain ⟨c, HC⟩ : ∃ c, Hid (c = abv P i) := ⟨_, rfl⟩
        rw [← HA.out] at cp ha
        rw [← HC.out] at ci
        have e7 : bits BinOp.or IntKind.u64 (a : Int) (IntKind.u64.wrap (2 ^ i)) = (c : Int) := by
          rw [or_shl (by omega) ha, HC.out, HA.out, HOR.out]
        have hq := eql1 (c : Int)
        have l1 := lt_of_cell ci
        have l2 := lt_of_cell y1
        clear hc1 hp p1 p2
        have y0' := fresh_cell (fresh_alloc wr (.cells #[.int .u64 0] 52)) y0
        have y1' := fresh_cell (fresh_alloc wr (.cells #[.int .u64 0] 52)) y1
        have n1' := fresh_cell (fresh_alloc wr (.cells #[.int .u64 0] 52)) n1
        have cp' := fresh_cell (fresh_alloc wr (.cells #[.int .u64 0] 52)) cp
        gi_wp2_with fail
        gi_region
        gi_wp2_with fail
        have z1 := fresh_cell (fresh_alloc wr (.cells #[.int .u64 (c : Int)] 52)) y1
        have zi := fresh_cell (fresh_alloc wr (.cells #[.int .u64 (c : Int)] 52)) ci
        gi_quiet (fail)
        gi_wp2_with fail
        go_roundw
        case rel => exact ⟨i + 1, by omega, by omega, by go_num, below_drewN (HF.out.alloc HF.out.size _) _⟩
        case measure => simp [intOf]; omega
      · obtain rfl : i = n := by omega
        have d1 : decide ((i : Int) < (i : Int)) = false := decide_eq_false (by omega)
        have rS := row1_new wr 52 (.int .u64 0)
        have y0' := fresh_cell (fresh_alloc wr (.cells #[.int .u64 0] 52)) y0
        gi_wp2_with fail
        obtain ⟨wz, hwz⟩ : ∃ x, x = wr := ⟨_, rfl⟩
        subst hwz
        have hFr := fresh_trans hF6 HF.out
        have fS := fresh_alloc wz (.cells #[.int .u64 0] 52)
        have v0 := u0.of_block (fS.block _ u0.lt)
        have vL := uL.of_block (fS.block _ uL.lt)
        have v1 := t1.of_block ((fresh_trans HF.out fS).block _ t1.lt)
        have hFs := fresh_trans hFr fS
        have HCS : Hid (∀ j, j < i → (wz.alloc (.cells #[.int .u64 0] 52)).cell? ⟨bl, ol + j, none⟩ = some (.int .u64 ((abv P j : Nat) : Int))) := fun j hj => fresh_cell (fresh_trans HF.out fS) (HC6.out j hj)
        have HWS : Hid ((wz.alloc (.cells #[.int .u64 0] 52)).heap.size = wz.heap.size + 1) := by show _ = _; simp
        have HWL : Hid (w.heap.size + 2 ≤ wz.heap.size) := by have := (t1.of_block (HF.out.block _ t1.lt)).lt; have := t0.lt; show _ ≤ _; omega
        have HU0 := hidd u0
        have HUL := hidd uL
        have HU1 := hidd (t1.of_block (HF.out.block _ t1.lt))
        have HCR : Hid (∀ j, j < i → wz.cell? ⟨bl, ol + j, none⟩ = some (.int .u64 ((abv P j : Nat) : Int))) := fun j hj => fresh_cell HF.out (HC6.out j hj)
        clear y0 y0' HF u0 uL t0 t1 tL hF6 hsz6 HC6
        generalize wz.alloc (.cells #[.int .u64 0] 52) = ws at *
        refine ⟨trivial, ?_⟩
        gi_at_call 28
        refine (callsIn_wide.2 (copyN_any (h.fresh hFs) hn)).mono ?_
        rintro e wa ⟨ua, ca, rfl, hoa, fa⟩
        obtain ⟨ba, rfl⟩ := own_b0 hoa (by omega)
        gi_wp2_with fail
        refine ⟨trivial, ?_⟩
        gi_at_call 25
        refine (callsIn_wide.2 (paths_okS (own_rda hoa) HK.out)).mono ?_
        rintro e wb ⟨lb, rfl, hit, fb⟩
        have HIT := hidd hit
        have HFA := hidd fa
        have fab := fresh_trans fa fb
        have xL := vL.of_block (fab.block _ vL.lt)
        have x0 := v0.of_block (fab.block _ v0.lt)
        have x1 := v1.of_block (fab.block _ v1.lt)
        have xS := rS.of_block (fab.block _ rS.lt)
        have hFb := fresh_trans hFs fab
        have hFrb : Below wz.heap.size wz wb := fresh_trans fS fab
        have HCB : Hid (∀ j, j < i → wb.cell? ⟨bl, ol + j, none⟩ = some (.int .u64 ((abv P j : Nat) : Int))) := fun j hj => fresh_cell fab (HCS.out j hj)
        have HSA := hidd fa.size
        have HSB := hidd fb.size
        clear hit fa fb hoa vL v0 v1 rS HCS hFs fab
        have hq := eqNilF (.func 37) #[] lb
        gi_wp2_with fail
        clear hq
        have hWr := hFr.size
        refine range_hands2 (gf := 37) (lb := lb) rfl (enters_of Try.func37 (by kernel_rfl) rfl) (HIT.out _ (fun b => b = wz.heap.size) (Below.refl _ _) (fun b e => by have := HSA.out; have := HWS.out; omega)) KpC.trans (fun V l o o' _ hV hc => KpC.put V l o o' hV hc)
          (fun k args V h => by obtain ⟨b, rfl, _⟩ := h; rfl) (fun k args V l o o' hl hV hc h => by obtain ⟨b, e, hP⟩ := h; exact ⟨b, e, row_put hV hc hP⟩)
          (fun k V => Below wz.heap.size wz V ∧ V.rowIs wz.heap.size 52 1 (fun _ => .int .u64 ((snB i P k : Nat) : Int)))
          (fun c k V => False)
          ?bears ?puts ?putsx ⟨hFrb, by simpa [snB] using xS⟩
          (fun args => { tmps := #[Value.slice ao i cap, Value.pointer (some { block := w.heap.size, off := 0 }), Value.pointer (some { block := w.heap.size + 1, off := 0 }), Value.bool true, Value.pointer (some { block := C, off := 0 }), Value.int IntKind.i64 0, Value.int IntKind.i64 ↑i, u7, Value.pointer (some { block := wz.heap.size, off := 0 }), Value.func (Fn.func 37) #[] lb, args.getD 0 undef, undef, undef, Value.bool true, Value.tuple #[Value.slice (some { block := bl, off := ol }) i c4, Value.int IntKind.i64 0], Value.slice ao i cap, Value.slice u3 i c3, Value.tuple #[Value.slice (some { block := bl, off := ol }) i c4, Value.int IntKind.i64 0], Value.slice (some { block := bl, off := ol }) i c4, Value.int IntKind.i64 0, Value.bool true, Value.bool false, Value.bool false, Value.int IntKind.i64 0, Value.bool true, Value.slice ao i cap, Value.int IntKind.i64 0, Value.bool true, Value.bool false, Value.bool false, Value.bool false, Value.int IntKind.i64 0, Value.bool false, Value.bool false, undef, undef, undef, undef, undef, undef, undef, undef, undef, undef, Value.slice (some { block := bl, off := ol }) i c4, Value.int IntKind.i64 ↑i, Value.slice ao i cap, Value.int IntKind.i64 ↑i, Value.bool false, Value.bool false, Value.slice (some { block := bl, off := ol }) i c4, Value.pointer (some { block := bl, off := ol }), Value.agg #[Value.int IntKind.u64 1], Value.agg #[Value.int IntKind.u64 1], Value.bool false, Value.bool false, Value.int IntKind.i64 ↑i, Value.slice ao i cap, Value.int IntKind.i64 ↑i, Value.bool false, u60, u61, u62, u63, u64, u65, u66, u67, u68, u69, u70, u71, u72, u73, u74, u75, u76, u77, u78, u79, u80, u81, u82, Value.slice ao i cap, Value.slice (some { block := ba, off := 0 }) i ca, Value.func (Fn.func 37) #[] lb, Value.func (Fn.func 37) #[] lb, Value.bool false, Value.func (Fn.func 37) #[] lb, args.getD 0 undef, undef, undef, undef, undef, undef, undef, undef, undef, undef, undef, undef, undef, undef, undef, undef, undef, undef, undef, undef, undef, undef, undef, undef, undef, undef, undef, undef, undef, undef, undef, undef, undef, undef, undef, undef, undef, undef, undef, undef, undef, undef, undef, undef, undef, undef, undef, undef, undef, undef, undef, undef, undef, undef, undef, undef, undef, undef, undef, undef, undef, undef, undef, undef, undef, undef, undef, undef, undef, undef, undef, undef, undef, undef, undef, undef, undef, undef, undef, undef, undef, undef, undef, undef, undef], defers := [] }) ?assign ?body ?done ?stop
        case bears =>
          rintro k V V' ⟨h1, h2⟩ f
          exact ⟨fresh_trans h1 f, h2.of_block (f.block _ h2.lt)⟩
        case puts =>
          rintro k V l o o' hl hV hc ⟨h1, h2⟩
          exact ⟨below_put hV (Nat.le_trans hFrb.size hl) h1, row_put hV hc h2⟩
        case putsx => exact fun c k V l o o' hl hV hc hx => hx
        case assign =>
          rintro l k args V K ⟨b, rfl, hP⟩ hK
          gi_wp2
          exact hK
        case stop => exact fun D c k V hD hk hx => hx.elim
        case done =>
          rintro D V hD ⟨h1, h2⟩ hKD
          have z1 := HU1.out.of_block (h1.block _ HU1.out.lt)
          obtain ⟨y0, _⟩ := row1 (HU0.out.of_block (h1.block _ HU0.out.lt))
          obtain ⟨yS, _⟩ := row1 h2
          have e0 := snB_all HK.out
          rw [e0] at yS
          obtain ⟨y1, f1⟩ := row1 z1
          have H2 := hidd (row1_set z1 (.bool true))
          have hFV := fresh_trans hFr h1
          have HLB := hidd (hFV.setCell (p := ⟨w.heap.size + 1, 0, none⟩) (by dsimp only; omega) (.bool true))
          have HMK : Hid ((V.setCell ⟨w.heap.size + 1, 0, none⟩ (.bool true)).heap[D]? = some (.deferred (some []))) := by
            show _ = _
            rw [Below.heap_setCell _ _ _ _ (by dsimp only; have := HWL.out; have := hFrb.size; omega)]
            exact hKD
          have e8 : IntKind.u64.wrap (IntKind.u64.wrap (2 ^ i) - 1) = ((2 ^ i - 1 : Nat) : Int) := by
            have h3 : 2 ^ i ≤ 2 ^ 32 := Nat.pow_le_pow_right (by decide) h2n
            have h4 : 1 ≤ 2 ^ i := Nat.one_le_two_pow
            rw [IntKind.wrap_u64, IntKind.wrap_u64, show ((2 : Int) ^ i) = ((2 ^ i : Nat) : Int) by simp]
            generalize 2 ^ i = y at h3 h4 ⊢
            omega
          obtain ⟨x, HX⟩ : ∃ x : Nat, Hid (x = 2 ^ i - 1) := ⟨2 ^ i - 1, rfl⟩
          rw [← HX.out] at yS e8
          clear h2 e0 z1 hFV hKD h1
          gi_wp2
          refine leaves_marks (B := wb.heap.size) (fun V => V.rowIs (w.heap.size + 1) 4 1 (fun _ => .bool true) ∧ Below w.heap.size w V) (fun V D hD hV ⟨h1, h2⟩ => ⟨row_put hV rfl h1, below_put hV (by have := hFb.size; omega) h2⟩) (fun V ⟨h1, h2⟩ => ?_) [D] _ (by simp) (fun E hE => by obtain rfl : E = D := (by simpa using hE); exact ⟨hD, HMK.out⟩) ⟨H2.out, HLB.out⟩
          exact ⟨.bool true, results_bool Try.results8 _ _ (w.heap.size + 1) true rfl (row1 h1).1, rfl, h2⟩
        case body =>
          rintro l k args V hk ⟨h1, h2⟩ ⟨b, rfl, hP⟩
          obtain ⟨z, HZ⟩ : ∃ z, Hid (z = (lvL i P).getD k 0) := ⟨_, rfl⟩
          have hz : z < i := by rw [HZ.out]; exact lvL_lt hk
          rw [← HZ.out] at hP ⊢
          obtain ⟨a2, a3, a1, a4, a5⟩ := wy_up HK.out z hz
          have HAB : Hid (orW (wy P z) (wy P z).length = abv P z) := orW_way HK.out z hz
          have hml := (wy_len HK.out z hz).1
          obtain ⟨L, HL⟩ : ∃ L, Hid (L = wy P z) := ⟨_, rfl⟩
          rw [← HL.out] at hP a2 a3 a1 a4 a5 HAB hml ⊢
          obtain ⟨m, HM⟩ : ∃ m, Hid (m = L.length) := ⟨_, rfl⟩
          rw [← HM.out] at hP a3 a1 a4 a5 HAB hml ⊢
          have HA2 := hidd a2
          have HA3 := hidd a3
          have HA4 := hidd a4
          have HA5 := hidd a5
          have HP := hidd hP
          simp only [show ∀ u : Value, (#[u] : Array Value).getD 0 undef = u from fun _ => rfl]
          have c0 : V.cell? ⟨b, 0, none⟩ = some (.int .i64 0) := by
            have := hP.cell (i := 0) (by omega)
            rw [this]
            unfold qF
            rw [a2]
            rfl
          have g0 : (0 : Int) < (m : Int) := by omega
          have g0' : 0 < m := by omega
          have g1 : decide ((m : Int) < 1) = false := decide_eq_false (by omega)
          have H1 := hidd h1
          have H2 := hidd h2
          have rB := row1_new V 52 (.int .u64 0)
          have fB := fresh_alloc V (.cells #[.int .u64 0] 52)
          clear a2 a3 a4 a5 h1 h2 hP
          gi_wp2_with fail
          clear c0 g1
          gi_loopw [12] (fun v wr => ∃ j : Nat, j ≤ m ∧ v = .int .i64 (j : Int) ∧ Hid (wr.rowIs V.heap.size 52 1 (fun _ => .int .u64 ((orW L j : Nat) : Int))) ∧ Hid (Below V.heap.size V wr)) (fun v _ => m - (intOf v).toNat)
          case atStart => exact ⟨0, by omega, rfl, (by show World.rowIs _ _ _ _ _; simpa [orW] using rB), fB⟩
          case round =>
            clear rB fB
            obtain ⟨j, hj, rfl, HB, HW⟩ := hrel
            have HRQ := hidd (fresh_trans H1.out HW.out)
            obtain ⟨y0, _⟩ := row1 (HU0.out.of_block (HRQ.out.block _ HU0.out.lt))
            obtain ⟨y1, _⟩ := row1 (HUL.out.of_block (HRQ.out.block _ HUL.out.lt))
            obtain ⟨sB, fzB⟩ := row1 HB.out
            by_cases hlt : j < m
            · have gj : (j : Int) < (m : Int) := by omega
              have dj : decide ((j : Int) < (m : Int)) = true := decide_eq_true gj
              obtain ⟨x, HX⟩ : ∃ x, Hid (x = L.getD j 0) := ⟨_, rfl⟩
              have hx : x < i := by rw [HX.out]; exact HA4.out j hlt
              have cx : wr.cell? ⟨b, j, none⟩ = some (.int .i64 (x : Int)) := by
                have := fresh_cell HW.out (HP.out.cell (i := j) hlt)
                rw [this, HX.out]
                rfl
              have dx : decide ((x : Int) < 0) = false := decide_eq_false (by omega)
              have dy : decide ((i : Int) ≤ (x : Int)) = false := decide_eq_false (by omega)
              have gx : (x : Int) < (i : Int) := by omega
              obtain ⟨s, HS⟩ : ∃ s, Hid (s = orW L j) := ⟨_, rfl⟩
              have hs : s < 4294967296 := by rw [HS.out]; exact orW_lt (fun q hq => by have := HA4.out q (by rw [HM.out]; exact hq); omega) j (by rw [← HM.out]; omega)
              obtain ⟨c, HC⟩ : ∃ c, Hid (c = s ||| 2 ^ x) := ⟨_, rfl⟩
              have HCN : Hid (c = orW L (j + 1)) := by show _ = _; rw [HC.out, HS.out, HX.out, orW]
              have e7 : bits BinOp.or IntKind.u64 (s : Int) (IntKind.u64.wrap (2 ^ x)) = (c : Int) := by rw [HC.out]; exact or_shl (by omega) hs
              have HEM : Hid (bits BinOp.or IntKind.u64 (s : Int) (IntKind.u64.wrap (2 ^ min x 64)) = (c : Int)) := by
                show _ = _
                rw [Nat.min_eq_left (by omega)]
                exact e7
              rw [← HS.out] at sB
              obtain ⟨b1, o1, rfl, hc1⟩ := (h.fresh (fresh_trans hFr HRQ.out)).node (by omega)
              obtain ⟨n1, _, _⟩ := hc1 x hx
              clear hc1
              by_cases hj0 : j = 0
              · subst hj0
                have dz : decide ((0 : Int) < ((0 : Nat) : Int)) = false := rfl
                gi_wp2_with fail
                refine wpIn_region_quietR (by kernel_rfl) (by kernel_rfl) (by kernel_rfl) ?_
                repeat (quiet_step_in (fail))
                refine wpQuietIn_nil ?_
                intro w9 hw9
                obtain ⟨nq, hw9⟩ := hw9
                subst hw9
                gi_wp2_with fail
                refine wpIn_region_outR (by kernel_rfl) rfl (by kernel_rfl) ?_
                refine wpAnyIn_take (i := 0) (v := ?v1) rfl rfl (by kernel_rfl) (by kernel_rfl) (by kernel_rfl) (fun _ _ _ h => h) ⟨Or.inl ⟨by rfl, ?hy1⟩, fun _ => rfl⟩ ?rest1
                case hy1 => (intro wz; go_simp; try with_reducible rfl)
                refine wpAnyIn_take (i := 2) (v := ?v2) rfl rfl (by kernel_rfl) (by kernel_rfl) (by kernel_rfl) (fun _ _ _ h => h) ⟨Or.inl ⟨by rfl, ?hy2⟩, fun _ => rfl⟩ ?rest2
                case hy2 => (intro wz; go_simp; try with_reducible rfl)
                refine wpAnyIn_take (i := 3) (v := ?v3) rfl rfl (by kernel_rfl) (by kernel_rfl) (by kernel_rfl) (fun _ _ _ h => h) ⟨Or.inl ⟨by rfl, ?hy3⟩, fun _ => rfl⟩ ?rest3
                case hy3 => (intro wz; go_simp; try with_reducible rfl)
                refine wpAnyIn_take (i := 4) (v := ?v4) rfl rfl (by kernel_rfl) (by kernel_rfl) (by kernel_rfl) (fun _ _ _ h => h) ⟨Or.inl ⟨by rfl, ?hy4⟩, fun _ => rfl⟩ ?rest4
                case hy4 => (intro wz; go_simp; try with_reducible rfl)
                refine wpAnyIn_ready (rs := [1, 5]) (by kernel_rfl) (by simp) ?_
                refine AllReadyIn.cons rfl (fun K hK => ?_) (AllReadyIn.cons rfl (fun K hK => ?_) AllReadyIn.nil)
                · go_simp
                  refine hK _ _ ?_
                  clear hK K
                  refine wpAnyIn_ready (rs := [5]) (by kernel_rfl) (by simp) ?_
                  refine AllReadyIn.cons rfl (fun K hK => ?_) AllReadyIn.nil
                  go_simp
                  refine hK _ _ ?_
                  clear hK K
                  refine wpAnyIn_take (i := 6) (v := ?v5) rfl rfl (by kernel_rfl) (by kernel_rfl) (by kernel_rfl) (fun _ _ _ h => h) ⟨Or.inl ⟨by rfl, ?hy5⟩, fun _ => rfl⟩ ?rest5
                  case hy5 => (intro wz; go_simp; try with_reducible rfl)
                  refine wpAnyIn_take (i := 7) (v := ?v6) rfl rfl (by kernel_rfl) (by kernel_rfl) (by kernel_rfl) (fun _ _ _ h => h) ⟨Or.inl ⟨by rfl, ?hy6⟩, fun _ => rfl⟩ ?rest6
                  case hy6 => (intro wz; go_simp; try with_reducible rfl)
                  refine wpAnyIn_take (i := 8) (v := ?v7) rfl rfl (by kernel_rfl) (by kernel_rfl) (by kernel_rfl) (fun _ _ _ h => h) ⟨Or.inl ⟨by rfl, ?hy7⟩, fun _ => rfl⟩ ?rest7
                  case hy7 => (intro wz; go_simp; try with_reducible rfl)
                  refine wpAnyIn_take (i := 9) (v := ?v8) rfl rfl (by kernel_rfl) (by kernel_rfl) (by kernel_rfl) (fun _ _ _ h => h) ⟨Or.inl ⟨by rfl, ?hy8⟩, fun _ => rfl⟩ ?rest8
                  case hy8 => (intro wz; go_simp; try with_reducible rfl)
                  refine wpAnyIn_ready (rs := [10]) (by kernel_rfl) (by simp) ?_
                  refine AllReadyIn.cons rfl (fun K hK => ?_) AllReadyIn.nil
                  go_simp
                  refine hK _ _ ?_
                  clear hK K
                  refine wpAnyIn_done (by kernel_rfl) ?_ _
                  gi_wp2
                  go_roundw
                  case rel =>
                    refine ⟨0 + 1, by omega, by go_num, ?_, ?_⟩
                    · show World.rowIs _ _ _ _ _
                      rw [HEM.out, ← HCN.out]
                      exact row1_set (HB.out.of_block (show (wr.drewN (nq + 1)).heap[_]? = wr.heap[_]? from rfl)) _
                    · exact (below_drewN HW.out _).setCell (Nat.le_refl _) _
                  case measure => simp [intOf]; omega
                · go_simp
                  refine hK _ _ ?_
                  clear hK K
                  refine wpAnyIn_take (i := 6) (v := ?v9) rfl rfl (by kernel_rfl) (by kernel_rfl) (by kernel_rfl) (fun _ _ _ h => h) ⟨Or.inl ⟨by rfl, ?hy9⟩, fun _ => rfl⟩ ?rest9
                  case hy9 => (intro wz; go_simp; try with_reducible rfl)
                  refine wpAnyIn_take (i := 7) (v := ?v10) rfl rfl (by kernel_rfl) (by kernel_rfl) (by kernel_rfl) (fun _ _ _ h => h) ⟨Or.inl ⟨by rfl, ?hy10⟩, fun _ => rfl⟩ ?rest10
                  case hy10 => (intro wz; go_simp; try with_reducible rfl)
                  refine wpAnyIn_ready (rs := [1]) (by kernel_rfl) (by simp) ?_
                  refine AllReadyIn.cons rfl (fun K hK => ?_) AllReadyIn.nil
                  go_simp
                  refine hK _ _ ?_
                  clear hK K
                  refine wpAnyIn_take (i := 8) (v := ?v11) rfl rfl (by kernel_rfl) (by kernel_rfl) (by kernel_rfl) (fun _ _ _ h => h) ⟨Or.inl ⟨by rfl, ?hy11⟩, fun _ => rfl⟩ ?rest11
                  case hy11 => (intro wz; go_simp; try with_reducible rfl)
                  refine wpAnyIn_take (i := 9) (v := ?v12) rfl rfl (by kernel_rfl) (by kernel_rfl) (by kernel_rfl) (fun _ _ _ h => h) ⟨Or.inl ⟨by rfl, ?hy12⟩, fun _ => rfl⟩ ?rest12
                  case hy12 => (intro wz; go_simp; try with_reducible rfl)
                  refine wpAnyIn_ready (rs := [10]) (by kernel_rfl) (by simp) ?_
                  refine AllReadyIn.cons rfl (fun K hK => ?_) AllReadyIn.nil
                  go_simp
                  refine hK _ _ ?_
                  clear hK K
                  refine wpAnyIn_done (by kernel_rfl) ?_ _
                  gi_wp2
                  go_roundw
                  case rel =>
                    refine ⟨0 + 1, by omega, by go_num, ?_, ?_⟩
                    · show World.rowIs _ _ _ _ _
                      rw [HEM.out, ← HCN.out]
                      exact row1_set (HB.out.of_block (show (wr.drewN (nq + 1)).heap[_]? = wr.heap[_]? from rfl)) _
                    · exact (below_drewN HW.out _).setCell (Nat.le_refl _) _
                  case measure => simp [intOf]; omega
              · have dz : decide ((0 : Int) < (j : Int)) = true := decide_eq_true (by omega)
                have dz2 : decide (0 < j) = true := decide_eq_true (by omega)
                have hjpos : 0 < j := by omega
                obtain ⟨jp, hjp⟩ : ∃ jp, j = jp + 1 := ⟨j - 1, by omega⟩
                have hpx : P x = ((L.getD jp 0 : Nat) : Int) := by rw [HX.out, hjp]; exact HA5.out jp (by omega)
                obtain ⟨q, HQ⟩ : ∃ q, Hid (q = L.getD jp 0) := ⟨_, rfl⟩
                rw [← HQ.out] at hpx
                rw [hpx] at n1
                have cq : wr.cell? ⟨b, jp, none⟩ = some (.int .i64 (q : Int)) := by
                  have := fresh_cell HW.out (HP.out.cell (i := jp) (by omega))
                  rw [this, HQ.out]
                  rfl
                have ej : IntKind.i64.wrap ((j : Int) - 1) = (jp : Int) := by rw [IntKind.wrap_i64]; omega
                have gj2 : (jp : Int) < (m : Int) := by omega
                have gj4 : jp < m := by omega
                have HJP := hidd hjp
                clear hjp
                clear hpx
                gi_wp2_with fail
                refine wpIn_region_quietR (by kernel_rfl) (by kernel_rfl) (by kernel_rfl) ?_
                repeat (quiet_step_in (fail))
                refine wpQuietIn_nil ?_
                intro w9 hw9
                obtain ⟨nq, hw9⟩ := hw9
                subst hw9
                gi_wp2_with fail
                refine wpIn_region_outR (by kernel_rfl) rfl (by kernel_rfl) ?_
                refine wpAnyIn_take (i := 0) (v := ?v13) rfl rfl (by kernel_rfl) (by kernel_rfl) (by kernel_rfl) (fun _ _ _ h => h) ⟨Or.inl ⟨by rfl, ?hy13⟩, fun _ => rfl⟩ ?rest13
                case hy13 => (intro wz; go_simp; try with_reducible rfl)
                refine wpAnyIn_take (i := 2) (v := ?v14) rfl rfl (by kernel_rfl) (by kernel_rfl) (by kernel_rfl) (fun _ _ _ h => h) ⟨Or.inl ⟨by rfl, ?hy14⟩, fun _ => rfl⟩ ?rest14
                case hy14 => (intro wz; go_simp; try with_reducible rfl)
                refine wpAnyIn_take (i := 3) (v := ?v15) rfl rfl (by kernel_rfl) (by kernel_rfl) (by kernel_rfl) (fun _ _ _ h => h) ⟨Or.inl ⟨by rfl, ?hy15⟩, fun _ => rfl⟩ ?rest15
                case hy15 => (intro wz; go_simp; try with_reducible rfl)
                refine wpAnyIn_take (i := 4) (v := ?v16) rfl rfl (by kernel_rfl) (by kernel_rfl) (by kernel_rfl) (fun _ _ _ h => h) ⟨Or.inl ⟨by rfl, ?hy16⟩, fun _ => rfl⟩ ?rest16
                case hy16 => (intro wz; go_simp; try with_reducible rfl)
                refine wpAnyIn_ready (rs := [1, 5]) (by kernel_rfl) (by simp) ?_
                refine AllReadyIn.cons rfl (fun K hK => ?_) (AllReadyIn.cons rfl (fun K hK => ?_) AllReadyIn.nil)
                · go_simp
                  refine hK _ _ ?_
                  clear hK K
                  refine wpAnyIn_ready (rs := [5]) (by kernel_rfl) (by simp) ?_
                  refine AllReadyIn.cons rfl (fun K hK => ?_) AllReadyIn.nil
                  go_simp
                  refine hK _ _ ?_
                  clear hK K
                  refine wpAnyIn_take (i := 6) (v := ?v17) rfl rfl (by kernel_rfl) (by kernel_rfl) (by kernel_rfl) (fun _ _ _ h => h) ⟨Or.inl ⟨by rfl, ?hy17⟩, fun _ => rfl⟩ ?rest17
                  case hy17 => (intro wz; go_simp; try with_reducible rfl)
                  refine wpAnyIn_take (i := 7) (v := ?v18) rfl rfl (by kernel_rfl) (by kernel_rfl) (by kernel_rfl) (fun _ _ _ h => h) ⟨Or.inl ⟨by rfl, ?hy18⟩, fun _ => rfl⟩ ?rest18
                  case hy18 => (intro wz; go_simp; try with_reducible rfl)
                  refine wpAnyIn_take (i := 8) (v := ?v19) rfl rfl (by kernel_rfl) (by kernel_rfl) (by kernel_rfl) (fun _ _ _ h => h) ⟨Or.inl ⟨by rfl, ?hy19⟩, fun _ => rfl⟩ ?rest19
                  case hy19 => (intro wz; go_simp; try with_reducible rfl)
                  refine wpAnyIn_take (i := 9) (v := ?v20) rfl rfl (by kernel_rfl) (by kernel_rfl) (by kernel_rfl) (fun _ _ _ h => h) ⟨Or.inl ⟨by rfl, ?hy20⟩, fun _ => rfl⟩ ?rest20
                  case hy20 => (intro wz; go_simp; try with_reducible rfl)
                  refine wpAnyIn_ready (rs := [10]) (by kernel_rfl) (by simp) ?_
                  refine AllReadyIn.cons rfl (fun K hK => ?_) AllReadyIn.nil
                  go_simp
                  refine hK _ _ ?_
                  clear hK K
                  refine wpAnyIn_done (by kernel_rfl) ?_ _
                  gi_wp2
                  go_roundw
                  case rel =>
                    refine ⟨j + 1, by omega, by go_num, ?_, ?_⟩
                    · show World.rowIs _ _ _ _ _
                      rw [HEM.out, ← HCN.out]
                      exact row1_set (HB.out.of_block (show (wr.drewN (nq + 1)).heap[_]? = wr.heap[_]? from rfl)) _
                    · exact (below_drewN HW.out _).setCell (Nat.le_refl _) _
                  case measure => simp [intOf]; omega
                · go_simp
                  refine hK _ _ ?_
                  clear hK K
                  refine wpAnyIn_take (i := 6) (v := ?v21) rfl rfl (by kernel_rfl) (by kernel_rfl) (by kernel_rfl) (fun _ _ _ h => h) ⟨Or.inl ⟨by rfl, ?hy21⟩, fun _ => rfl⟩ ?rest21
                  case hy21 => (intro wz; go_simp; try with_reducible rfl)
                  refine wpAnyIn_take (i := 7) (v := ?v22) rfl rfl (by kernel_rfl) (by kernel_rfl) (by kernel_rfl) (fun _ _ _ h => h) ⟨Or.inl ⟨by rfl, ?hy22⟩, fun _ => rfl⟩ ?rest22
                  case hy22 => (intro wz; go_simp; try with_reducible rfl)
                  refine wpAnyIn_ready (rs := [1]) (by kernel_rfl) (by simp) ?_
                  refine AllReadyIn.cons rfl (fun K hK => ?_) AllReadyIn.nil
                  go_simp
                  refine hK _ _ ?_
                  clear hK K
                  refine wpAnyIn_take (i := 8) (v := ?v23) rfl rfl (by kernel_rfl) (by kernel_rfl) (by kernel_rfl) (fun _ _ _ h => h) ⟨Or.inl ⟨by rfl, ?hy23⟩, fun _ => rfl⟩ ?rest23
                  case hy23 => (intro wz; go_simp; try with_reducible rfl)
                  refine wpAnyIn_take (i := 9) (v := ?v24) rfl rfl (by kernel_rfl) (by kernel_rfl) (by kernel_rfl) (fun _ _ _ h => h) ⟨Or.inl ⟨by rfl, ?hy24⟩, fun _ => rfl⟩ ?rest24
                  case hy24 => (intro wz; go_simp; try with_reducible rfl)
                  refine wpAnyIn_ready (rs := [10]) (by kernel_rfl) (by simp) ?_
                  refine AllReadyIn.cons rfl (fun K hK => ?_) AllReadyIn.nil
                  go_simp
                  refine hK _ _ ?_
                  clear hK K
                  refine wpAnyIn_done (by kernel_rfl) ?_ _
                  gi_wp2
                  go_roundw
                  case rel =>
                    refine ⟨j + 1, by omega, by go_num, ?_, ?_⟩
                    · show World.rowIs _ _ _ _ _
                      rw [HEM.out, ← HCN.out]
                      exact row1_set (HB.out.of_block (show (wr.drewN (nq + 1)).heap[_]? = wr.heap[_]? from rfl)) _
                    · exact (below_drewN HW.out _).setCell (Nat.le_refl _) _
                  case measure => simp [intOf]; omega
            · have hjm : j = m := by omega
              subst hjm
              have dj : decide ((j : Int) < (j : Int)) = false := decide_eq_false (by omega)
              obtain ⟨jp, hjp⟩ : ∃ jp, j = jp + 1 := ⟨j - 1, by omega⟩
              have cz : wr.cell? ⟨b, jp, none⟩ = some (.int .i64 (z : Int)) := by
                have := fresh_cell HW.out (HP.out.cell (i := jp) (by omega))
                have e3 := HA3.out
                rw [show j - 1 = jp by omega] at e3
                rw [this]
                unfold qF
                rw [e3]
              have ej : IntKind.i64.wrap ((j : Int) - 1) = (jp : Int) := by rw [IntKind.wrap_i64]; omega
              have gj2 : (jp : Int) < (j : Int) := by omega
              have gj4 : jp < j := by omega
              have HJP := hidd hjp
              have gz : (z : Int) < (i : Int) := by omega
              have cl := fresh_cell HRQ.out (HCR.out z hz)
              rw [HAB.out] at sB
              have ha := abv_32 HK.out hz
              have hsn := snB_lt HK.out k (by omega)
              obtain ⟨c, HC⟩ : ∃ c, Hid (c = snB i P (k + 1)) := ⟨_, rfl⟩
              obtain ⟨yS, fzS⟩ := row1 (H2.out.of_block (HW.out.block _ H2.out.lt))
              have e9 : bits BinOp.or IntKind.u64 ((snB i P k : Nat) : Int) ((abv P z : Nat) : Int) = (c : Int) := by
                rw [HC.out, snB, ← HZ.out]
                exact u64_or_nat _ _ (by omega) (by omega)
              generalize abv P z = a at cl sB e9 ha
              generalize hSN : snB i P k = sn at yS e9
              have hq := eql1 (a : Int)
              clear hjp fzB hSN
              gi_wp2_with fail
              refine wpIn_region_quietR (by kernel_rfl) (by kernel_rfl) (by kernel_rfl) ?_
              repeat (quiet_step_in (fail))
              refine wpQuietIn_nil ?_
              intro w9 hw9
              obtain ⟨nq, hw9⟩ := hw9
              subst hw9
              gi_wp2
              have hbq : Below V.heap.size V (wr.drewN nq) := fresh_trans HW.out (fresh_drewN _ _)
              refine ⟨(keepsFrom_mono (keepsFrom_below hbq) (Nat.zero_le _)).trans ((KeepsOthers.setCell _ _ _).from _), (KpC.of_below hbq).trans ⟨by simp, fun b o hb h1 _ => (Below.heap_setCell _ _ _ _ hb).trans h1⟩, (fresh_trans H1.out hbq).setCell (Nat.le_refl _) _, ?_⟩
              rw [← HC.out]
              exact row1_set (H2.out.of_block (hbq.block _ H2.out.lt)) _
  · have K4 := hidd (above_bad hr3 hk)
    gi_wp2_with fail
    refine ⟨trivial, ?_⟩
    gi_at_call 21
    refine (callsIn_wide.2 K4.out).mono ?_
    rintro e w4 ⟨rfl, f4⟩
    have fA := fresh_alloc w4 (.cells #[.slice none 0 0] 38)
    have f5 := fresh_trans f4 fA
    have s0 := r0.of_block (f5.block _ r0.lt)
    have s1 := r1.of_block (f5.block _ r1.lt)
    have hF5 := fresh_trans hF3 f5
    have hZ1 : (140 : Int) ≠ 0 := by decide
    clear f4 fA r0 r1 hr3 K4
    obtain ⟨y0, _⟩ := row1 s0
    have K5 := hidd (rcheck_any (h.fresh hF5))
    rw [erT_bad hk] at K5
    gi_wp2_with fail
    generalize (w4.alloc (.cells #[.slice none 0 0] 38)) = w5 at *
    generalize w4.heap.size = C at *
    refine ⟨trivial, ?_⟩
    gi_at_call 16
    refine (callsIn_wide.2 K5.out).mono ?_
    rintro e w6 ⟨rfl, f6⟩
    have t0 := s0.of_block (f6.block _ s0.lt)
    have t1 := s1.of_block (f6.block _ s1.lt)
    have hF6 := fresh_trans hF5 f6
    have K6 := hidd (rcheck_any (h.fresh hF6))
    rw [erT_bad hk] at K6
    clear s0 s1 y0 f6 K5 hk f5 hF5 hF3
    obtain ⟨y0, _⟩ := row1 t0
    gi_wp2_with fail
    refine ⟨trivial, ?_⟩
    gi_at_call 16
    refine (callsIn_wide.2 K6.out).mono ?_
    rintro e w7 ⟨rfl, f7⟩
    have v1 := t1.of_block (f7.block _ t1.lt)
    have hF7 := fresh_trans hF6 f7
    obtain ⟨y1, y2⟩ := row1 v1
    have H2 := hidd (row1_set v1 (.bool true))
    have HL := hidd (hF7.setCell (p := ⟨w.heap.size + 1, 0, none⟩) (by dsimp only; omega) (.bool true))
    clear t0 t1 hF6 K6 y0 hF7 v1
    gi_wp2
    exact ⟨.bool true, results_bool Try.results8 _ _ (w.heap.size + 1) true rfl (row1 H2.out).1, rfl, HL.out⟩
end Go.Proofs.Ytakekdbclmgeoaa
